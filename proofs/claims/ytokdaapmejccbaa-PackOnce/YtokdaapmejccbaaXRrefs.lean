import Derived.Test.YtokdaapmejccbaaXRexpr
import Derived.Test.YtokdaapmejccbaaXShelf
namespace Go.Proofs.Ytokdaapmejccbaa
open Go.RowKit
set_option linter.unusedVariables false
/-- The names so far, and one node more. -/
def refStep (acc : List ByteArray) (x : Int × Ex) : List ByteArray := if x.2.k = 4 ∧ Lib.containsS acc x.2.t = false then acc ++ [x.2.t] else acc
def refsOf (l : List (Int × Ex)) : List ByteArray := l.foldl refStep []
theorem refsOf_snoc (l : List (Int × Ex)) (x : Int × Ex) : refsOf (l ++ [x]) = refStep (refsOf l) x := by simp [refsOf]
theorem refStep_len (acc : List ByteArray) (x : Int × Ex) : (refStep acc x).length ≤ acc.length + 1 := by
  unfold refStep; split <;> simp
theorem refsOf_take (l : List (Int × Ex)) (i : Nat) (x : Int × Ex) (h : l[i]? = some x) : refsOf (l.take (i + 1)) = refStep (refsOf (l.take i)) x := by
  rw [List.take_add_one, h, Option.toList_some, refsOf_snoc]
theorem foldl_len : ∀ (l : List (Int × Ex)) (acc : List ByteArray), (l.foldl refStep acc).length ≤ acc.length + l.length
  | [], acc => by simp
  | x :: r, acc => by
    have h1 := foldl_len r (refStep acc x)
    have h2 := refStep_len acc x
    rw [List.foldl_cons, List.length_cons]
    omega
theorem refsOf_len (l : List (Int × Ex)) : (refsOf l).length ≤ l.length := by
  have := foldl_len l []
  simpa [refsOf] using this
theorem Try.info9 : (Try.prog.info? 9).map (fun i => (i.zero, i.size, i.bytes)) = some (some (.string ByteArray.empty), 1, 16) := by kernel_rfl
def scs (l : List ByteArray) : List Value := l.map Value.string
/-- A slice of texts of the call's own. -/
def Ss (w : World) (base : Nat) (v : Value) (l : List ByteArray) : Prop := w.ownsRow base 9 1 v l.length (scs l)
theorem Ss.form {w : World} {base : Nat} {v : Value} {l : List ByteArray} (h : Ss w base v l) : ∃ a c, v = .slice a l.length c := by
  rcases h.2 with ⟨rfl, h0⟩ | ⟨g, cap, cur, rfl, _⟩
  · exact ⟨none, 0, by rw [h0]⟩
  · exact ⟨_, _, rfl⟩
theorem Ss.below {w w' : World} {base : Nat} {v : Value} {l : List ByteArray} (h : Ss w base v l) (hb : Below w.heap.size w w') : Ss w' base v l := by
  obtain ⟨h1, h2⟩ := h
  refine ⟨h1, ?_⟩
  rcases h2 with h2 | ⟨g, cap, cur, hv, hg, hh, r⟩
  · exact Or.inl h2
  · refine Or.inr ⟨g, cap, cur, hv, hg, ?_, r⟩
    rw [hb.block g (Array.getElem?_eq_some_iff.1 hh).1]; exact hh
theorem Ss.mono {w : World} {base base' : Nat} {v : Value} {l : List ByteArray} (h : Ss w base v l) (hb : base' ≤ base) : Ss w base' v l := by
  refine ⟨h.1, ?_⟩
  rcases h.2 with h2 | ⟨g, cap, cur, hv, hg, r⟩
  · exact Or.inl h2
  · exact Or.inr ⟨g, cap, cur, hv, by omega, r⟩
theorem Ss.cells {w : World} {N g n c : Nat} {l : List ByteArray} (h : Ss w N (.slice (some ⟨g, 0, none⟩) n c) l) : ∀ j, j < l.length → w.cell? ⟨g, 0 + j, none⟩ = some (.string (l.getD j ByteArray.empty)) := fun j hj => by
  have h2 := World.ownsRow.cells h (g := g) rfl j (.string (l.getD j ByteArray.empty)) (by simp [scs, List.getD, List.getElem?_eq_getElem hj])
  rwa [Addr.add_lit] at h2
theorem Ss.contains {w : World} {N : Nat} {v : Value} {l : List ByteArray} (h : Ss w N v l) (hl : l.length ≤ 100) (x : ByteArray) : Calls Try.prog 127 #[v, .string x] w fun e w' => e = .returned (.bool (Lib.containsS l x)) ∧ w' = w := by
  rcases h.2 with ⟨rfl, h0⟩ | ⟨g, cap, cur, rfl, _⟩
  · have : l = [] := List.eq_nil_of_length_eq_zero h0
    subst this
    exact Try.slices_Contains_string_empty none 0 x w
  · have := Try.slices_Contains_string g 0 l.length cap l x w (Nat.le_refl _) (by omega) h.cells
    rwa [List.take_length] at this
set_option maxRecDepth 20000 in
set_option maxHeartbeats 2000000 in
theorem rrefs_any (e : Ex) (w : World) (hin : e.In w.heap.size w) :
    Calls Try.prog 99 #[e.val] w fun r W' => ∃ v, r = .returned v ∧ Ss W' w.heap.size v (refsOf (rnodes e)) ∧ Below w.heap.size w W' := by
  obtain ⟨i0, hi, hz⟩ : ∃ i0, Try.prog.info? 9 = some i0 ∧ (i0.zero, i0.size, i0.bytes) = (some (.string ByteArray.empty), 1, 16) := by
    simpa [Option.map_eq_some_iff] using Try.info9
  simp only [Prod.mk.injEq] at hz
  obtain ⟨hz0, hz1, hz2⟩ := hz
  have hA := (Below.refl w.heap.size w).alloc (Nat.le_refl _) (.cells e.cells 57)
  have hno := rnodes_any e (w.alloc (.cells e.cells 57)) (hin.grow hA)
  have HE : Hid (∀ {W1 : World}, Below (w.alloc (.cells e.cells 57)).heap.size (w.alloc (.cells e.cells 57)) W1 → Below w.heap.size w W1) := fun hb => hA.trans (hb.mono (by simp))
  have hpos := rnodes_pos e
  have h61 := rnodes_len e
  rw [val_eq] at hno ⊢
  generalize rnodes e = l at *
  rw [cells_eq] at hno
  go_enter Try.func99, Try.ntmps99
  go_wp2_with (go_at_call 40; refine hno.mono ?_; rintro r W1 ⟨v, rfl, hNd, hb1⟩; rw [← cells_eq] at hb1; obtain ⟨g, cap, rfl, -, -⟩ := World.ownsRow.form hNd hpos; have HB1 : Hid (Below w.heap.size w W1 ∧ Nd W1 (w.alloc (.cells e.cells 57)).heap.size (.slice (some ⟨g, 0, none⟩) l.length cap) l) := ⟨HE.out hb1, hNd⟩; clear hb1 hNd hno HE hA)
  go_loopw [3, 9] (fun p q wr => ∃ (i : Nat) (ao : Option Addr) (co : Nat), p = .slice ao (refsOf (l.take i)).length co ∧ q = .int .i64 i ∧ i ≤ l.length ∧ Hid (Ss wr W1.heap.size p (refsOf (l.take i)) ∧ Below W1.heap.size W1 wr)) (fun _ q _ => l.length - (intOf q).toNat)
  case atStart => exact ⟨0, none, 0, rfl, rfl, Nat.zero_le _, World.ownsRow_nil _ _ _ _, Below.refl _ _⟩
  case round =>
    obtain ⟨i, ao, co, rfl, rfl, hil, HQ⟩ := hrel
    have HBw : Hid (Below w.heap.size w wr) := HB1.out.1.trans (HQ.out.2.mono HB1.out.1.size)
    by_cases hend : i = l.length
    · have HS : Hid (Ss wr w.heap.size (.slice ao (refsOf (l.take i)).length co) (refsOf l)) := by
        have h1 := HQ.out.1
        rw [hend, List.take_length] at h1 ⊢
        exact Ss.mono h1 HB1.out.1.size
      have g1 : decide (i < l.length) = false := by simp; omega
      clear hend
      go_wp2_with fail
      go_ret
      exact ⟨_, rfl, HS.out, HBw.out⟩
    · have hlt : i < l.length := by omega
      clear hend
      obtain ⟨x, hx⟩ : ∃ x, l[i]? = some x := ⟨_, List.getElem?_eq_getElem hlt⟩
      have hc := (HB1.out.2.below HQ.out.2).at hx
      have c0 := hc 0 (by omega)
      have c1 := hc 1 (by omega)
      have c2 := hc 2 (by omega)
      have c3 := hc 3 (by omega)
      have c4 := hc 4 (by omega)
      have c5 := hc 5 (by omega)
      have c6 := hc 6 (by omega)
      have c7 := hc 7 (by omega)
      rw [ncell_eq] at c0 c1 c2 c3 c4 c5 c6 c7
      simp only [List.getElem?_toArray, List.getElem?_cons_zero, List.getElem?_cons_succ, Nat.add_zero] at c0 c1 c2 c3 c4 c5 c6 c7
      have HT : Hid (refsOf (l.take (i + 1)) = refStep (refsOf (l.take i)) x) := refsOf_take l i x hx
      have hrl : (refsOf (l.take i)).length ≤ 61 := by
        have h1 := refsOf_len (l.take i)
        rw [List.length_take] at h1
        omega
      generalize refsOf (l.take i) = rs at *
      have hA3 := HQ.out.2.alloc HQ.out.2.size (.cells (ncell x).toArray 80)
      have hS3 := HQ.out.1.below ((Below.refl _ wr).alloc (Nat.le_refl _) (.cells (ncell x).toArray 80))
      have hcon := hS3.contains (by omega) x.2.t
      rw [ncell_eq] at hcon hA3 hS3
      have HA3 : Hid _ := hA3
      have HS3 : Hid _ := hS3
      have hs5 : W1.heap.size ≤ wr.heap.size := HQ.out.2.size
      clear hA3 hS3 hx hc HQ HBw hpos
      by_cases hk : x.2.k = 4
      · have g2 : (x.2.k == 4) = true := by simpa using hk
        cases hcs : Lib.containsS rs x.2.t with
        | true =>
          have HT2 : Hid (refsOf (l.take (i + 1)) = rs) := by
            unfold Hid; rw [HT.out]; unfold refStep; rw [if_neg (by rw [hcs]; simp)]
          rw [hcs] at hcon
          clear hcs HT hk
          go_wp2_with (go_at_call 127; refine hcon.mono ?_; clear hcon; rintro r W4 ⟨rfl, rfl⟩)
          exact ⟨⟨i + 1, ao, co, by rw [HT2.out], by go_num, by omega, by rw [HT2.out]; exact ⟨HS3.out, HA3.out⟩⟩, by simp [intOf]; omega⟩
        | false =>
          have HT2 : Hid (refsOf (l.take (i + 1)) = rs ++ [x.2.t]) := by
            unfold Hid; rw [HT.out]; unfold refStep; rw [if_pos ⟨hk, hcs⟩]
          rw [hcs] at hcon
          clear hcs HT hk
          go_wp2_with (first
            | (go_at_call 127; refine hcon.mono ?_; clear hcon; rintro r W4 ⟨rfl, rfl⟩)
            | (at_builtin; refine wpList_append_own _ rfl _ _ 168 rfl W1.heap.size 9 i0 _ 1 16 Try.underlying168 hi hz0 hz1 hz2 rfl (by decide) _ _ _ rfl (World.ownsRow.alloc HS3.out _) ⟨wr.heap.size + 1, 0, none⟩ 1 1 [.string x.2.t] rfl rfl ?c1 ?c2 ?c3 ?c4 ?c5 ?_))
          case c1 => intro j u hu; match j, hu with | 0, hu => (simp at hu; subst hu; simp [Addr.add])
          case c2 => intro u hu; simp at hu; subst hu; rfl
          case c3 => unfold maxLen; omega
          case c4 => omega
          case c5 => simp; omega
          intro v8 w8 hown8 hgrow8 _
          obtain ⟨g8, cap8, rfl, -, -⟩ := World.ownsRow.form hown8 (by omega)
          have hB8 := (HA3.out.alloc (by simp; omega) (.cells #[.string x.2.t] 9)).grown hgrow8 (by simp; omega) (fun q hq => (World.ownsRow.lt HS3.out q hq).1)
          have hN8 : Hid (Ss w8 W1.heap.size (.slice (some ⟨g8, 0, none⟩) (rs.length + 1) cap8) (refsOf (l.take (i + 1))) ∧ Below W1.heap.size W1 w8) := by
            refine ⟨?_, hB8⟩
            unfold Ss
            rw [HT2.out, List.length_append]
            simpa [scs] using hown8
          clear hown8 hgrow8 hB8 HA3 HS3
          go_wp2_with fail
          exact ⟨⟨i + 1, some ⟨g8, 0, none⟩, cap8, by rw [HT2.out]; simp, by go_num, by omega, hN8⟩, by simp [intOf]; omega⟩
      · have g2 : (x.2.k == 4) = false := by simpa using hk
        have HT2 : Hid (refsOf (l.take (i + 1)) = rs) := by
          unfold Hid; rw [HT.out]; unfold refStep; rw [if_neg (fun h => hk h.1)]
        clear HT hk hcon
        go_wp2_with fail
        exact ⟨⟨i + 1, ao, co, by rw [HT2.out], by go_num, by omega, by rw [HT2.out]; exact ⟨HS3.out, HA3.out⟩⟩, by simp [intOf]; omega⟩
end Go.Proofs.Ytokdaapmejccbaa
