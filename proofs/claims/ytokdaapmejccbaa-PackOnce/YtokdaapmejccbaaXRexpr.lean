import Derived.Test.YtokdaapmejccbaaXPn
import Derived.Deep.AppendLies
import Derived.Test.YtokdaapmejccbaaXRight
namespace Go.Proofs.Ytokdaapmejccbaa
open Go.RowKit
set_option linter.unusedVariables false
/-- All that Nodes keeps at the head of its loop. -/
structure Rn (w wr : World) (e : Ex) (vo vw : Value) (o q : List (Int × Ex)) : Prop where
  B : Below w.heap.size w wr
  out : Nd wr w.heap.size vo o
  wait : ∃ N, Nd wr N vw q ∧ w.heap.size ≤ N ∧ ∀ k, vo.ownBlock = some k → k < N
  all : o ++ pflat q = e.pn 1
  ins : ∀ x ∈ q, x.2.In w.heap.size w
  lo : o.length ≤ 61
  lq : q.length ≤ 1 + 8 * o.length
theorem Nd.form {w : World} {base : Nat} {v : Value} {l : List (Int × Ex)} (h : Nd w base v l) : ∃ a c, v = .slice a l.length c := by
  rcases h.2 with ⟨rfl, h0⟩ | ⟨g, cap, cur, rfl, _⟩
  · exact ⟨none, 0, by rw [h0]⟩
  · exact ⟨_, _, rfl⟩
theorem Rn.done {w wr : World} {e : Ex} {vo vw : Value} {o q : List (Int × Ex)} (h : Rn w wr e vo vw o q) (hq : q = [] ∨ o.length = 61) : rnodes e = o := by
  unfold rnodes
  rw [← h.all]
  rcases hq with rfl | h61
  · rw [pflat, List.append_nil, List.take_of_length_le h.lo]
  · rw [← h61, List.take_left]
theorem Nd.new1 (w : World) (base : Nat) (x : Int × Ex) (hb : base ≤ w.heap.size) : Nd (w.alloc (.cells (ncell x).toArray 80)) base (.slice (some ⟨w.heap.size, 0, none⟩) 1 1) [x] := by
  refine ⟨ncells_len [x], .inr ⟨w.heap.size, 1, (ncell x).toArray, rfl, hb, World.alloc_heap_new w _, by simp, by decide, by simp [ncell_len], ?_⟩⟩
  simp [ncells]
  rw [List.take_of_length_le (by rw [ncell_len]; omega)]
theorem Rn.start (w : World) (e : Ex) (hin : e.In w.heap.size w) : Rn w ((w.alloc (.cells e.cells 57)).alloc (.cells (ncell (1, e)).toArray 80)) e (.slice none 0 0) (.slice (some ⟨w.heap.size + 1, 0, none⟩) 1 1) [] [(1, e)] := by
  refine ⟨((Below.refl _ w).alloc (Nat.le_refl _) _).alloc (by simp) _, World.ownsRow_nil _ _ _ _, ⟨w.heap.size, ?_, Nat.le_refl _, fun k hk => by simp [Value.ownBlock] at hk⟩, ?_, ?_, by simp, by simp⟩
  · have := Nd.new1 (w.alloc (.cells e.cells 57)) w.heap.size (1, e) (by simp)
    rwa [show (w.alloc (.cells e.cells 57)).heap.size = w.heap.size + 1 from by simp] at this
  · simp [pflat]
  · simpa using hin
theorem ncell_eq (x : Int × Ex) : (ncell x).toArray = #[.int .i64 x.2.k, .int .u64 (wd x.2.S 0), .int .u64 (wd x.2.S 1), .int .u64 (wd x.2.S 2), .int .u64 (wd x.2.S 3), .string x.2.t, .slice x.2.a x.2.kids.length x.2.c, .int .i64 x.1] := by
  simp [ncell, Ex.cells]
/-- .. and behind the first append of a round. -/
structure Mid (w w5 : World) (X N : Nat) (v5 vw : Value) (o r : List (Int × Ex)) (x : Int × Ex) : Prop where
  B : Below w.heap.size w w5
  out : Nd w5 w.heap.size v5 (o ++ [x])
  box : BoxN w5 X 80 (ncell x).toArray
  wait : Nd w5 N vw (x :: r)
  hX : w.heap.size ≤ X
theorem Nd.below {w w' : World} {base : Nat} {v : Value} {l : List (Int × Ex)} (h : Nd w base v l) (hb : Below w.heap.size w w') : Nd w' base v l := by
  obtain ⟨h1, h2⟩ := h
  refine ⟨h1, ?_⟩
  rcases h2 with h2 | ⟨g, cap, cur, hv, hg, hh, r⟩
  · exact Or.inl h2
  · refine Or.inr ⟨g, cap, cur, hv, hg, ?_, r⟩
    rw [hb.block g (Array.getElem?_eq_some_iff.1 hh).1]; exact hh
theorem Mid.below {w w5 w6 : World} {X N : Nat} {v5 vw : Value} {o r : List (Int × Ex)} {x : Int × Ex} (h : Mid w w5 X N v5 vw o r x) (hb : Below w5.heap.size w5 w6) : Mid w w6 X N v5 vw o r x :=
  ⟨h.B.trans (hb.mono h.B.size), h.out.below hb, h.box.below hb h.box.lt, h.wait.below hb, h.hX⟩
theorem Rn.mid {w wr w5 : World} {e : Ex} {vo vw v5 : Value} {o r : List (Int × Ex)} {x : Int × Ex} {N : Nat} (h : Rn w wr e vo vw o (x :: r)) (hw : Nd wr N vw (x :: r)) (hvo : ∀ k, vo.ownBlock = some k → k < N)
    (hown : w5.ownsRow w.heap.size 80 8 v5 (o.length + 1) (ncells o ++ ncell x)) (hg : ((wr.alloc (.cells (ncell x).toArray 80)).alloc (.cells (ncell x).toArray 80)).grownBy w5 vo.ownBlock) : Mid w w5 wr.heap.size N v5 vw o r x := by
  have hlt : ∀ k, vo.ownBlock = some k → w.heap.size ≤ k ∧ k < wr.heap.size := fun k hk => World.ownsRow.lt h.out k hk
  refine ⟨((h.B.alloc h.B.size _).alloc (by have := h.B.size; simp; omega) _).grown hg (by have := h.B.size; simp; omega) (fun k hk => (hlt k hk).1), ?_, ?_, ?_, h.B.size⟩
  · unfold Nd
    rw [List.length_append, ncells_app]
    simpa [ncells] using hown
  · refine ((BoxN.new wr 80 (ncell x).toArray).alloc _).kept hg (fun e => ?_)
    have := hlt _ e.symm
    omega
  · refine World.ownsRow.kept (World.ownsRow.alloc (World.ownsRow.alloc hw _) _) hg ?_
    rcases hw.2 with ⟨rfl, _⟩ | ⟨g, cap, cur, rfl, hb, _⟩
    · exact .inl rfl
    · refine .inr (fun e => ?_)
      have := hvo g e.symm
      omega
theorem Nd.cells {w : World} {N g n c : Nat} {l : List (Int × Ex)} (h : Nd w N (.slice (some ⟨g, 0, none⟩) n c) l) : ∀ j u, (ncells l)[j]? = some u → w.cell? ⟨g, j, none⟩ = some u := fun j u hu => by
  have h2 := World.ownsRow.cells h (g := g) rfl j u hu
  rwa [Addr.add_lit, Nat.zero_add] at h2
/-- Those that wait behind the first. -/
theorem Nd.tail {w : World} {N g c : Nat} {x : Int × Ex} {r : List (Int × Ex)} (h : Nd w N (.slice (some ⟨g, 0, none⟩) (r.length + 1) c) (x :: r)) :
    ∃ ad, (if c = 1 then some (⟨g, 0, none⟩ : Addr) else some ⟨g, 8, none⟩) = some ad ∧ r.length + 1 ≤ c ∧ ∀ j u, (ncells r)[j]? = some u → w.cell? (ad.add j) = some u := by
  have hc : r.length + 1 ≤ c := by
    rcases h.2 with ⟨h1, _⟩ | ⟨g', cap, cur, h1, _, _, h2, _⟩
    · cases h1
    · injection h1 with _ _ e3
      subst e3
      simpa using h2
  by_cases h1 : c = 1
  · refine ⟨_, if_pos h1, hc, fun j u hu => ?_⟩
    have : r = [] := List.eq_nil_of_length_eq_zero (by omega)
    subst this
    simp [ncells] at hu
  · refine ⟨_, if_neg h1, hc, fun j u hu => ?_⟩
    rw [Addr.add_lit]
    refine Nd.cells h (8 + j) u ?_
    rw [show ncells (x :: r) = ncell x ++ ncells r from rfl, List.getElem?_append_right (by rw [ncell_len]; omega), ncell_len, show 8 + j - 8 = j from by omega]
    exact hu
theorem Mid.rn {w w5 w6 w7 : World} {e : Ex} {X N : Nat} {v5 vw vn v7 : Value} {o r : List (Int × Ex)} {x : Int × Ex} (h5 : Mid w w5 X N v5 vw o r x) (h6 : Below w5.heap.size w5 w6) (hn : Nd w6 w5.heap.size vn (nexts x))
    (h7 : w7.ownsRow w5.heap.size 80 8 v7 ((nexts x).length + r.length) (ncells (nexts x) ++ ncells r)) (hg : w6.grownBy w7 vn.ownBlock)
    (hall : o ++ pflat (x :: r) = e.pn 1) (hins : ∀ y ∈ x :: r, y.2.In w.heap.size w) (hlo : o.length < 61) (hlq : r.length + 1 ≤ 1 + 8 * o.length) : Rn w w7 e v5 v7 (o ++ [x]) (nexts x ++ r) := by
  have hnb : ∀ k, vn.ownBlock = some k → w5.heap.size ≤ k ∧ k < w6.heap.size := fun k hk => World.ownsRow.lt hn k hk
  have h5b : ∀ k, v5.ownBlock = some k → w.heap.size ≤ k ∧ k < w5.heap.size := fun k hk => World.ownsRow.lt h5.out k hk
  have hm6 := h5.below h6
  have hs5 := h5.B.size
  have hs6 := h6.size
  refine ⟨hm6.B.grown hg (by omega) (fun k hk => by have := hnb k hk; omega), ?_, ⟨w5.heap.size, ?_, hs5, fun k hk => (h5b k hk).2⟩, ?_, ?_, by simp; omega, ?_⟩
  · refine World.ownsRow.kept hm6.out hg ?_
    cases hv : v5.ownBlock with
    | none => exact .inl rfl
    | some k =>
      refine .inr (fun e => ?_)
      have h1 := hnb k e.symm
      have h2 := h5b k hv
      omega
  · unfold Nd
    rw [List.length_append, ncells_app]
    exact h7
  · rw [← hall, pflat_step]; simp
  · intro y hy
    rcases List.mem_append.1 hy with hy | hy
    · unfold nexts at hy
      split at hy
      · obtain ⟨k, hk, rfl⟩ := List.mem_map.1 hy
        obtain ⟨j, hj⟩ := List.getElem?_of_mem hk
        exact ((hins x List.mem_cons_self).kid hj).2
      · cases hy
    · exact hins y (List.mem_cons_of_mem _ hy)
  · have := nexts_len x
    simp; omega
/-- The kids that stand in line, and what one more makes of them. -/
def kq (x : Int × Ex) (i : Nat) : List (Int × Ex) := (x.2.kids.take i).map fun k => (wrap64 (x.1 + 1), k)
theorem kq_len (x : Int × Ex) (i : Nat) (h : i ≤ x.2.kids.length) : (kq x i).length = i := by simp [kq]; omega
theorem kq_succ (x : Int × Ex) (i : Nat) (k : Ex) (h : x.2.kids[i]? = some k) : kq x (i + 1) = kq x i ++ [(wrap64 (x.1 + 1), k)] := by
  unfold kq
  rw [List.take_add_one, h, Option.toList_some, List.map_append]
  rfl
theorem kq_all (x : Int × Ex) (h : x.1 ≤ 12 ∧ x.2.kids.length ≤ 8) : nexts x = kq x x.2.kids.length := by
  unfold nexts kq
  rw [if_pos h, List.take_length]
def lenOf : Value → Nat
  | .slice _ n _ => n
  | _ => 0
set_option maxRecDepth 20000 in
set_option maxHeartbeats 2000000 in
theorem rnodes_any (e : Ex) (w : World) (hin : e.In w.heap.size w) :
    Calls Try.prog 40 #[e.val] w fun r W' => ∃ v, r = .returned v ∧ Nd W' w.heap.size v (rnodes e) ∧ Below w.heap.size w W' := by
  obtain ⟨i0, hi, hz⟩ : ∃ i0, Try.prog.info? 80 = some i0 ∧ (i0.zero, i0.size, i0.bytes) = (some (.agg #[.int .i64 0, .int .u64 0, .int .u64 0, .int .u64 0, .int .u64 0, .string ByteArray.empty, .slice none 0 0, .int .i64 0]), 8, 88) := by
    simpa [Option.map_eq_some_iff] using Try.info80
  simp only [Prod.mk.injEq] at hz
  obtain ⟨hz0, hz1, hz2⟩ := hz
  have HS : Hid (Rn _ _ _ _ _ _ _) := Rn.start w e hin
  rw [cells_eq, ncell_eq] at HS
  rw [val_eq]
  go_enter Try.func40, Try.ntmps40
  go_wp2_with fail
  go_loopw [3, 4] (fun p q wr => ∃ (o qs : List (Int × Ex)) (ao : Option Addr) (co : Nat) (aw : Option Addr) (cw : Nat), p = .slice ao o.length co ∧ q = .slice aw qs.length cw ∧ Hid (Rn w wr e p q o qs)) (fun p _ _ => 61 - lenOf p)
  case atStart => exact ⟨[], [(1, e)], none, 0, _, 1, rfl, rfl, HS⟩
  case round =>
    obtain ⟨o, qs, ao, co, aw, cw, rfl, rfl, HR⟩ := hrel
    clear HS
    have hlo := HR.out.lo
    cases qs with
    | nil =>
      have HD : Hid (rnodes e = o) := HR.out.done (.inl rfl)
      simp only [List.length_nil]
      go_wp2_with fail
      go_ret
      exact ⟨_, rfl, by rw [HD.out]; exact HR.out.out, HR.out.B⟩
    | cons x r =>
      simp only [List.length_cons]
      by_cases h61 : o.length = 61
      · have HD : Hid (rnodes e = o) := HR.out.done (.inr h61)
        have HO : Hid (o.length = 61) := h61
        rw [h61] at HR ⊢
        go_wp2_with fail
        go_ret
        exact ⟨_, rfl, by rw [HD.out]; exact HR.out.out, HR.out.B⟩
      · obtain ⟨N, hNd, hN, hvo⟩ := HR.out.wait
        obtain ⟨g, cap, hv, hNg, hgl⟩ := World.ownsRow.form hNd (by rw [List.length_cons]; omega)
        injection hv with e1 e2 e3
        subst e1 e3
        have hcell : ∀ j, j < 8 → wr.cell? ⟨g, j, none⟩ = (ncell x)[j]? := fun j hj => by
          have h1 := ncells_at (x :: r) 0 j x rfl hj
          rw [Nat.zero_mul, Nat.zero_add] at h1
          rw [← h1]
          obtain ⟨u, hu⟩ : ∃ u, (ncells (x :: r))[j]? = some u := ⟨_, List.getElem?_eq_getElem (by rw [ncells_len, List.length_cons]; omega)⟩
          have h2 := World.ownsRow.cells hNd (g := g) rfl j u hu
          rw [Addr.add_lit, Nat.zero_add] at h2
          rw [h2, hu]
        have hce : ∀ j, (ncell x)[j]? = (ncell x).toArray[j]? := fun j => (List.getElem?_toArray).symm
        have c0 := hcell 0 (by omega)
        have c1 := hcell 1 (by omega)
        have c2 := hcell 2 (by omega)
        have c3 := hcell 3 (by omega)
        have c4 := hcell 4 (by omega)
        have c5 := hcell 5 (by omega)
        have c6 := hcell 6 (by omega)
        have c7 := hcell 7 (by omega)
        rw [hce, ncell_eq] at c0 c1 c2 c3 c4 c5 c6 c7
        simp only [List.getElem?_toArray, List.getElem?_cons_zero, List.getElem?_cons_succ] at c0 c1 c2 c3 c4 c5 c6 c7
        have hlq := HR.out.lq
        simp only [List.length_cons] at hlq
        have HN : Hid (Nd wr N (.slice (some ⟨g, 0, none⟩) (r.length + 1) cw) (x :: r) ∧ N ≤ g ∧ g < wr.heap.size ∧ ∀ k, (Value.slice ao o.length co).ownBlock = some k → k < N) := ⟨hNd, hNg, hgl, hvo⟩
        clear hcell hce hNd hvo hNg hgl hN
        have hown := World.ownsRow.alloc (World.ownsRow.alloc HR.out.out (.cells (ncell x).toArray 80)) (.cells (ncell x).toArray 80)
        have hnews := World.news_of_block (World.alloc_heap_new (wr.alloc (.cells (ncell x).toArray 80)) (.cells (ncell x).toArray 80))
        rw [World.size_alloc] at hnews
        have HNW : Hid _ := hnews
        rw [ncell_eq] at hown HNW
        have HO : Hid _ := hown
        clear hnews hown
        have h61' : o.length < 61 := by omega
        clear h61
        go_wp2_with (at_builtin; refine wpList_append_own _ rfl _ _ 78 rfl w.heap.size 80 i0 _ 8 88 Try.underlying78 hi hz0 hz1 hz2 rfl (by decide) _ _ _ rfl HO.out ⟨wr.heap.size + 1, 0, none⟩ 1 1 (ncell x) rfl (by rw [ncell_len]) ?c1 ?c2 ?c3 ?c4 ?c5 ?_)
        case c1 => first | exact HNW.out | (intro j u hu; rw [← hu]; simp [ncell, Ex.cells])
        case c2 => intro u hu; exact ncell_one [x] u (by simpa [ncells] using hu)
        case c3 => unfold maxLen; omega
        case c4 => omega
        case c5 => have := HR.out.B.size; omega
        intro v5 w5 hown5 hgrow _
        obtain ⟨g5, cap5, rfl, -, -⟩ := World.ownsRow.form hown5 (by omega)
        rw [← ncell_eq] at hgrow
        have HM : Hid _ := HR.out.mid HN.out.1 HN.out.2.2.2 hown5 hgrow
        clear hown5 hgrow HNW HO c0 c1 c2 c3 c4 c5 c6 c7
        have hcX := HM.out.box.cell
        rw [ncell_eq] at hcX
        have HA : Hid (o ++ pflat (x :: r) = e.pn 1 ∧ ∀ y ∈ x :: r, y.2.In w.heap.size w) := ⟨HR.out.all, HR.out.ins⟩
        clear HR HN
        by_cases hx : x.1 ≤ 12 ∧ x.2.kids.length ≤ 8
        · have HX : Hid (nexts x = kq x x.2.kids.length) := kq_all x hx
          have hg1 : decide (x.1 ≤ 12) = true := by simpa using hx.1
          have hg2 : decide ((x.2.kids.length : Int) ≤ 8) = true := by simp; omega
          have hk8 := hx.2
          have hHin : Hid (x.2.In w.heap.size w) := HA.out.2 x List.mem_cons_self
          clear hx
          go_wp2_with fail
          clear hg1 hg2
          go_loopw [6, 41] (fun p q wx => ∃ (i : Nat) (an : Option Addr) (cn : Nat), p = .slice an i cn ∧ q = .int .i64 i ∧ i ≤ x.2.kids.length ∧ Hid (Nd wx w5.heap.size p (kq x i) ∧ Below w5.heap.size w5 wx)) (fun _ q _ => x.2.kids.length - (intOf q).toNat)
          case atStart => exact ⟨0, none, 0, rfl, rfl, Nat.zero_le _, World.ownsRow_nil _ _ _ _, Below.refl _ _⟩
          case round =>
            obtain ⟨i, an, cn, rfl, rfl, hi8, HQ⟩ := hrel
            by_cases hend : i = x.2.kids.length
            · subst hend
              clear hcX
              have HQ1 : Hid (wr.ownsRow w5.heap.size 80 8 (.slice an x.2.kids.length cn) x.2.kids.length (ncells (kq x x.2.kids.length))) := by have := HQ.out.1; unfold Nd at this; rwa [kq_len x _ (Nat.le_refl _)] at this
              obtain ⟨ad, had, hcw, hnw⟩ := (HM.out.below HQ.out.2).wait.tail
              have HT : Hid (∀ j u, (ncells r)[j]? = some u → wr.cell? (ad.add j) = some u) := hnw
              clear hnw
              go_wp2_with (at_builtin; refine wpList_append_own _ rfl _ _ 78 rfl w5.heap.size 80 i0 _ 8 88 Try.underlying78 hi hz0 hz1 hz2 rfl (by decide) _ _ _ rfl HQ1.out ad r.length (cw - 1) (ncells r) rfl (by rw [ncells_len]) ?f1 ?f2 ?f3 ?f4 ?f5 ?_)
              case f1 => exact HT.out
              case f2 => exact ncell_one r
              case f3 => unfold maxLen; omega
              case f4 => omega
              case f5 => exact HQ.out.2.size
              intro v7 w7 hown7 hgrow7 _
              have hR7 := HM.out.rn (e := e) HQ.out.2 (by rw [HX.out]; exact HQ.out.1) (by rw [HX.out, kq_len x _ (Nat.le_refl _)]; exact hown7) hgrow7 HA.out.1 HA.out.2 h61' hlq
              obtain ⟨a7, c7, rfl⟩ := Nd.form hR7.wait.choose_spec.1
              go_wp2_with fail
              exact ⟨⟨o ++ [x], nexts x ++ r, some ⟨g5, 0, none⟩, cap5, a7, c7, by simp, rfl, hR7⟩, by simp [lenOf]; omega⟩
            · have hlt : i < x.2.kids.length := by omega
              clear hend
              obtain ⟨k, hk⟩ : ∃ k, x.2.kids[i]? = some k := ⟨_, List.getElem?_eq_getElem hlt⟩
              have hM6 := HM.out.below HQ.out.2
              obtain ⟨⟨b, o', ha, hb, hc⟩, hink⟩ := (hHin.out.below hM6.B).kid hk
              have c0 := hc 0 (by omega)
              have c1 := hc 1 (by omega)
              have c2 := hc 2 (by omega)
              have c3 := hc 3 (by omega)
              have c4 := hc 4 (by omega)
              have c5 := hc 5 (by omega)
              have c6 := hc 6 (by omega)
              rw [cells_eq] at c0 c1 c2 c3 c4 c5 c6
              simp only [List.getElem?_toArray, List.getElem?_cons_zero, List.getElem?_cons_succ, Nat.add_zero] at c0 c1 c2 c3 c4 c5 c6
              have hcX7 := hM6.box.cell 7
              have hXlt := hM6.box.lt
              rw [ncell_eq] at hcX7
              simp only [List.getElem?_toArray, List.getElem?_cons_zero, List.getElem?_cons_succ] at hcX7
              rw [ha]
              have hown := World.ownsRow.alloc (World.ownsRow.alloc HQ.out.1 (.cells k.cells 57)) (.cells (ncell (wrap64 (x.1 + 1), k)).toArray 80)
              rw [kq_len x i hi8, ncell_eq, cells_eq] at hown
              have HO : Hid _ := hown
              have hBk := ((HQ.out.2.alloc HQ.out.2.size (.cells k.cells 57)).alloc (by have := HQ.out.2.size; simp; omega) (.cells (ncell (wrap64 (x.1 + 1), k)).toArray 80))
              rw [ncell_eq, cells_eq] at hBk
              have HBk : Hid _ := hBk
              have HKS : Hid (kq x (i + 1) = kq x i ++ [(wrap64 (x.1 + 1), k)]) := kq_succ x i k hk
              have hsz5 : w5.heap.size ≤ wr.heap.size := HQ.out.2.size
              have HLT : Hid (∀ q, (Value.slice an i cn).ownBlock = some q → w5.heap.size ≤ q) := fun q hq => (World.ownsRow.lt HQ.out.1 q hq).1
              clear hown hBk hM6 hc hcX hink hk ha hb HX HQ
              go_wp2_with (at_builtin; refine wpList_append_own _ rfl _ _ 78 rfl w5.heap.size 80 i0 _ 8 88 Try.underlying78 hi hz0 hz1 hz2 rfl (by decide) _ _ _ rfl HO.out ⟨wr.heap.size + 1, 0, none⟩ 1 1 (ncell (wrap64 (x.1 + 1), k)) rfl (by rw [ncell_len]) ?k1 ?k2 ?k3 ?k4 ?k5 ?_)
              case k1 => intro j u hu; rw [← hu]; simp [ncell, Ex.cells]
              case k2 => intro u hu; exact ncell_one [(wrap64 (x.1 + 1), k)] u (by simpa [ncells] using hu)
              case k3 => unfold maxLen; omega
              case k4 => omega
              case k5 => omega
              intro v8 w8 hown8 hgrow8 _
              obtain ⟨g8, cap8, rfl, -, -⟩ := World.ownsRow.form hown8 (by omega)
              have hB8 := HBk.out.grown hgrow8 (by simp; omega) HLT.out
              have hN8 : Nd w8 w5.heap.size (.slice (some ⟨g8, 0, none⟩) (i + 1) cap8) (kq x (i + 1)) := by
                unfold Nd
                rw [kq_len x (i + 1) (by omega), HKS.out, ncells_app]
                simpa [ncells] using hown8
              have HQ8 : Hid (Nd w8 w5.heap.size (.slice (some ⟨g8, 0, none⟩) (i + 1) cap8) (kq x (i + 1)) ∧ Below w5.heap.size w5 w8) := ⟨hN8, hB8⟩
              clear hown8 hgrow8 hN8 hB8 HO HBk HKS
              go_wp2_with fail
              exact ⟨⟨i + 1, _, cap8, rfl, by go_num, by omega, HQ8⟩, by simp [intOf]; omega⟩
        · have HX : Hid (nexts x = []) := by unfold Hid nexts; rw [if_neg hx]
          have hg : decide (x.1 ≤ 12) = false ∨ (decide (x.1 ≤ 12) = true ∧ decide ((x.2.kids.length : Int) ≤ 8) = false) := by
            by_cases h1 : x.1 ≤ 12
            · exact .inr ⟨by simpa using h1, by simp; omega⟩
            · exact .inl (by simpa using h1)
          clear hx
          have hn0 : Hid (w5.ownsRow w5.heap.size 80 8 (.slice none 0 0) 0 []) := World.ownsRow_nil _ _ _ _
          rcases hg with hg1 | ⟨hg1, hg2⟩
          · obtain ⟨ad, had, hcw, hnw⟩ := (HM.out.below (Below.refl _ _)).wait.tail
            have HT : Hid (∀ j u, (ncells r)[j]? = some u → w5.cell? (ad.add j) = some u) := hnw
            clear hnw
            go_wp2_with (at_builtin; refine wpList_append_own _ rfl _ _ 78 rfl w5.heap.size 80 i0 _ 8 88 Try.underlying78 hi hz0 hz1 hz2 rfl (by decide) _ _ _ rfl hn0.out ad r.length (cw - 1) (ncells r) rfl (by rw [ncells_len]) ?d1 ?d2 ?d3 ?d4 ?d5 ?_)
            case d1 => exact HT.out
            case d2 => exact ncell_one r
            case d3 => unfold maxLen; omega
            case d4 => omega
            case d5 => exact Nat.le_refl _
            intro v7 w7 hown7 hgrow7 _
            rw [show r.length = (nexts x).length + r.length from by rw [HX.out]; simp, show ncells r = ncells (nexts x) ++ ncells r from by rw [HX.out]; rfl] at hown7
            have hR7 := HM.out.rn (e := e) (Below.refl _ _) (by rw [HX.out]; exact hn0.out) hown7 hgrow7 HA.out.1 HA.out.2 h61' hlq
            obtain ⟨a7, c7, rfl⟩ := Nd.form hR7.wait.choose_spec.1
            go_wp2_with fail
            exact ⟨⟨o ++ [x], nexts x ++ r, some ⟨g5, 0, none⟩, cap5, a7, c7, by simp, rfl, hR7⟩, by simp [lenOf]; omega⟩
          · obtain ⟨ad, had, hcw, hnw⟩ := (HM.out.below (Below.refl _ _)).wait.tail
            have HT : Hid (∀ j u, (ncells r)[j]? = some u → w5.cell? (ad.add j) = some u) := hnw
            clear hnw
            go_wp2_with (at_builtin; refine wpList_append_own _ rfl _ _ 78 rfl w5.heap.size 80 i0 _ 8 88 Try.underlying78 hi hz0 hz1 hz2 rfl (by decide) _ _ _ rfl hn0.out ad r.length (cw - 1) (ncells r) rfl (by rw [ncells_len]) ?e1 ?e2 ?e3 ?e4 ?e5 ?_)
            case e1 => exact HT.out
            case e2 => exact ncell_one r
            case e3 => unfold maxLen; omega
            case e4 => omega
            case e5 => exact Nat.le_refl _
            intro v7 w7 hown7 hgrow7 _
            rw [show r.length = (nexts x).length + r.length from by rw [HX.out]; simp, show ncells r = ncells (nexts x) ++ ncells r from by rw [HX.out]; rfl] at hown7
            have hR7 := HM.out.rn (e := e) (Below.refl _ _) (by rw [HX.out]; exact hn0.out) hown7 hgrow7 HA.out.1 HA.out.2 h61' hlq
            obtain ⟨a7, c7, rfl⟩ := Nd.form hR7.wait.choose_spec.1
            go_wp2_with fail
            exact ⟨⟨o ++ [x], nexts x ++ r, some ⟨g5, 0, none⟩, cap5, a7, c7, by simp, rfl, hR7⟩, by simp [lenOf]; omega⟩
end Go.Proofs.Ytokdaapmejccbaa
namespace Go.Proofs.Ytokdaapmejccbaa
open Go.RowKit
open Ex.In (InL)
open Ex.pn (pnL)
set_option linter.unusedVariables false
theorem pn_in {n : Nat} {W : World} : ∀ (e : Ex) (d : Int), e.In n W → ∀ y ∈ e.pn d, y.2.In n W
  | .mk k S t a c kids, d, h, y, hy => by
    rw [Ex.pn] at hy
    rcases List.mem_cons.1 hy with rfl | hy
    · exact h
    · rw [Ex.In] at h
      split at hy
      · exact pnL_in kids _ 0 h.2 y hy
      · cases hy
  where
  pnL_in {n : Nat} {W : World} {a : Option Addr} : ∀ (l : List Ex) (d : Int) (i : Nat), InL n W a i l → ∀ y ∈ pnL d l, y.2.In n W
    | [], d, i, _, y, hy => by rw [pnL] at hy; cases hy
    | e :: r, d, i, h, y, hy => by
      rw [InL] at h
      rw [pnL] at hy
      rcases List.mem_append.1 hy with hy | hy
      · exact pn_in e d h.2.1 y hy
      · exact pnL_in r d (i + 1) h.2.2 y hy
theorem pnL_in {n : Nat} {W : World} {a : Option Addr} : ∀ (l : List Ex) (d : Int) (i : Nat), InL n W a i l → ∀ y ∈ pnL d l, y.2.In n W := pn_in.pnL_in
theorem rnodes_in {n : Nat} {W : World} {e : Ex} (h : e.In n W) : ∀ y ∈ rnodes e, y.2.In n W := fun y hy => pn_in e 1 h y (List.mem_of_mem_take hy)
theorem rnodes_pos (e : Ex) : 0 < (rnodes e).length := by
  unfold rnodes; rw [pn_eq]; simp
theorem rnodes_len (e : Ex) : (rnodes e).length ≤ 61 := by unfold rnodes; simp; omega
/-- A node of a slice, its eight cells. -/
theorem Nd.at {w : World} {N g n c i : Nat} {l : List (Int × Ex)} {x : Int × Ex} (h : Nd w N (.slice (some ⟨g, 0, none⟩) n c) l) (hx : l[i]? = some x) : ∀ j, j < 8 → w.cell? ⟨g, i * 8 + j, none⟩ = (ncell x).toArray[j]? := fun j hj => by
  rw [List.getElem?_toArray, ← ncells_at l i j x hx hj]
  obtain ⟨u, hu⟩ : ∃ u, (ncells l)[i * 8 + j]? = some u := by
    rw [ncells_at l i j x hx hj]
    exact ⟨_, List.getElem?_eq_getElem (by rw [ncell_len]; exact hj)⟩
  rw [hu]
  exact h.cells _ _ hu
set_option maxRecDepth 20000 in
set_option maxHeartbeats 2000000 in
theorem rexpr_any (e : Ex) (w : World) (hin : e.In w.heap.size w) :
    Calls Try.prog 98 #[e.val] w fun r W' => r = .returned (.int .i64 (check e)) ∧ Below w.heap.size w W' := by
  have hA := (Below.refl w.heap.size w).alloc (Nat.le_refl _) (.cells e.cells 57)
  have hno := rnodes_any e (w.alloc (.cells e.cells 57)) (hin.grow hA)
  have HE : Hid (∀ {W1 : World}, Below (w.alloc (.cells e.cells 57)).heap.size (w.alloc (.cells e.cells 57)) W1 → Below w.heap.size w W1) := fun hb => hA.trans (hb.mono (by simp))
  have HI : Hid (∀ y ∈ rnodes e, y.2.In w.heap.size w) := rnodes_in hin
  have HC : Hid (chk 0 (rnodes e) = check e) := chk_rnodes e
  have hpos := rnodes_pos e
  have h61 := rnodes_len e
  generalize check e = C at *
  rw [val_eq] at hno ⊢
  generalize rnodes e = l at *
  rw [cells_eq] at hno
  go_enter Try.func98, Try.ntmps98
  go_wp2_with (go_at_call 40; refine hno.mono ?_; rintro r W1 ⟨v, rfl, hNd, hb1⟩; rw [← cells_eq] at hb1; obtain ⟨g, cap, rfl, -, -⟩ := World.ownsRow.form hNd hpos; have HB1 : Hid (Below w.heap.size w W1 ∧ Nd W1 (w.alloc (.cells e.cells 57)).heap.size (.slice (some ⟨g, 0, none⟩) l.length cap) l) := ⟨HE.out hb1, hNd⟩; clear hb1 hNd hno HE hA)
  go_loopw [8] (fun p wr => ∃ i : Nat, p = .int .i64 i ∧ i ≤ l.length ∧ Hid (chkI (l.take i)) ∧ Hid (Below W1.heap.size W1 wr)) (fun p _ => l.length - (intOf p).toNat)
  case atStart => exact ⟨0, rfl, Nat.zero_le _, ⟨by simp, fun r => rfl⟩, Below.refl _ _⟩
  case round =>
    obtain ⟨i, rfl, hi, HK, HB⟩ := hrel
    have HBw : Hid (Below w.heap.size w wr) := HB1.out.1.trans (HB.out.mono HB1.out.1.size)
    by_cases hend : i = l.length
    · have hC0 : C = 0 := by
        rw [← HC.out]
        have := HK.out.2 []
        rw [List.append_nil, hend, List.take_length] at this
        exact this
      subst hend hC0
      go_wp2_with fail
      go_ret
      exact ⟨rfl, HBw.out⟩
    · have hlt : i < l.length := by omega
      clear hend
      obtain ⟨x, hx⟩ : ∃ x, l[i]? = some x := ⟨_, List.getElem?_eq_getElem hlt⟩
      have hc := (HB1.out.2.below HB.out).at hx
      have c0 := hc 0 (by omega)
      have c1 := hc 1 (by omega)
      have c2 := hc 2 (by omega)
      have c3 := hc 3 (by omega)
      have c4 := hc 4 (by omega)
      have c5 := hc 5 (by omega)
      have c6 := hc 6 (by omega)
      have c7 := hc 7 (by omega)
      rw [ncell_eq] at c0 c1 c2 c3 c4 c5 c6 c7
      simp only [List.getElem?_toArray, List.getElem?_cons_zero, List.getElem?_cons_succ, Nat.add_zero] at c0 c1 c2 c3 c4 c5 c6 c7
      have hti : (l.take i).length = i := by rw [List.length_take]; omega
      have hsp : l = (l.take i ++ [x]) ++ l.drop (i + 1) := by
        rw [List.append_assoc]
        have h1 := List.take_append_drop i l
        rw [List.drop_eq_getElem_cons hlt] at h1
        have h2 : l[i] = x := by rw [List.getElem?_eq_getElem hlt] at hx; simpa using hx
        rw [h2] at h1
        exact h1.symm
      have HS : Hid (∀ V, (∀ r, chk i (x :: r) = V) → V = C) := fun V hV => by
        have h1 := chkI_stop (l.take i) x HK.out V (by rw [hti]; exact hV) (l.drop (i + 1))
        rw [← hsp, HC.out] at h1
        exact h1.symm
      have HN : Hid (i < 60 → x.1 ≤ 12 → formOk x.2 = true → chkI (l.take (i + 1))) := fun h1 h2 h3 => by
        have h4 := chkI_step (l.take i) x HK.out (by rw [hti]; exact h1) h2 h3
        have h5 : l.take (i + 1) = l.take i ++ [x] := by rw [List.take_add_one, hx, Option.toList_some]
        rw [h5]; exact h4
      have hxin := HI.out x (List.mem_of_getElem? hx)
      have hxt := hxin.tlen
      have hA3 := HB.out.alloc HB.out.size (.cells (ncell x).toArray 80)
      have bX := BoxN.new wr 80 (ncell x).toArray
      have HB3 : Hid (∀ {W4 : World}, Below (wr.alloc (.cells (ncell x).toArray 80)).heap.size (wr.alloc (.cells (ncell x).toArray 80)) W4 → Below W1.heap.size W1 W4 ∧ Below w.heap.size w W4) := fun hb => by
        have h1 := hA3.trans (hb.mono hA3.size)
        exact ⟨h1, HB1.out.1.trans (h1.mono HB1.out.1.size)⟩
      have hright := right_any x.2 (wr.alloc (.cells (ncell x).toArray 80)) hxt
      rw [ncell_eq, val_eq] at hright
      clear hc hsp hti hx HC HK hxin hA3 bX HB hpos
      by_cases h60 : i = 60
      · have hv : (2 : Int) = C := HS.out 2 (fun r => chk_large i x r (by omega))
        have g1 : ((i : Int) == 60) = true := by simp; omega
        clear h60 HS
        subst hv
        go_wp2_with fail
        go_ret
        rw [← ncell_eq]
        exact ⟨rfl, (HB3.out (Below.refl _ _)).2⟩
      · have g1 : ((i : Int) == 60) = false := by simp; omega
        have h59 : i < 60 := by omega
        clear h60
        by_cases h12 : 12 < x.1
        · have hv : (5 : Int) = C := HS.out 5 (fun r => chk_deep i x r h59 h12)
          have g2 : decide (12 < x.1) = true := by simpa using h12
          clear h12 HS
          subst hv
          go_wp2_with fail
          go_ret
          rw [← ncell_eq]
          exact ⟨rfl, (HB3.out (Below.refl _ _)).2⟩
        · have g2 : decide (12 < x.1) = false := by simpa using h12
          have H12 : Hid (x.1 ≤ 12) := by unfold Hid; omega
          clear h12
          cases hf : formOk x.2 with
          | false =>
            have hv : (3 : Int) = C := HS.out 3 (fun r => chk_form i x r h59 H12.out hf)
            rw [hf] at hright
            clear hf HS
            subst hv
            go_wp2_with (go_at_call 126; refine hright.mono ?_; clear hright; rintro r W4 ⟨rfl, hb4⟩; rw [← ncell_eq] at hb4)
            go_ret
            exact ⟨rfl, (HB3.out hb4).2⟩
          | true =>
            have HN2 : Hid (chkI (l.take (i + 1))) := HN.out h59 H12.out hf
            rw [hf] at hright
            clear hf HS HN
            go_wp2_with (go_at_call 126; refine hright.mono ?_; clear hright; rintro r W4 ⟨rfl, hb4⟩; rw [← ncell_eq] at hb4)
            exact ⟨⟨i + 1, by go_num, by omega, HN2, (HB3.out hb4).1⟩, by simp [intOf]; omega⟩
end Go.Proofs.Ytokdaapmejccbaa
