import Derived.Test.YtokdaapmejccbaaXGChkA
import Derived.Test.YtokdaapmejccbaaXRefs
namespace Go.Proofs.Ytokdaapmejccbaa
open Go.RowKit
set_option linter.unusedVariables false
/-- How many nodes all Bodies have. -/
def gcount : List (ByteArray × Ex) → Int
  | [] => 0
  | r :: l => sizeR r.2 + gcount l
theorem gcount_app : ∀ (l m : List (ByteArray × Ex)), gcount (l ++ m) = gcount l + gcount m
  | [], m => by simp [gcount]
  | r :: l, m => by rw [List.cons_append, gcount, gcount, gcount_app l m]; omega
theorem gcount_take (l : List (ByteArray × Ex)) (i : Nat) (x : ByteArray × Ex) (h : l[i]? = some x) : gcount (l.take (i + 1)) = gcount (l.take i) + sizeR x.2 := by
  rw [List.take_add_one, h, Option.toList_some, gcount_app]; simp [gcount]
theorem sizeR_le (e : Ex) : 0 ≤ sizeR e ∧ sizeR e ≤ 60 := by
  unfold sizeR
  split
  · rename_i h; have := check_len e h; omega
  · omega
theorem gcount_le : ∀ (l : List (ByteArray × Ex)), 0 ≤ gcount l ∧ gcount l ≤ 60 * l.length
  | [] => by simp [gcount]
  | r :: l => by
    have h1 := gcount_le l
    have h2 := sizeR_le r.2
    rw [gcount, List.length_cons]
    omega
set_option maxRecDepth 20000 in
set_option maxHeartbeats 2000000 in
theorem countNodes_any (g : Gr) (w : World) (hin : g.In w.heap.size w) (h10 : g.rules.length ≤ 10) :
    Calls Try.prog 60 #[g.val] w fun r W' => r = .returned (.int .i64 (gcount g.rules)) ∧ Below w.heap.size w W' := by
  have hA := (Below.refl w.heap.size w).alloc (Nat.le_refl _) (.cells #[.slice g.a g.rules.length g.c] 24)
  have HI : Hid (g.In w.heap.size w) := hin
  have HF : Hid (gcount (g.rules.take g.rules.length) = gcount g.rules) := by unfold Hid; rw [List.take_length]
  generalize gcount g.rules = R at *
  rw [gval_eq]
  clear hin
  go_enter Try.func60, Try.ntmps60
  go_wp2_with fail
  go_loopw [3, 11] (fun p q wr => ∃ i : Nat, p = .int .i64 (gcount (g.rules.take i)) ∧ q = .int .i64 i ∧ i ≤ g.rules.length ∧ Hid (Below w.heap.size w wr)) (fun _ q _ => g.rules.length - (intOf q).toNat)
  case atStart => exact ⟨0, rfl, rfl, Nat.zero_le _, hA⟩
  case round =>
    clear hA
    obtain ⟨i, rfl, rfl, hi, HB⟩ := hrel
    by_cases hend : i = g.rules.length
    · have hR : gcount (g.rules.take i) = R := by rw [hend]; exact HF.out
      have g1 : decide (i < g.rules.length) = false := by simp; omega
      rw [hR]
      clear hend hR
      go_wp2_with fail
      go_ret
      exact ⟨rfl, HB.out⟩
    · have hlt : i < g.rules.length := by omega
      clear hend
      obtain ⟨x, hx⟩ : ∃ x, g.rules[i]? = some x := ⟨_, List.getElem?_eq_getElem hlt⟩
      have hru := (HI.out.below HB.out).rule i x hx
      obtain ⟨b, o, ha, hb, c0, c1, c2, c3, c4, c5, c6, c7⟩ := rcells hru
      have HT : Hid (gcount (g.rules.take (i + 1)) = gcount (g.rules.take i) + sizeR x.2) := gcount_take _ _ _ hx
      have hA := HB.out.alloc HB.out.size (.cells (rcell x).toArray 76)
      have HA : Hid (∀ {W}, Below (wr.alloc (.cells (rcell x).toArray 76)).heap.size (wr.alloc (.cells (rcell x).toArray 76)) W → Below w.heap.size w W) := fun h => hA.trans (h.mono hA.size)
      have hsz := size_any x.2 _ ((hru.body.mono HB.out.size).grow ((Below.refl _ wr).alloc (Nat.le_refl _) (.cells (rcell x).toArray 76)))
      have hg := gcount_le (g.rules.take i)
      rw [List.length_take] at hg
      have hs := sizeR_le x.2
      rw [rcell_eq] at HA hsz
      rw [val_eq] at hsz
      rw [ha]
      clear hx hru HB hb hA
      generalize gcount (g.rules.take i) = q at *
      generalize sizeR x.2 = z at *
      go_wp2_with (go_at_call 87; refine hsz.mono ?_; rintro e W1 ⟨rfl, hb1⟩; have HB1 : Hid _ := HA.out hb1; clear hb1)
      exact ⟨⟨i + 1, by rw [HT.out], by go_num, by omega, HB1⟩, by simp [intOf]; omega⟩
theorem Try.info3 : (Try.prog.info? 3).map (fun i => (i.zero, i.size, i.bytes)) = some (some (.int .i64 0), 1, 8) := by kernel_rfl
def ics (l : List Int) : List Value := l.map (Value.int .i64)
/-- A slice of numbers of the call's own. -/
def Is (w : World) (base : Nat) (v : Value) (l : List Int) : Prop := w.ownsRow base 3 1 v l.length (ics l)
theorem Is.form {w : World} {base : Nat} {v : Value} {l : List Int} (h : Is w base v l) : ∃ a c, v = .slice a l.length c := by
  rcases h.2 with ⟨rfl, h0⟩ | ⟨g, cap, cur, rfl, _⟩
  · exact ⟨none, 0, by rw [h0]⟩
  · exact ⟨_, _, rfl⟩
theorem Is.below {w w' : World} {base : Nat} {v : Value} {l : List Int} (h : Is w base v l) (hb : Below w.heap.size w w') : Is w' base v l := by
  obtain ⟨h1, h2⟩ := h
  refine ⟨h1, ?_⟩
  rcases h2 with h2 | ⟨g, cap, cur, hv, hg, hh, r⟩
  · exact Or.inl h2
  · refine Or.inr ⟨g, cap, cur, hv, hg, ?_, r⟩
    rw [hb.block g (Array.getElem?_eq_some_iff.1 hh).1]; exact hh
theorem Is.mono {w : World} {base base' : Nat} {v : Value} {l : List Int} (h : Is w base v l) (hb : base' ≤ base) : Is w base' v l := by
  refine ⟨h.1, ?_⟩
  rcases h.2 with h2 | ⟨g, cap, cur, hv, hg, r⟩
  · exact Or.inl h2
  · exact Or.inr ⟨g, cap, cur, hv, by omega, r⟩
/-- A number of a slice. -/
theorem Is.at {w : World} {N : Nat} {v : Value} {l : List Int} {i : Nat} {x : Int} (h : Is w N v l) (hx : l[i]? = some x) : ∃ g cap, v = .slice (some ⟨g, 0, none⟩) l.length cap ∧ N ≤ g ∧ g < w.heap.size ∧ w.cell? ⟨g, i, none⟩ = some (.int .i64 x) := by
  have hlt : i < l.length := (List.getElem?_eq_some_iff.1 hx).1
  obtain ⟨g, cap, rfl, h1, h2⟩ := World.ownsRow.form h (by omega)
  refine ⟨g, cap, rfl, h1, h2, ?_⟩
  have h3 := World.ownsRow.cells h (g := g) rfl i (.int .i64 x) (by simp [ics, hx])
  rw [Addr.add_lit, Nat.zero_add] at h3
  exact h3
/-- A text of a slice. -/
theorem Ss.at {w : World} {N : Nat} {v : Value} {l : List ByteArray} {i : Nat} {x : ByteArray} (h : Ss w N v l) (hx : l[i]? = some x) : ∃ g cap, v = .slice (some ⟨g, 0, none⟩) l.length cap ∧ N ≤ g ∧ g < w.heap.size ∧ w.cell? ⟨g, i, none⟩ = some (.string x) := by
  have hlt : i < l.length := (List.getElem?_eq_some_iff.1 hx).1
  obtain ⟨g, cap, rfl, h1, h2⟩ := World.ownsRow.form h (by omega)
  refine ⟨g, cap, rfl, h1, h2, ?_⟩
  have h3 := World.ownsRow.cells h (g := g) rfl i (.string x) (by simp [scs, hx])
  rw [Addr.add_lit, Nat.zero_add] at h3
  exact h3
/-- The rules that a Body names. -/
def insR (all : List (ByteArray × Ex)) (e : Ex) : List Int := (refsR e).map (fnd all)
theorem refsR_len (e : Ex) : (refsR e).length ≤ 60 := by
  unfold refsR
  split
  · rename_i h
    have h1 := refsOf_len (e.nodes 1)
    have h2 := check_len e h
    omega
  · simp
set_option maxRecDepth 20000 in
set_option maxHeartbeats 4000000 in
theorem rulesIn_any (g : Gr) (i : Nat) (r : ByteArray × Ex) (hr : g.rules[i]? = some r) (w : World) (hin : g.In w.heap.size w) :
    Calls Try.prog 88 #[g.val, .int .i64 i] w fun e W' => ∃ v, e = .returned v ∧ Is W' w.heap.size v (insR g.rules r.2) ∧ Below w.heap.size w W' := by
  obtain ⟨i0, hi, hz⟩ : ∃ i0, Try.prog.info? 3 = some i0 ∧ (i0.zero, i0.size, i0.bytes) = (some (.int .i64 0), 1, 8) := by
    simpa [Option.map_eq_some_iff] using Try.info3
  simp only [Prod.mk.injEq] at hz
  obtain ⟨hz0, hz1, hz2⟩ := hz
  have hlen := hin.len
  have hlt : i < g.rules.length := (List.getElem?_eq_some_iff.1 hr).1
  have hA := (Below.refl w.heap.size w).alloc (Nat.le_refl _) (.cells (gcells g) 24)
  have bG := BoxN.new w 24 (gcells g)
  have hru := (hin.below hA).rule i r hr
  obtain ⟨b, o, ha, hb, c0, c1, c2, c3, c4, c5, c6, c7⟩ := rcells hru
  have hrf := refs_any r.2 _ (hru.body.mono hA.size)
  have HE : Hid (∀ {W : World}, Below (w.alloc (.cells (gcells g) 24)).heap.size (w.alloc (.cells (gcells g) 24)) W → Below w.heap.size w W ∧ BoxN W w.heap.size 24 (gcells g)) := fun h => ⟨hA.trans (h.mono hA.size), bG.below h (by simp)⟩
  have HL : Hid ((refsR r.2).length ≤ 60) := refsR_len r.2
  have HI : Hid (g.In w.heap.size w) := hin
  unfold insR
  rw [val_eq] at hrf
  rw [gval_eq]
  generalize refsR r.2 = l at *
  rw [gcells_eq] at c0 c1 c2 c3 c4 c5 c6 c7 hrf HE
  rw [ha]
  rw [ha] at c0 c1 c2 c3 c4 c5 c6 c7 hrf HE
  clear hA bG hru hin hr
  go_enter Try.func88, Try.ntmps88
  go_wp2_with (go_at_call 117; refine hrf.mono ?_; rintro e W1 ⟨v, rfl, hS1, hb1⟩; obtain ⟨a1, cp1, rfl⟩ := hS1.form; have k1 : Hid _ := HE.out hb1; have HS1 : Hid _ := hS1; clear hb1 hrf HE c0 c1 c2 c3 c4 c5 c6 c7 hS1)
  go_loopw [7, 22] (fun p q wr => ∃ (j : Nat) (ao : Option Addr) (co : Nat), p = .slice ao j co ∧ q = .int .i64 j ∧ j ≤ l.length ∧ Hid (Is wr W1.heap.size p ((l.take j).map (fnd g.rules)) ∧ Below W1.heap.size W1 wr)) (fun _ q _ => l.length - (intOf q).toNat)
  case atStart => exact ⟨0, none, 0, rfl, rfl, Nat.zero_le _, World.ownsRow_nil _ _ _ _, Below.refl _ _⟩
  case round =>
    obtain ⟨j, ao, co, rfl, rfl, hj, HQ⟩ := hrel
    have hl60 := HL.out
    by_cases hend : j = l.length
    · have HS : Hid (Is wr w.heap.size (.slice ao j co) (l.map (fnd g.rules))) := by
        have h1 := HQ.out.1
        rw [hend, List.take_length] at h1
        rw [hend]
        exact Is.mono h1 k1.out.1.size
      have g1 : decide (j < l.length) = false := by simp; omega
      clear hend
      go_wp2_with fail
      go_ret
      exact ⟨_, rfl, HS.out, k1.out.1.trans (HQ.out.2.mono k1.out.1.size)⟩
    · have hjl : j < l.length := by omega
      clear hend
      obtain ⟨x, hx⟩ : ∃ x, l[j]? = some x := ⟨_, List.getElem?_eq_getElem hjl⟩
      obtain ⟨gs, cps, hve, hg1, hg2, cx0⟩ := Ss.at HS1.out hx
      cases hve
      have cx : wr.cell? ⟨gs, j, none⟩ = some (.string x) := (HQ.out.2.cell (p := ⟨gs, j, none⟩) hg2).trans cx0
      have bG := k1.out.2.below HQ.out.2 k1.out.2.lt
      have cG := bG.cell 0
      simp only [List.getElem?_toArray, List.getElem?_cons_zero] at cG
      have hBw : Below w.heap.size w wr := k1.out.1.trans (HQ.out.2.mono k1.out.1.size)
      have hfi := find_any g x wr (HI.out.below hBw |>.mono hBw.size)
      have HT : Hid ((l.take (j + 1)).map (fnd g.rules) = (l.take j).map (fnd g.rules) ++ [fnd g.rules x]) := by
        unfold Hid; rw [List.take_add_one, hx, Option.toList_some, List.map_append]; rfl
      have hs5 : W1.heap.size ≤ wr.heap.size := HQ.out.2.size
      have hlj : ((l.take j).map (fnd g.rules)).length = j := by simp; omega
      rw [gval_eq, ha] at hfi
      generalize (l.take j).map (fnd g.rules) = rs at *
      generalize fnd g.rules x = q at *
      clear hx hg1 hg2 cx0 bG hBw
      go_wp2_with (first
        | (go_at_call 75; refine hfi.mono ?_; rintro e W2 ⟨rfl, hb2⟩; have hS2 : Hid (Is W2 W1.heap.size (.slice ao j co) rs ∧ Below W1.heap.size W1 W2 ∧ W1.heap.size ≤ W2.heap.size) := ⟨HQ.out.1.below hb2, HQ.out.2.trans (hb2.mono hs5), Nat.le_trans hs5 hb2.size⟩; clear hb2 hfi)
        | (at_builtin; refine wpList_append_own _ rfl _ _ 86 rfl W1.heap.size 3 i0 _ 1 8 Try.underlying86 hi hz0 hz1 hz2 rfl (by decide) _ rs.length (ics rs) ?c0 (World.ownsRow.alloc hS2.out.1 _) ⟨W2.heap.size, 0, none⟩ 1 1 [.int .i64 q] rfl rfl ?c1 ?c2 ?c3 ?c4 ?c5 ?_))
      case c0 => rfl
      case c1 => intro j u hu; match j, hu with | 0, hu => (simp at hu; subst hu; simp [Addr.add])
      case c2 => intro u hu; simp at hu; subst hu; rfl
      case c3 => unfold maxLen; omega
      case c4 => omega
      case c5 => have := hS2.out.2.2; simp; omega
      intro v8 w8 hown8 hgrow8 _
      obtain ⟨g8, cap8, rfl, -, -⟩ := World.ownsRow.form hown8 (by omega)
      have hB8 := (hS2.out.2.1.alloc hS2.out.2.2 (.cells #[.int .i64 q] 3)).grown hgrow8 (by have := hS2.out.2.2; simp; omega) (fun q hq => (World.ownsRow.lt hS2.out.1 q hq).1)
      have hN8 : Hid (Is w8 W1.heap.size (.slice (some ⟨g8, 0, none⟩) (j + 1) cap8) ((l.take (j + 1)).map (fnd g.rules)) ∧ Below W1.heap.size W1 w8) := by
        refine ⟨?_, hB8⟩
        unfold Is
        rw [HT.out, List.length_append, hlj]
        simpa [ics] using hown8
      clear hown8 hgrow8 hB8 hS2 HQ
      go_wp2_with fail
      exact ⟨⟨j + 1, some ⟨g8, 0, none⟩, cap8, rfl, by go_num, by omega, hN8⟩, by simp [intOf]; omega⟩
end Go.Proofs.Ytokdaapmejccbaa
namespace Go.Proofs.Ytokdaapmejccbaa
open Go.RowKit
set_option linter.unusedVariables false
/-- Each name is a rule's. -/
def namedI (l : List Int) : Bool := l.all fun x => x != -1
def named (all : List (ByteArray × Ex)) : List (ByteArray × Ex) → Bool
  | [] => true
  | r :: l => namedI (insR all r.2) && named all l
theorem named_drop (all l : List (ByteArray × Ex)) (i : Nat) (x : ByteArray × Ex) (h : l[i]? = some x) : named all (l.drop i) = (namedI (insR all x.2) && named all (l.drop (i + 1))) := by
  rw [drop_at l i x h, named]
theorem namedI_drop (l : List Int) (i : Nat) (x : Int) (h : l[i]? = some x) : namedI (l.drop i) = (x != -1 && namedI (l.drop (i + 1))) := by
  rw [drop_at l i x h]; rfl
theorem insR_len (all : List (ByteArray × Ex)) (e : Ex) : (insR all e).length ≤ 60 := by unfold insR; rw [List.length_map]; exact refsR_len e
set_option maxRecDepth 20000 in
set_option maxHeartbeats 4000000 in
theorem namesRules_any (g : Gr) (w : World) (hin : g.In w.heap.size w) :
    Calls Try.prog 61 #[g.val] w fun r W' => r = .returned (.bool (named g.rules g.rules)) ∧ Below w.heap.size w W' := by
  have hlen := hin.len
  have hA := (Below.refl w.heap.size w).alloc (Nat.le_refl _) (.cells #[.slice g.a g.rules.length g.c] 24)
  have bG := BoxN.new w 24 #[.slice g.a g.rules.length g.c]
  have HI : Hid (g.In w.heap.size w) := hin
  have HF : Hid (named g.rules (g.rules.drop 0) = named g.rules g.rules) := rfl
  generalize hR : named g.rules g.rules = R at *
  rw [gval_eq]
  clear hin hR
  go_enter Try.func61, Try.ntmps61
  go_wp2_with fail
  go_loopw [9] (fun p wr => ∃ i : Nat, p = .int .i64 i ∧ i ≤ g.rules.length ∧ Hid (named g.rules (g.rules.drop i) = R) ∧ Hid (Below w.heap.size w wr) ∧ Hid (BoxN wr w.heap.size 24 #[.slice g.a g.rules.length g.c])) (fun p _ => g.rules.length - (intOf p).toNat)
  case atStart => exact ⟨0, rfl, Nat.zero_le _, HF, hA, bG⟩
  case round =>
    clear hA HF bG
    obtain ⟨i, rfl, hi, HR, HB, HG⟩ := hrel
    by_cases hend : i = g.rules.length
    · have hR : true = R := by
        have := HR.out
        rw [hend, List.drop_length, named] at this
        exact this
      have g1 : decide (i < g.rules.length) = false := by simp; omega
      subst hR
      clear hend
      go_wp2_with fail
      go_ret
      exact ⟨rfl, HB.out⟩
    · have hlt : i < g.rules.length := by omega
      clear hend
      obtain ⟨x, hx⟩ : ∃ x, g.rules[i]? = some x := ⟨_, List.getElem?_eq_getElem hlt⟩
      have hri := rulesIn_any g i x hx wr (HI.out.grow HB.out)
      have cG := HG.out.cell 0
      simp only [List.getElem?_toArray, List.getElem?_cons_zero] at cG
      have HD : Hid ((namedI (insR g.rules x.2) && named g.rules (g.rules.drop (i + 1))) = R) := by rw [← named_drop _ _ _ _ hx]; exact HR.out
      have HL : Hid ((insR g.rules x.2).length ≤ 60) := insR_len _ _
      rw [gval_eq] at hri
      generalize insR g.rules x.2 = l at *
      clear hx HR
      go_wp2_with (go_at_call 88; refine hri.mono ?_; rintro e W1 ⟨v, rfl, hS1, hb1⟩; obtain ⟨a1, cp1, rfl⟩ := hS1.form; have HS1 : Hid (Is W1 wr.heap.size (.slice a1 l.length cp1) l ∧ Below w.heap.size w W1 ∧ BoxN W1 w.heap.size 24 #[.slice g.a g.rules.length g.c]) := ⟨hS1, HB.out.trans (hb1.mono HB.out.size), HG.out.below hb1 HG.out.lt⟩; clear hb1 hri hS1 cG)
      go_loopw [16] (fun p wq => ∃ j : Nat, p = .int .i64 j ∧ j ≤ l.length ∧ Hid ((namedI (l.drop j) && named g.rules (g.rules.drop (i + 1))) = R) ∧ wq = W1) (fun p _ => l.length - (intOf p).toNat)
      case atStart => exact ⟨0, rfl, Nat.zero_le _, HD, rfl⟩
      case round =>
        obtain ⟨j, rfl, hj, HR, rfl⟩ := hrel
        have hl60 := HL.out
        by_cases hend : j = l.length
        · have HR2 : Hid (named g.rules (g.rules.drop (i + 1)) = R) := by
            have := HR.out
            rw [hend, List.drop_length] at this
            unfold Hid; simpa [namedI] using this
          have g1 : decide (j < l.length) = false := by simp; omega
          clear hend
          go_wp2_with fail
          exact ⟨⟨i + 1, by go_num, by omega, HR2, HS1.out.2.1, HS1.out.2.2⟩, by simp [intOf]; omega⟩
        · have hjl : j < l.length := by omega
          clear hend
          obtain ⟨x, hx⟩ : ∃ x, l[j]? = some x := ⟨_, List.getElem?_eq_getElem hjl⟩
          obtain ⟨gs, cps, hve, -, -, cx⟩ := Is.at HS1.out.1 hx
          cases hve
          have HR2 : Hid ((x != -1 && namedI (l.drop (j + 1)) && named g.rules (g.rules.drop (i + 1))) = R) := by
            rw [← namedI_drop _ _ _ hx]; exact HR.out
          clear hx
          by_cases hm : x = -1
          · have hR : false = R := by have := HR2.out; rw [hm] at this; simpa using this
            have g2 : (x == -1) = true := by simpa using hm
            subst hR
            clear hm
            go_wp2_with fail
            go_ret
            exact ⟨rfl, HS1.out.2.1⟩
          · have HR3 : Hid ((namedI (l.drop (j + 1)) && named g.rules (g.rules.drop (i + 1))) = R) := by
              have := HR2.out
              rw [show (x != -1) = true from by simpa using hm, Bool.true_and] at this
              exact this
            have g2 : (x == -1) = false := by simpa using hm
            clear hm
            go_wp2_with fail
            exact ⟨⟨j + 1, by go_num, by omega, HR3, trivial⟩, by simp [intOf]; omega⟩
/-- What is wrong first, rule by rule. -/
def rulesChk (all : List (ByteArray × Ex)) : Nat → List (ByteArray × Ex) → Int
  | _, [] => 0
  | i, r :: l => if ruleChk all i r ≠ 0 then ruleChk all i r else rulesChk all (i + 1) l
/-- What Check tells. -/
def gcheck (l : List (ByteArray × Ex)) : Int :=
  if l.length = 0 then 1 else if 10 < l.length then 2 else if rulesChk l 0 l ≠ 0 then rulesChk l 0 l else if 120 < gcount l then 2 else if named l l then 0 else 6
set_option maxRecDepth 20000 in
set_option maxHeartbeats 4000000 in
theorem gcheck_any (g : Gr) (w : World) (hin : g.In w.heap.size w) :
    Calls Try.prog 31 #[g.val] w fun r W' => r = .returned (.int .i64 (gcheck g.rules)) ∧ Below w.heap.size w W' := by
  have hlen := hin.len
  have hA := (Below.refl w.heap.size w).alloc (Nat.le_refl _) (.cells #[.slice g.a g.rules.length g.c] 24)
  have bG := BoxN.new w 24 #[.slice g.a g.rules.length g.c]
  have HI : Hid (g.In w.heap.size w) := hin
  have HC : Hid ((if g.rules.length = 0 then (1 : Int) else if 10 < g.rules.length then (2 : Int) else if rulesChk g.rules 0 g.rules ≠ 0 then rulesChk g.rules 0 g.rules else if 120 < gcount g.rules then 2 else if named g.rules g.rules then 0 else 6) = gcheck g.rules) := rfl
  generalize hR : gcheck g.rules = R at *
  clear hR
  rw [gval_eq]
  clear hin
  by_cases h0 : g.rules.length = 0
  · have hR : (1 : Int) = R := by have := HC.out; rw [if_pos h0] at this; exact this
    subst hR
    rw [h0] at hA ⊢
    go_enter Try.func31, Try.ntmps31
    go_wp2_with fail
    go_ret
    exact ⟨rfl, hA⟩
  · have g1 : ((g.rules.length : Int) == 0) = false := by rw [beq_eq_false_iff_ne]; omega
    have HC1 : Hid ((if 10 < g.rules.length then (2 : Int) else if rulesChk g.rules 0 g.rules ≠ 0 then rulesChk g.rules 0 g.rules else if 120 < gcount g.rules then 2 else if named g.rules g.rules then 0 else 6) = R) := by have := HC.out; rw [if_neg h0] at this; exact this
    clear HC
    by_cases h10 : 10 < g.rules.length
    · have hR : (2 : Int) = R := by have := HC1.out; rw [if_pos h10] at this; exact this
      subst hR
      have g2 : decide ((10 : Int) < (g.rules.length : Int)) = true := decide_eq_true (by omega)
      clear h10
      go_enter Try.func31, Try.ntmps31
      go_wp2_with fail
      go_ret
      exact ⟨rfl, hA⟩
    · have HC2 : Hid ((if rulesChk g.rules 0 (g.rules.drop 0) ≠ 0 then rulesChk g.rules 0 (g.rules.drop 0) else if 120 < gcount g.rules then 2 else if named g.rules g.rules then 0 else 6) = R) := by have := HC1.out; rw [if_neg h10] at this; exact this
      have g2 : decide ((10 : Int) < (g.rules.length : Int)) = false := decide_eq_false (by omega)
      have h10' : g.rules.length ≤ 10 := by omega
      clear h10 HC1
      go_enter Try.func31, Try.ntmps31
      go_wp2_with fail
      go_loopw [18] (fun p wr => ∃ i : Nat, p = .int .i64 i ∧ i ≤ g.rules.length ∧ Hid ((if rulesChk g.rules i (g.rules.drop i) ≠ 0 then rulesChk g.rules i (g.rules.drop i) else if 120 < gcount g.rules then 2 else if named g.rules g.rules then 0 else 6) = R) ∧ Hid (Below w.heap.size w wr) ∧ Hid (BoxN wr w.heap.size 24 #[.slice g.a g.rules.length g.c])) (fun p _ => g.rules.length - (intOf p).toNat)
      case atStart => exact ⟨0, rfl, Nat.zero_le _, HC2, hA, bG⟩
      case round =>
        clear hA HC2 bG
        obtain ⟨i, rfl, hi, HR, HB, HG⟩ := hrel
        have cG := HG.out.cell 0
        simp only [List.getElem?_toArray, List.getElem?_cons_zero] at cG
        by_cases hend : i = g.rules.length
        · have HR2 : Hid ((if 120 < gcount g.rules then (2 : Int) else if named g.rules g.rules then 0 else 6) = R) := by
            have := HR.out
            rw [hend, List.drop_length, rulesChk, if_neg (by simp)] at this
            exact this
          have g3 : decide (i < g.rules.length) = false := by simp; omega
          have hcn := countNodes_any g wr (HI.out.grow HB.out) h10'
          have hnr : ∀ W, Below wr.heap.size wr W → _ := fun W h => namesRules_any g W ((HI.out.grow HB.out).grow h)
          rw [gval_eq] at hcn hnr
          have HN : Hid (∀ {W}, Below wr.heap.size wr W → Below w.heap.size w W ∧ W.cell? ⟨w.heap.size, 0, none⟩ = some (.slice g.a g.rules.length g.c)) := fun h => ⟨HB.out.trans (h.mono HB.out.size), (h.cell (p := ⟨w.heap.size, 0, none⟩) HG.out.lt).trans cG⟩
          generalize gcount g.rules = q at *
          generalize named g.rules g.rules = z at *
          clear hend HR
          by_cases hq : 120 < q
          · have hR : (2 : Int) = R := by have := HR2.out; rw [if_pos hq] at this; exact this
            subst hR
            have g4 : decide (120 < q) = true := by simpa using hq
            go_wp2_with (go_at_call 60; refine hcn.mono ?_; rintro e W1 ⟨rfl, hb1⟩)
            go_ret
            exact ⟨rfl, (HN.out hb1).1⟩
          · have HR3 : Hid ((if z then (0 : Int) else 6) = R) := by have := HR2.out; rw [if_neg hq] at this; exact this
            have g4 : decide (120 < q) = false := by simpa using hq
            clear hq HR2
            cases z with
            | true =>
              have hR : (0 : Int) = R := HR3.out
              subst hR
              go_wp2_with (first
                | (go_at_call 60; refine hcn.mono ?_; rintro e W1 ⟨rfl, hb1⟩; have k1 := HN.out hb1; have c1 := k1.2)
                | (go_at_call 61; refine (hnr _ hb1).mono ?_; rintro e W2 ⟨rfl, hb2⟩))
              go_ret
              exact ⟨rfl, k1.1.trans (hb2.mono k1.1.size)⟩
            | false =>
              have hR : (6 : Int) = R := HR3.out
              subst hR
              go_wp2_with (first
                | (go_at_call 60; refine hcn.mono ?_; rintro e W1 ⟨rfl, hb1⟩; have k1 := HN.out hb1; have c1 := k1.2)
                | (go_at_call 61; refine (hnr _ hb1).mono ?_; rintro e W2 ⟨rfl, hb2⟩))
              go_ret
              exact ⟨rfl, k1.1.trans (hb2.mono k1.1.size)⟩
        · have hlt : i < g.rules.length := by omega
          clear hend
          obtain ⟨x, hx⟩ : ∃ x, g.rules[i]? = some x := ⟨_, List.getElem?_eq_getElem hlt⟩
          have hcr := checkRule_any g i x hx wr (HI.out.grow HB.out)
          rw [gval_eq] at hcr
          have HD : Hid ((if (if ruleChk g.rules i x ≠ 0 then ruleChk g.rules i x else rulesChk g.rules (i + 1) (g.rules.drop (i + 1))) ≠ 0 then (if ruleChk g.rules i x ≠ 0 then ruleChk g.rules i x else rulesChk g.rules (i + 1) (g.rules.drop (i + 1))) else if 120 < gcount g.rules then 2 else if named g.rules g.rules then 0 else 6) = R) := by
            have := HR.out
            rw [drop_at _ _ _ hx, rulesChk] at this
            exact this
          have HN : Hid (∀ {W}, Below wr.heap.size wr W → Below w.heap.size w W ∧ BoxN W w.heap.size 24 #[.slice g.a g.rules.length g.c]) := fun h => ⟨HB.out.trans (h.mono HB.out.size), HG.out.below h HG.out.lt⟩
          generalize ruleChk g.rules i x = q at *
          clear hx HR HB HG
          by_cases hq : q = 0
          · have HR2 : Hid ((if rulesChk g.rules (i + 1) (g.rules.drop (i + 1)) ≠ 0 then rulesChk g.rules (i + 1) (g.rules.drop (i + 1)) else if 120 < gcount g.rules then 2 else if named g.rules g.rules then 0 else 6) = R) := by
              have := HD.out
              rw [hq] at this
              unfold Hid
              simpa using this
            subst hq
            clear HD
            go_wp2_with (go_at_call 59; refine hcr.mono ?_; rintro e W1 ⟨rfl, hb1⟩; have k1 : Hid _ := HN.out hb1; clear hb1 hcr)
            exact ⟨⟨i + 1, by go_num, by omega, HR2, k1.out.1, k1.out.2⟩, by simp [intOf]; omega⟩
          · have hR : q = R := by
              have := HD.out
              rw [if_pos hq, if_pos hq] at this
              exact this
            subst hR
            have g4 : (q != 0) = true := by simpa using hq
            have g5 : (q == 0) = false := by simpa using hq
            clear hq HD
            go_wp2_with (go_at_call 59; refine hcr.mono ?_; rintro e W1 ⟨rfl, hb1⟩; have k1 : Hid _ := HN.out hb1; clear hb1 hcr)
            go_ret
            exact ⟨rfl, k1.out.1⟩
end Go.Proofs.Ytokdaapmejccbaa
