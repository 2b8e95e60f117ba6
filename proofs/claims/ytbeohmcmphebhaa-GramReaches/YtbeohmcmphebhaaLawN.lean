import Derived.Test.YtbeohmcmphebhaaRReach
import Derived.Deep.RegionHeld3
import Derived.Deep.AppendLies
namespace Go.Proofs.Ytbeohmcmphebhaa
open Go.RowKit
set_option linter.unusedVariables false
set_option maxRecDepth 20000 in
set_option maxHeartbeats 4000000 in
theorem equal_any (B B' c c' : Nat) (m : List Bool) (w : World) (h : Mk w B m) (h' : Mk w B' m) (hl : m.length ≤ 10) :
    Calls Try.prog 14 #[.slice (some ⟨B, 0, none⟩) m.length c, .slice (some ⟨B', 0, none⟩) m.length c'] w fun e W' => e = .returned (.bool true) ∧ Below w.heap.size w W' := by
  have H : Hid (Mk w B m ∧ Mk w B' m) := ⟨h, h'⟩
  clear h h'
  go_enter Try.func14, Try.ntmps14
  go_wp2_with fail
  go_loopw [13] (fun p wr => ∃ i : Nat, p = .int .i64 i ∧ i ≤ m.length ∧ Hid (Below w.heap.size w wr)) (fun p _ => m.length - (intOf p).toNat)
  case atStart => exact ⟨0, rfl, Nat.zero_le _, Below.refl _ _⟩
  case round =>
    obtain ⟨i, rfl, hi, HB⟩ := hrel
    by_cases hend : i = m.length
    · have g1 : decide (i < m.length) = false := by simp; omega
      clear hend
      go_wp2_with fail
      go_ret
      exact ⟨rfl, HB.out⟩
    · have hil : i < m.length := by omega
      clear hend
      obtain ⟨b, hb⟩ := bool_of hil
      have k1 : Mk wr B m := BoxN.below H.out.1 HB.out H.out.1.lt
      have k2 : Mk wr B' m := BoxN.below H.out.2 HB.out H.out.2.lt
      have c1 := k1.cell hb
      have c2 := k2.cell hb
      have HB2 : Hid (Below w.heap.size w wr.drew) := HB.out.drew
      have hbb : (b != b) = false := by simp
      clear k1 k2 hb HB
      go_wp2_with fail
      go_region
      go_wp2_with fail
      exact ⟨⟨i + 1, by go_num, by omega, HB2⟩, by simp [intOf]; omega⟩
theorem Try.info46 : (Try.prog.info? 46).map (fun i => (i.zero, i.size, i.bytes)) = some (some (.agg #[.int .i64 0, .int .u64 0, .int .u64 0, .int .u64 0, .int .u64 0, .string ⟨#[]⟩, .slice none 0 0]), 7, 80) := by kernel_rfl
/-- A slice of so many expressions of the call's own. -/
def Es (w : World) (base : Nat) (v : Value) (n : Nat) : Prop := ∃ xs, w.ownsRow base 46 7 v n xs
theorem Es.form {w : World} {base : Nat} {v : Value} {n : Nat} (h : Es w base v n) : ∃ a c, v = .slice a n c := by
  obtain ⟨xs, h⟩ := h
  rcases h.2 with ⟨rfl, h0⟩ | ⟨g, cap, cur, rfl, _⟩
  · exact ⟨none, 0, by rw [h0]⟩
  · exact ⟨_, _, rfl⟩
theorem Es.below {w w' : World} {base : Nat} {v : Value} {n : Nat} (h : Es w base v n) (hb : Below w.heap.size w w') : Es w' base v n := by
  obtain ⟨xs, h1, h2⟩ := h
  refine ⟨xs, h1, ?_⟩
  rcases h2 with h2 | ⟨g, cap, cur, hv, hg, hh, r⟩
  · exact Or.inl h2
  · refine Or.inr ⟨g, cap, cur, hv, hg, ?_, r⟩
    rw [hb.block g (Array.getElem?_eq_some_iff.1 hh).1]; exact hh
theorem Es.mono {w : World} {base base' : Nat} {v : Value} {n : Nat} (h : Es w base v n) (hb : base' ≤ base) : Es w base' v n := by
  obtain ⟨xs, h1, h2⟩ := h
  refine ⟨xs, h1, ?_⟩
  rcases h2 with h2 | ⟨g, cap, cur, hv, hg, r⟩
  · exact Or.inl h2
  · exact Or.inr ⟨g, cap, cur, hv, by omega, r⟩
theorem gcount_nodes (all : List (ByteArray × Ex)) (hok : GOk all) (i : Nat) (x : ByteArray × Ex) (h : all[i]? = some x) : (rnodes x.2).length = (sizeR x.2).toNat ∧ (rnodes x.2).length ≤ 60 ∧ (gcount (all.take (i + 1))).toNat = (gcount (all.take i)).toNat + (rnodes x.2).length := by
  have hc := (ruleChk_zero (hok.rules i x h)).2.2
  have h1 := check_len x.2 hc
  have h2 : sizeR x.2 = ((x.2.nodes 1).length : Int) := by unfold sizeR; rw [if_pos hc]
  have h3 := gcount_take all i x h
  have h4 := gcount_le (all.take i)
  rw [rnodes_ok x.2 hc]
  refine ⟨by omega, h1, by omega⟩
set_option maxRecDepth 20000 in
set_option maxHeartbeats 8000000 in
theorem all_any (g : Gr) (hok : GOk g.rules) (w : World) (hin : g.In w.heap.size w) :
    Calls Try.prog 13 #[g.val] w fun r W' => ∃ a c, r = .returned (.slice a (gcount g.rules).toNat c) ∧ Below w.heap.size w W' := by
  obtain ⟨i0, hi, hz⟩ : ∃ i0, Try.prog.info? 46 = some i0 ∧ (i0.zero, i0.size, i0.bytes) = (some (.agg #[.int .i64 0, .int .u64 0, .int .u64 0, .int .u64 0, .int .u64 0, .string ⟨#[]⟩, .slice none 0 0]), 7, 80) := by
    simpa [Option.map_eq_some_iff] using Try.info46
  simp only [Prod.mk.injEq] at hz
  obtain ⟨hz0, hz1, hz2⟩ := hz
  have h10 := hok.most
  have hA := (Below.refl w.heap.size w).alloc (Nat.le_refl _) (.cells #[.slice g.a g.rules.length g.c] 24)
  have HI : Hid (g.In w.heap.size w) := hin
  have HO : Hid (GOk g.rules) := hok
  have HF : Hid (g.rules.take g.rules.length = g.rules) := List.take_length
  rw [gval_eq]
  clear hin hok
  go_enter Try.func13, Try.ntmps13
  go_wp2_with fail
  go_loopw [3, 11] (fun p q wr => ∃ (i : Nat) (ao : Option Addr) (co : Nat), p = .slice ao (gcount (g.rules.take i)).toNat co ∧ q = .int .i64 i ∧ i ≤ g.rules.length ∧ Hid (Es wr w.heap.size p (gcount (g.rules.take i)).toNat ∧ Below w.heap.size w wr)) (fun _ q _ => g.rules.length - (intOf q).toNat)
  case atStart => exact ⟨0, none, 0, rfl, rfl, Nat.zero_le _, ⟨[], World.ownsRow_nil _ _ _ _⟩, hA⟩
  case round =>
    clear hA
    obtain ⟨i, ao, co, rfl, rfl, hil, HQ⟩ := hrel
    by_cases hend : i = g.rules.length
    · have hR : (gcount (g.rules.take i)).toNat = (gcount g.rules).toNat := by rw [hend, HF.out]
      have g1 : decide (i < g.rules.length) = false := by simp; omega
      rw [hR]
      clear hend hR
      go_wp2_with fail
      go_ret
      exact ⟨_, _, rfl, HQ.out.2⟩
    · have hlt : i < g.rules.length := by omega
      clear hend
      obtain ⟨x, hx⟩ : ∃ x, g.rules[i]? = some x := ⟨_, List.getElem?_eq_getElem hlt⟩
      have hru := (HI.out.below HQ.out.2).rule i x hx
      obtain ⟨b, o, ha, hb, c0, c1, c2, c3, c4, c5, c6, c7⟩ := rcells hru
      obtain ⟨hn1, hn2, hn3⟩ := gcount_nodes g.rules HO.out i x hx
      have hgc := gcount_le (g.rules.take i)
      rw [List.length_take] at hgc
      have hA1 := (Below.refl _ wr).alloc (Nat.le_refl _) (.cells (rcell x).toArray 48)
      have hno := rnodes_any x.2 _ ((hru.body.mono HQ.out.2.size).grow hA1)
      have hpos := rnodes_pos x.2
      have HN : Hid (∀ {W}, Below (wr.alloc (.cells (rcell x).toArray 48)).heap.size (wr.alloc (.cells (rcell x).toArray 48)) W → Below wr.heap.size wr W) := fun h => hA1.trans (h.mono hA1.size)
      have HN3 : Hid _ := hn3
      rw [val_eq] at hno
      rw [rcell_eq] at hno HN
      generalize hX' : (gcount (g.rules.take (i + 1))).toNat = q' at *
      have HX' : Hid _ := hX'
      clear hX'
      have hq0 : (gcount (g.rules.take i)).toNat ≤ 600 := by omega
      generalize (gcount (g.rules.take i)).toNat = q at *
      generalize rnodes x.2 = l at *
      rw [ha]
      clear hx hru hb hA1 hn1 hn3 hgc
      go_wp2_with (go_at_call 24; refine hno.mono ?_; rintro e W2 ⟨v, rfl, hN2, hb2⟩; obtain ⟨g2, cp2, rfl, hga, hgb⟩ := World.ownsRow.form hN2 hpos; have H2 : Hid (Nd W2 _ (.slice (some ⟨g2, 0, none⟩) l.length cp2) l ∧ Es W2 w.heap.size (.slice ao q co) q ∧ Below w.heap.size w W2 ∧ (Value.slice ao q co).ownBlock ≠ some g2) := ⟨hN2, HQ.out.1.below (HN.out hb2), HQ.out.2.trans ((HN.out hb2).mono HQ.out.2.size), fun e => by obtain ⟨xs, hh⟩ := HQ.out.1; have := World.ownsRow.lt hh g2 e; simp at hga; omega⟩; clear hb2 hno hN2 HN HQ c0 c1 c2 c3 c4 c5 c6 c7)
      go_loopw [3, 19] (fun p z wq => ∃ (j : Nat) (ao : Option Addr) (co : Nat), p = .slice ao (q + j) co ∧ z = .int .i64 j ∧ j ≤ l.length ∧ Hid (Es wq w.heap.size p (q + j) ∧ Below w.heap.size w wq ∧ g2 < wq.heap.size ∧ wq.heap[g2]? = W2.heap[g2]? ∧ p.ownBlock ≠ some g2)) (fun _ z _ => l.length - (intOf z).toNat)
      case atStart => exact ⟨0, ao, co, rfl, rfl, Nat.zero_le _, H2.out.2.1, H2.out.2.2.1, hgb, rfl, H2.out.2.2.2⟩
      case round =>
        clear hga hgb
        obtain ⟨j, a4, c4, rfl, rfl, hj, HQ⟩ := hrel
        by_cases hend : j = l.length
        · have g1 : decide (j < l.length) = false := by simp; omega
          have he : q + j = q' := by rw [hend]; exact HN3.out.symm
          have HE : Hid (Es wr w.heap.size (.slice a4 q' c4) q' ∧ Below w.heap.size w wr) := by rw [← he]; exact ⟨HQ.out.1, HQ.out.2.1⟩
          rw [he]
          clear hend he HQ
          go_wp2_with fail
          exact ⟨⟨i + 1, a4, c4, by rw [HX'.out], by go_num, by omega, by rw [HX'.out]; exact HE⟩, by simp [intOf]; omega⟩
        · have hjl : j < l.length := by omega
          clear hend
          obtain ⟨y, hy⟩ : ∃ y, l[j]? = some y := ⟨_, List.getElem?_eq_getElem hjl⟩
          have hc : ∀ m, m < 8 → wr.cell? ⟨g2, j * 8 + m, none⟩ = (ncell y).toArray[m]? := fun m hm => (World.cell?_of_block (w := W2) (w' := wr) (a := ⟨g2, j * 8 + m, none⟩) HQ.out.2.2.2.1).trans (Nd.at H2.out.1 hy m hm)
          have c0 := hc 0 (by omega)
          have c1 := hc 1 (by omega)
          have c2 := hc 2 (by omega)
          have c3 := hc 3 (by omega)
          have c4' := hc 4 (by omega)
          have c5 := hc 5 (by omega)
          have c6 := hc 6 (by omega)
          have c7 := hc 7 (by omega)
          rw [ncell_eq] at c0 c1 c2 c3 c4' c5 c6 c7
          simp only [List.getElem?_toArray, List.getElem?_cons_zero, List.getElem?_cons_succ, Nat.add_zero] at c0 c1 c2 c3 c4' c5 c6 c7
          obtain ⟨xs, hxs⟩ := HQ.out.1
          have hown := World.ownsRow.alloc (World.ownsRow.alloc hxs (.cells (ncell y).toArray 60)) (.cells y.2.cells 46)
          have hnews := World.news_of_block (World.alloc_heap_new (wr.alloc (.cells (ncell y).toArray 60)) (.cells y.2.cells 46))
          have hsz := HQ.out.2.1.size
          have HK : Hid (Below w.heap.size w wr ∧ g2 < wr.heap.size ∧ wr.heap[g2]? = W2.heap[g2]? ∧ (Value.slice a4 (q + j) c4).ownBlock ≠ some g2 ∧ wr.ownsRow w.heap.size 46 7 (Value.slice a4 (q + j) c4) (q + j) xs) := ⟨HQ.out.2.1, HQ.out.2.2.1, HQ.out.2.2.2.1, HQ.out.2.2.2.2, hxs⟩
          rw [ncell_eq, cells_eq] at hown hnews
          have hown' : Hid _ := hown
          have hnews' : Hid _ := hnews
          clear hc hy HQ hxs hown hnews
          go_wp2_with (at_builtin; refine wpList_append_lies _ rfl _ _ 34 rfl w.heap.size 46 i0 _ 7 80 Try.underlying34 hi hz0 hz1 hz2 rfl (by decide) _ (q + j) xs rfl hown'.out ⟨wr.heap.size + 1, 0, none⟩ 1 1 y.2.cells.toList rfl rfl ?d1 ?d2 (by omega) ?d3 ?d4 ?d5 (wr.heap.size + 2) (by simp) ?_)
          case d1 => simp [cells_eq]
          case d2 => intro u hu; rw [cells_eq] at hu; simp at hu; rcases hu with rfl | rfl | rfl | rfl | rfl | rfl | rfl <;> rfl
          case d3 => unfold maxLen; omega
          case d4 => omega
          case d5 => first | omega | (simp; omega)
          intro g8 cap8 w8 hown8 hgr8 hor8 hg8
          have HE : Hid (Es w8 w.heap.size (.slice (some ⟨g8, 0, none⟩) (q + (j + 1)) cap8) (q + (j + 1)) ∧ Below w.heap.size w w8 ∧ g2 < w8.heap.size ∧ w8.heap[g2]? = W2.heap[g2]? ∧ (Value.slice (some ⟨g8, 0, none⟩) (q + (j + 1)) cap8).ownBlock ≠ some g2) := by
            have k := HK.out
            have hs8 := hgr8.size
            simp at hs8
            refine ⟨⟨_, by rw [← Nat.add_assoc]; exact hown8⟩, ?_, by omega, ?_, ?_⟩
            · exact ((k.1.alloc hsz _).alloc (by simp; omega) _).grown hgr8 (by simp; omega) (fun z hz => (World.ownsRow.lt k.2.2.2.2 z hz).1)
            · rw [← k.2.2.1]
              refine (hgr8.block g2 (by simp; omega) (fun e => k.2.2.2.1 e.symm)).trans ?_
              rw [Below.heap_alloc _ _ _ (by simp; omega), Below.heap_alloc _ _ _ k.2.1]
            · intro e
              have h2 : g2 < wr.heap.size := k.2.1
              have e' : g8 = g2 := by simpa [Value.ownBlock] using e
              rcases hor8 with h | h
              · exact k.2.2.2.1 (by rw [h, e'])
              · omega
          clear hown8 hgr8 hor8 hg8 HK
          go_wp2_with fail
          exact ⟨⟨j + 1, some ⟨g8, 0, none⟩, cap8, by rw [Nat.add_assoc], by go_num, by omega, HE⟩, by simp [intOf]; omega⟩
set_option maxRecDepth 20000 in
set_option maxHeartbeats 4000000 in
theorem gramNodes_any (g : Gr) (w : World) (hin : g.In w.heap.size w) :
    Calls Try.prog 4 #[g.val] w fun r W' => r = .returned (.bool true) ∧ Below w.heap.size w W' := by
  have hA := (Below.refl w.heap.size w).alloc (Nat.le_refl _) (.cells #[.slice g.a g.rules.length g.c] 24)
  have bG := BoxN.new w 24 #[.slice g.a g.rules.length g.c]
  have HN : Hid (∀ {W}, Below (w.alloc (.cells #[.slice g.a g.rules.length g.c] 24)).heap.size (w.alloc (.cells #[.slice g.a g.rules.length g.c] 24)) W → Below w.heap.size w W ∧ BoxN W w.heap.size 24 #[.slice g.a g.rules.length g.c]) := fun h => ⟨hA.trans (h.mono hA.size), bG.below h (by simp)⟩
  have HS : Hid (∀ {W W2 : World}, Below w.heap.size w W ∧ BoxN W w.heap.size 24 #[.slice g.a g.rules.length g.c] → Below W.heap.size W W2 → Below w.heap.size w W2 ∧ BoxN W2 w.heap.size 24 #[.slice g.a g.rules.length g.c]) := fun h hb => ⟨h.1.trans (hb.mono h.1.size), h.2.below hb h.2.lt⟩
  have h11 := gnodes_any g _ (hin.grow hA)
  have h12 : ∀ W, Below w.heap.size w W → _ := fun W h => reach_any g W (hin.grow h)
  have h8 : ∀ W, Below w.heap.size w W → _ := fun W h => rgram_any g W (hin.grow h)
  have H13 : Hid (gcheck g.rules = 0 → ∀ W, Below w.heap.size w W → Calls Try.prog 13 #[g.val] W fun r W' => ∃ a c, r = .returned (.slice a (gcount g.rules).toNat c) ∧ Below W.heap.size W W') := fun h0 W h => all_any g (gcheck_ok h0) W (hin.grow h)
  have H15 : Hid (gcheck g.rules = 0 → ∀ W, Below w.heap.size w W → Calls Try.prog 15 #[g.val] W fun r W' => ∃ B m, r = .returned (.slice (some ⟨B, 0, none⟩) g.rules.length g.rules.length) ∧ W.heap.size ≤ B ∧ Mk W' B m ∧ IsR (nxt g.rules) g.rules.length m ∧ Below W.heap.size W W') := fun h0 W h => rreach_any g (gcheck_ok h0) W (hin.grow h)
  have HL : Hid (gcheck g.rules = 0 → g.rules.length ≤ 10) := fun h0 => (gcheck_ok h0).most
  have hgc := (gcount_le g.rules).1
  unfold nodesR at h11
  unfold ReachR at h12
  rw [gval_eq] at h11 h12 h8 H13 H15 ⊢
  generalize gcheck g.rules = C at *
  clear hA bG hin
  by_cases h0 : C = 0
  · subst h0
    have h13 := H13.out rfl
    have h15 := H15.out rfl
    have h10 := HL.out rfl
    simp only [↓reduceIte] at h11 h12
    obtain ⟨n, hn⟩ : ∃ n : Nat, gcount g.rules = (n : Int) := ⟨(gcount g.rules).toNat, by omega⟩
    rw [hn] at h11 h13
    simp only [Int.toNat_natCast] at h13
    clear H13 H15 HL hgc hn
    have hnn : ((n : Int) == (n : Int)) = true := by simp
    go_enter Try.func4, Try.ntmps4
    go_wp2_with (first
      | (go_at_call 11; refine h11.mono ?_; rintro e W1 ⟨rfl, hb1⟩; have k1 := HN.out hb1; have c1 := k1.2.cell 0; simp only [List.getElem?_toArray, List.getElem?_cons_zero] at c1; clear hb1 h11)
      | (go_at_call 12; refine (h12 _ k1.1).mono ?_; rintro e W2 ⟨v, rfl, ⟨B2, m2, rfl, hB2, hM2, hR2⟩, hb2⟩; have k2 := HS.out k1 hb2; have c2 := k2.2.cell 0; simp only [List.getElem?_toArray, List.getElem?_cons_zero] at c2; clear hb2 h12 c1)
      | (go_at_call 8; refine (h8 _ k2.1).mono ?_; rintro e W3 ⟨rfl, hb3⟩; have k3 := HS.out k2 hb3; have c3 := k3.2.cell 0; simp only [List.getElem?_toArray, List.getElem?_cons_zero] at c3; have hM3 : Mk W3 B2 m2 := BoxN.below hM2 hb3 hM2.lt; clear hb3 h8 c2 hM2)
      | (go_at_call 13; refine (h13 _ k3.1).mono ?_; rintro e W4 ⟨a4, cp4, rfl, hb4⟩; have k4 := HS.out k3 hb4; have c4 := k4.2.cell 0; simp only [List.getElem?_toArray, List.getElem?_cons_zero] at c4; have hM4 : Mk W4 B2 m2 := BoxN.below hM3 hb4 hM3.lt; clear hb4 h13 c3 hM3)
      | (go_at_call 15; refine (h15 _ k4.1).mono ?_; rintro e W5 ⟨B5, m5, rfl, hB5, hM5, hR5, hb5⟩; have k5 := HS.out k4 hb5; have hM5' : Mk W5 B2 m2 := BoxN.below hM4 hb5 hM4.lt; have hmm := hR2.uniq hR5; subst hmm; have heq := equal_any B2 B5 g.rules.length g.rules.length m2 W5 hM5' hM5 (by rw [hR2.1]; exact h10); rw [hR2.1] at heq; clear hb5 h15 c4 hM4)
      | (go_at_call 14; refine heq.mono ?_; rintro e W6 ⟨rfl, hb6⟩))
    go_ret
    exact ⟨rfl, (HS.out k5 hb6).1⟩
  · have g1 : (C != 0) = true := by simpa using h0
    have hCC : (C == C) = true := by simp
    simp only [h0, ↓reduceIte] at h11 h12
    clear H13 H15 HL hgc
    go_enter Try.func4, Try.ntmps4
    go_wp2_with (first
      | (go_at_call 11; refine h11.mono ?_; rintro e W1 ⟨rfl, hb1⟩; have k1 := HN.out hb1; have c1 := k1.2.cell 0; simp only [List.getElem?_toArray, List.getElem?_cons_zero] at c1; clear hb1 h11)
      | (go_at_call 12; refine (h12 _ k1.1).mono ?_; rintro e W2 ⟨v, rfl, rfl, hb2⟩; have k2 := HS.out k1 hb2; have c2 := k2.2.cell 0; simp only [List.getElem?_toArray, List.getElem?_cons_zero] at c2; clear hb2 h12 c1)
      | (go_at_call 8; refine (h8 _ k2.1).mono ?_; rintro e W3 ⟨rfl, hb3⟩; have k3 := HS.out k2 hb3; clear hb3 h8 c2))
    go_ret
    exact ⟨rfl, k3.1⟩
end Go.Proofs.Ytbeohmcmphebhaa
