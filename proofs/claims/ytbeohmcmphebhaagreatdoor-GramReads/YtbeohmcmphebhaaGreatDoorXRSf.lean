import Derived.Test.YtbeohmcmphebhaaGreatDoorXLawGB
import Derived.Test.YtbeohmcmphebhaaGreatDoorXRSd
namespace Go.Proofs.YtbeohmcmphebhaaGreatDoor
open Go.RowKit
set_option linter.unusedVariables false
/-- What the other reader answers. -/
def RGR (T : ByteArray) (w : World) (e : Ending) (w' : World) : Prop := Below w.heap.size w w' ∧ ∃ g : Gr, e = .returned (.tuple #[.agg #[.slice g.a g.rules.length g.c], .int .i64 (gread T.data.toList).2.1, .int .i64 (gread T.data.toList).2.2]) ∧ (gread T.data.toList).1 = g.rules.map er2 ∧ g.In w'.heap.size w'
theorem in_nil (W : World) : Gr.In W.heap.size W ⟨none, 0, []⟩ := ⟨Nat.zero_le _, fun j x hx => by cases hx⟩
theorem rgr_no {T : ByteArray} {w w' : World} (h : Below w.heap.size w w') {a c : Int} (hg : gread T.data.toList = ([], a, c)) : RGR T w (.returned (.tuple #[.agg #[.slice none 0 0], .int .i64 a, .int .i64 c])) w' :=
  ⟨h, ⟨none, 0, []⟩, by rw [hg]; rfl, by rw [hg]; rfl, in_nil w'⟩
theorem gread_err {T : ByteArray} (hT : T.size ≤ 2000) {s : List UInt8} (h : rulesG (preP (T.size + 1)) [] (tok T.data.toList) = .error s) : gread T.data.toList = ([], (T.size : Int) - s.length, 4) := by
  have h1 : readG T.data.toList = .error s := by rw [readG_tok, llen, h]; rfl
  have h2 : rulR T.data.toList = ([], (T.size : Int) - s.length, 4) := by unfold rulR; rw [if_neg (by rw [llen]; omega), h1, llen]
  unfold gread
  rw [h2]
  simp only
  rw [if_pos (by decide)]
theorem gread_fin {T : ByteArray} (hT : T.size ≤ 2000) {l : List Rl} {u : Tk} (h : rulesG (preP (T.size + 1)) [] (tok T.data.toList) = .ok (l.map er2, u)) (h0 : u.k = 0) : gread T.data.toList = if gcheck l ≠ 0 then ([], 0, gcheck l) else (l.map er2, 0, 0) := by
  have h1 : readG T.data.toList = .ok (l.map er2) := by rw [readG_tok, llen, h, thn_ok, if_pos h0]
  have h2 : rulR T.data.toList = (l.map er2, 0, 0) := by unfold rulR; rw [if_neg (by rw [llen]; omega), h1]
  unfold gread
  rw [h2]
  simp only
  rw [if_neg (by simp), gcheck_er]
theorem Gq.inn2 {n g P r c : Nat} {L : List Tk} {w wr W : World} {b : Value} {l : List Rl} (h : Gq n g L w P wr (.slice (some ⟨r, 0, none⟩) l.length c) b l) (hn : n ≤ 2000) (hl : l.length ≤ 2001) (hg : wr.grownBy W (some w.heap.size)) : Gr.In W.heap.size W ⟨some ⟨r, 0, none⟩, c, l⟩ := by
  have hlt := h.lt
  have hr := h.blk r rfl
  refine ⟨by show l.length ≤ _; omega, fun j x hx => ?_⟩
  obtain ⟨h2, h3⟩ := h.ou x (List.mem_of_getElem? hx)
  refine ⟨⟨r, 0, rfl, Nat.lt_of_lt_of_le hr.2 hg.size, fun m hm => ?_⟩, by omega, (h2.gr hg (fun b hb _ => ⟨fun e => by cases e; have := hb.1; omega, hb⟩)).inn⟩
  obtain ⟨u, hu⟩ : ∃ u, (rcell x)[m]? = some u := ⟨_, List.getElem?_eq_getElem (by show m < 8; exact hm)⟩
  have h1 := rcsL_at l j m x hx hm
  rw [hu] at h1 ⊢
  have ho := h.own.kept hg (.inr (fun e => by have h9 : r = w.heap.size := Option.some.inj e; have h8 := hr.1; omega))
  have := World.ownsRow.cells ho (g := r) rfl _ _ h1
  rw [Nat.zero_add]
  rwa [Addr.add_lit, Nat.zero_add] at this
theorem rulesG_no {n : Nat} (l : List Rl) (u : Tk) (h : ¬ u.k = 3) : rulesG (preP n) l u = .error u.s := by unfold rulesG ruleP; rw [if_neg h]; rfl
set_option maxRecDepth 20000 in
set_option maxHeartbeats 16000000 in
theorem rread_any (T : ByteArray) (w : World) (hmx : T.size ≤ 140737488355328) : Calls Tryz.prog 7 #[.string T] w fun e w' => RGR T w e w' := by
  have bR := BoxN.new w 24 #[.slice none 0 0]
  have hR0 := (Below.refl w.heap.size w).alloc (Nat.le_refl _) (.cells #[.slice none 0 0] 24)
  by_cases hL : 2000 < T.size
  · have g1 : decide ((2000 : Int) < (T.size : Int)) = true := decide_eq_true (by omega)
    have HG : Hid (gread T.data.toList = ([], 0, 2)) := gread_large T.data.toList (by rw [llen]; omega)
    have c3 := bR.cell 0
    have f3 := bR.frozen 0
    simp only [List.getElem?_toArray, List.getElem?_cons_zero] at c3
    go_enter Tryz.func7, Tryz.ntmps7
    go_wp2_with fail
    first
      | exact bodyPost_ret (by simp [results, Tryz.results7, go_sem, c3]) rfl (rgr_no hR0 HG.out)
      | exact bodyPost_ret (by simp [results, Tryz.results7, go_sem, c3]) rfl (rgr_no (hR0.setCell (p := ⟨w.heap.size, 0, none⟩) (Nat.le_refl _) (.slice none 0 0)) HG.out)
  · have hT : T.size ≤ 2000 := by omega
    have g1 : decide ((2000 : Int) < (T.size : Int)) = false := decide_eq_false (by omega)
    have htk := tokens_any T (w.alloc (.cells #[.slice none 0 0] 24)) hT
    unfold TksR at htk
    have HB0 : Hid (∀ {W}, Below (w.alloc (.cells #[.slice none 0 0] 24)).heap.size (w.alloc (.cells #[.slice none 0 0] 24)) W → BoxN W w.heap.size 24 #[.slice none 0 0] ∧ Below w.heap.size w W ∧ w.heap.size < W.heap.size) := fun hb => ⟨bR.below hb (by simp), hR0.trans (hb.mono hR0.size), by have := hb.size; simp at this; omega⟩
    generalize hR : rulesG (preP (T.size + 1)) [] (tok T.data.toList) = R
    have HR : Hid (rulesG (preP (T.size + 1)) [] (tok T.data.toList) = R) := hR
    have HE : Hid (∀ s, R = .error s → gread T.data.toList = ([], (T.size : Int) - s.length, 4)) := fun s h => gread_err hT (hR.trans h)
    have HO : Hid (∀ (l : List Rl) (u : Tk), R = .ok (l.map er2, u) → u.k = 0 → gread T.data.toList = if gcheck l ≠ 0 then ([], 0, gcheck l) else (l.map er2, 0, 0)) := fun l u h h0 => gread_fin hT (hR.trans h) h0
    clear hR bR hR0 hL
    go_enter Tryz.func7, Tryz.ntmps7
    go_wp2_with (first
      | (go_at_call 12; refine htk.mono ?_; clear htk; rintro e w1 ⟨g, cap, L, rfl, hTL, hTW, hfst, hb1⟩; obtain ⟨b1, b2, b3⟩ := HB0.out hb1; have Q0 : Hid _ := Gq.start b3 hTW b1 b2; have HX : Hid (TL T L ∧ L[0]? = some (tok T.data.toList)) := ⟨hTL, hfst⟩; clear hTL hTW hfst hb1 b1 b2 b3 HB0))
    generalize hP : w1.heap.size = P at *
    have HPl : Hid (w.heap.size < P) := Q0.out.lt
    have hLn := HX.out.1.len
    go_loopg [7] (T.size + 2) (fun gk q wr => ∃ (j : Nat) (l : List Rl) (u : Tk) (v : Value), q = .int .i64 j ∧ Hid (Gq T.size g L w P wr v v l) ∧ Hid (L[j]? = some u ∧ (u.k = 4 ∨ u.s.length < gk) ∧ l.length ≤ T.size + 1 ∧ (u.k = 4 ∨ l.length + u.s.length ≤ T.size) ∧ ((j = 0 ∧ l = [] ∧ u = tok T.data.toList ∧ R = rulesG (preP (T.size + 1)) [] u) ∨ (j ≠ 0 ∧ l ≠ [] ∧ (tok T.data.toList).k = 3 ∧ (u.k = 4 ∨ u.s.length < (tok T.data.toList).s.length) ∧ R = rulesH (preP (T.size + 1)) (l.map er2) u))))
    case atStart =>
      have hs := HX.out.1.small HX.out.2
      exact ⟨0, [], tok T.data.toList, _, rfl, Q0, HX.out.2, .inr (by omega), Nat.zero_le _, .inr (by simpa using hs), .inl ⟨rfl, rfl, rfl, HR.out.symm⟩⟩
    case round =>
      clear Q0 HR
      obtain ⟨j, l, u, v, rfl, HQ, HU⟩ := hrel
      have hjl := get_lt HU.out.1
      have cu := HQ.out.tw.kind HU.out.1
      have ca : wr.cell? ⟨g, j * 10 + 1, none⟩ = some (.int .i64 ((T.size : Int) - u.s.length)) := HQ.out.tw.cells HU.out.1 1 (by omega)
      have cr := HQ.out.res.cell 0
      have fr := HQ.out.res.frozen 0
      have cP := HQ.out.box.cell 0
      simp only [List.getElem?_toArray, List.getElem?_cons_zero] at cr cP
      have HK : Hid _ := rk_fin u.k (HX.out.1.kd HU.out.1)
      by_cases hend : j ≠ 0 ∧ u.k = 0
      · obtain ⟨hj0, hk0⟩ := hend
        have g0 : ((j : Int) == 0) = false := by rw [beq_eq_false_iff_ne]; omega
        have ge : (((rk u.k).toNat : Int) != 101) = false := by rw [bne_eq_false_iff_eq, hk0]; rfl
        have HF : Hid (l ≠ [] ∧ R = .ok (l.map er2, u)) := by
          rcases HU.out.2.2.2.2 with h | ⟨_, h1, _, _, h2⟩
          · exact absurd h.1 hj0
          · refine ⟨h1, ?_⟩
            rw [h2]; unfold rulesH; rw [if_pos hk0]
        have hln := HU.out.2.2.1
        obtain ⟨r, c, rfl, _, _⟩ := World.ownsRow.form HQ.out.own (List.length_pos_iff.2 HF.out.1)
        have HG := HO.out l u HF.out.2 hk0
        have hin := HQ.out.inn hT (by omega)
        have hck := rgram_any ⟨some ⟨r, 0, none⟩, c, l⟩ wr hin
        rw [gval_eq] at hck
        have HB : Hid (∀ {W}, Below wr.heap.size wr W → BoxN W w.heap.size 24 #[.slice none 0 0] ∧ Below w.heap.size w W ∧ BoxN W P 24 #[.slice (some ⟨r, 0, none⟩) l.length c] ∧ Gr.In W.heap.size W ⟨some ⟨r, 0, none⟩, c, l⟩) := fun hb => ⟨HQ.out.res.below hb HQ.out.res.lt, HQ.out.bel.trans (hb.mono HQ.out.bel.size), HQ.out.box.below hb HQ.out.box.lt, hin.grow hb⟩
        by_cases hc0 : gcheck l = 0
        · have HG2 : Hid (gread T.data.toList = (l.map er2, 0, 0)) := by rw [Hid, HG, if_neg (by simpa using hc0)]
          simp only [hc0] at hck
          clear HG hin hc0 hj0 hk0 HK
          go_wp2_with (first
            | (go_at_call 14; refine hck.mono ?_; clear hck; rintro e w2 ⟨rfl, hb2⟩; obtain ⟨b1, b2, b3, b4⟩ := HB.out hb2; have K2 : Hid (BoxN w2 w.heap.size 24 #[.slice none 0 0] ∧ Below w.heap.size w w2 ∧ Gq T.size g L w P w2 (.slice (some ⟨r, 0, none⟩) l.length c) (.slice (some ⟨r, 0, none⟩) l.length c) l) := ⟨b1, b2, HQ.out.below hb2⟩; have c2 := b1.cell 0; have f2 := b1.frozen 0; have c3 := b3.cell 0; simp only [List.getElem?_toArray, List.getElem?_cons_zero] at c2 c3; clear b1 b2 b3 b4 hb2 cr cP fr cu ca))
          have k3 := box1_set K2.out.1 (.slice (some ⟨r, 0, none⟩) l.length c)
          have k4 := K2.out.2.1.setCell (p := ⟨w.heap.size, 0, none⟩) (Nat.le_refl _) (.slice (some ⟨r, 0, none⟩) l.length c)
          have c4 := k3.cell 0
          simp only [List.getElem?_toArray, List.getElem?_cons_zero] at c4
          have hfin : Gr.In (w2.setCell ⟨w.heap.size, 0, none⟩ (.slice (some ⟨r, 0, none⟩) l.length c)).heap.size (w2.setCell ⟨w.heap.size, 0, none⟩ (.slice (some ⟨r, 0, none⟩) l.length c)) ⟨some ⟨r, 0, none⟩, c, l⟩ := K2.out.2.2.inn2 hT (by omega) (grownBy_setCell' w2 w.heap.size _)
          refine bodyPost_ret (v := .tuple #[.agg #[.slice (some ⟨r, 0, none⟩) l.length c], .int .i64 0, .int .i64 0]) (by simp [results, Tryz.results7, go_sem, c4]) rfl ?_
          exact ⟨k4, ⟨some ⟨r, 0, none⟩, c, l⟩, by rw [HG2.out], by rw [HG2.out], hfin⟩
        · have HG2 : Hid (gread T.data.toList = ([], 0, gcheck l)) := by rw [Hid, HG, if_pos hc0]
          have gC : (gcheck l != 0) = true := by simpa using hc0
          clear HG hin hc0 hj0 hk0 HK
          generalize gcheck l = C at *
          go_wp2_with (first
            | (go_at_call 14; refine hck.mono ?_; clear hck; rintro e w2 ⟨rfl, hb2⟩; obtain ⟨b1, b2, b3, b4⟩ := HB.out hb2; have K2 : Hid (BoxN w2 w.heap.size 24 #[.slice none 0 0] ∧ Below w.heap.size w w2) := ⟨b1, b2⟩; have c2 := b1.cell 0; have f2 := b1.frozen 0; simp only [List.getElem?_toArray, List.getElem?_cons_zero] at c2; clear b1 b2 b3 b4 hb2 cr cP fr cu ca))
          have k3 := box1_set K2.out.1 (.slice none 0 0)
          have k4 := K2.out.2.setCell (p := ⟨w.heap.size, 0, none⟩) (Nat.le_refl _) (.slice none 0 0)
          have c4 := k3.cell 0
          simp only [List.getElem?_toArray, List.getElem?_cons_zero] at c4
          refine bodyPost_ret (v := .tuple #[.agg #[.slice none 0 0], .int .i64 0, .int .i64 C]) (by simp [results, Tryz.results7, go_sem, c4]) rfl ?_
          exact (rgr_no k4 HG2.out)
      · have gco : (((j : Int) == 0) = true) ∨ (((j : Int) == 0) = false ∧ (((rk u.k).toNat : Int) != 101) = true) := by
          by_cases hj : j = 0
          · left; rw [hj]; rfl
          · right
            refine ⟨by rw [beq_eq_false_iff_ne]; omega, ?_⟩
            have hk : ¬ u.k = 0 := fun h => hend ⟨hj, h⟩
            have := rk_ne (k := u.k) (m := 101) (by decide) (by rw [show (UInt8.ofNat 101) = 101 from rfl, HK.out.2.2.2.2.2.2.2.2.2.1]; exact hk)
            simpa [bne] using this
        by_cases h3 : u.k = 3
        · have g3 : (((rk u.k).toNat : Int) != 104) = false := by rw [bne_eq_false_iff_eq, h3]; rfl
          have HR3 : Hid (R = rulesG (preP (T.size + 1)) (l.map er2) u ∧ (tok T.data.toList).k = 3 ∧ u.s.length ≤ (tok T.data.toList).s.length) := by
            rcases HU.out.2.2.2.2 with ⟨_, h1, h2, h4⟩ | ⟨_, _, h1, h2, h4⟩
            · rw [Hid, h1, ← h2]; exact ⟨h4, h3, Nat.le_refl _⟩
            · refine ⟨by rw [h4]; unfold rulesH; rw [if_neg (by rw [h3]; decide)], h1, ?_⟩
              rcases h2 with h2 | h2
              · rw [h3] at h2; exact absurd h2 (by decide)
              · omega
          obtain ⟨n1, n2⟩ := HX.out.1.next HU.out.1 (by rw [h3]; decide) (by rw [h3]; decide)
          have hsm := HX.out.1.small HU.out.1
          have hal := ralt_any T g cap L (by omega) HX.out.1 (T.size + 1) (j + 1) (tok u.r) wr n1 (by omega) HQ.out.tw
          have cn : wr.cell? ⟨g, j * 10 + 9, none⟩ = some (.string u.e.t) := by
            have h := HQ.out.tw.cells HU.out.1 9 (by omega)
            have he : u.e.k = 4 := by have h1 := (HX.out.1.is j u HU.out.1).1; rw [h1]; exact tokS_head _ (by rw [← h1]; exact h3)
            rw [h]; show some (Value.string (rname u)) = _; unfold rname; rw [if_pos he]
          have HN : Hid (u.e.t.size ≤ T.size) := by have h1 := tokS_t u.s; rw [← (HX.out.1.is j u HU.out.1).1] at h1; have := h1.1; rw [Hid]; omega
          have HS : Hid (∀ (y : Ex) (v : Tk) (b : Bool), (match (generalizing := false) altP (preP (T.size + 1)) (tok u.r) with | .ok x => b = true ∧ y.er = x.1 ∧ v = x.2 | .error s => v.s = s ∧ (b = true → v.k = 4)) → RuK L (T.size + 1) R (l.map er2) u y v b) := fun y v b hm => by
            rw [HR3.out.1]
            exact ruK HX.out.1 HU.out.1 (by omega) h3 _ hm
          have HU3 : Hid (u.s.length < gk ∧ l.length + u.s.length ≤ T.size) := by
            refine ⟨?_, ?_⟩
            · rcases HU.out.2.1 with h | h
              · rw [h3] at h; exact absurd h (by decide)
              · exact h
            · rcases HU.out.2.2.2.1 with h | h
              · rw [h3] at h; exact absurd h (by decide)
              · exact h
          unfold RdP at hal
          rw [show ((j + 1 : Nat) : Int) = (j : Int) + 1 from by omega] at hal
          have hj1 := get_lt n1
          generalize altP (preP (T.size + 1)) (tok u.r) = A at *
          clear n1 n2 hsm h3 hend HK HO
          rcases gco with g0 | ⟨g0, ge⟩
          · go_wp2_with (first
              | (go_at_call 13; refine hal.mono ?_; clear hal; rintro e w3 ⟨⟨y, j2, v2, b, rfl, hyo, hjv, hm⟩, hb3⟩; have SK : Hid _ := HS.out y v2 b hm; have HV : Hid _ := hjv; have hj2 := get_lt hjv; have Q3 : Hid (Gq T.size g L w P (w3.alloc (.cells #[.int .i64 y.k, .int .u64 (wd y.S 0), .int .u64 (wd y.S 1), .int .u64 (wd y.S 2), .int .u64 (wd y.S 3), .string y.t, .slice y.a y.kids.length y.c] 43)) v v l) := (HQ.out.below hb3).alloc _; have bE : Hid (BoxN (w3.alloc (.cells y.cells 43)) w3.heap.size 43 y.cells) := BoxN.new w3 43 y.cells; have ce := bE.out.cell; rw [cells_eq] at ce bE; have HYO : Hid (y.Ou (wr.heap.size ≤ ·) (w3.alloc (.cells #[.int .i64 y.k, .int .u64 (wd y.S 0), .int .u64 (wd y.S 1), .int .u64 (wd y.S 2), .int .u64 (wd y.S 3), .string y.t, .slice y.a y.kids.length y.c] 43))) := hyo.gr (World.grownBy_alloc w3 _ none) (fun b hb _ => ⟨by simp, hb⟩); have HPw : Hid (P + 1 ≤ wr.heap.size) := HQ.out.box.lt; have ca3 : (w3.alloc (.cells #[.int .i64 y.k, .int .u64 (wd y.S 0), .int .u64 (wd y.S 1), .int .u64 (wd y.S 2), .int .u64 (wd y.S 3), .string y.t, .slice y.a y.kids.length y.c] 43)).cell? ⟨g, j2 * 10 + 1, none⟩ = some (.int .i64 ((T.size : Int) - v2.s.length)) := Q3.out.tw.cells hjv 1 (by omega); have cr3 := Q3.out.res.cell 0; have fr3 := Q3.out.res.frozen 0; have cP3 := Q3.out.box.cell 0; simp only [List.getElem?_toArray, List.getElem?_cons_zero] at cr3 cP3; clear hyo hm hjv hb3 HS cr fr cP cu ca cn; cases b)
              | (at_builtin; refine wpList_app_gq (y := (u.e.t, y)) rfl _ _ rfl Q3.out rfl (H := w3.heap.size + 1) (by simp) rfl (fun k hk => (HQ.out.blk k hk).2) HPw.out HYO.out HN.out (by have := HU3.out.2; omega) ?_; intro g4 cap4 w4 q4; have Q4 : Hid _ := q4; have cP4 := q4.box.cell 0; have fP4 := q4.box.frozen 0; simp only [List.getElem?_toArray, List.getElem?_cons_zero] at cP4; clear q4 ce cr3 fr3 cP3 ca3))
            · go_region
              go_wp2_with fail
              have k3 := box1_set Q3.out.res (.slice none 0 0)
              have k4 := (Q3.out.bel.setCell (p := ⟨w.heap.size, 0, none⟩) (Nat.le_refl _) (.slice none 0 0)).drew
              have c4 : (((w3.alloc (.cells #[.int .i64 y.k, .int .u64 (wd y.S 0), .int .u64 (wd y.S 1), .int .u64 (wd y.S 2), .int .u64 (wd y.S 3), .string y.t, .slice y.a y.kids.length y.c] 43)).setCell ⟨w.heap.size, 0, none⟩ (.slice none 0 0)).drew).cell? ⟨w.heap.size, 0, none⟩ = some (.slice none 0 0) := k3.cell 0
              refine bodyPost_ret (v := .tuple #[.agg #[.slice none 0 0], .int .i64 ((T.size : Int) - v2.s.length), .int .i64 4]) (by simp [results, Tryz.results7, go_sem, c4]) rfl ?_
              exact (rgr_no k4 (HE.out _ (SK.out.no rfl)))
            · have hmo := SK.out.more rfl
              have hj20 : j2 ≠ 0 := fun h0 => by
                have h1 := HV.out
                rw [h0, HX.out.2] at h1
                cases h1
                rcases hmo.2 with h | h
                · rw [HR3.out.2.1] at h; exact absurd h (by decide)
                · have := HR3.out.2.2; omega
              go_roundg u.s.length
              case measure => exact HU3.out.1
              case rel =>
                refine ⟨j2, l ++ [(u.e.t, y)], v2, _, rfl, Q4.out.set (box1_set Q4.out.box _) (grownBy_setCell' w4 P _), HV.out, hmo.2, by have := HU3.out.2; simp; omega, hmo.2.imp id (fun h => by have := HU3.out.2; simp; omega), .inr ⟨hj20, by simp, HR3.out.2.1, hmo.2.imp id (fun h => by have := HR3.out.2.2; omega), by rw [List.map_append]; exact hmo.1⟩⟩
          · go_wp2_with (first
              | (go_at_call 13; refine hal.mono ?_; clear hal; rintro e w3 ⟨⟨y, j2, v2, b, rfl, hyo, hjv, hm⟩, hb3⟩; have SK : Hid _ := HS.out y v2 b hm; have HV : Hid _ := hjv; have hj2 := get_lt hjv; have Q3 : Hid (Gq T.size g L w P (w3.alloc (.cells #[.int .i64 y.k, .int .u64 (wd y.S 0), .int .u64 (wd y.S 1), .int .u64 (wd y.S 2), .int .u64 (wd y.S 3), .string y.t, .slice y.a y.kids.length y.c] 43)) v v l) := (HQ.out.below hb3).alloc _; have bE : Hid (BoxN (w3.alloc (.cells y.cells 43)) w3.heap.size 43 y.cells) := BoxN.new w3 43 y.cells; have ce := bE.out.cell; rw [cells_eq] at ce bE; have HYO : Hid (y.Ou (wr.heap.size ≤ ·) (w3.alloc (.cells #[.int .i64 y.k, .int .u64 (wd y.S 0), .int .u64 (wd y.S 1), .int .u64 (wd y.S 2), .int .u64 (wd y.S 3), .string y.t, .slice y.a y.kids.length y.c] 43))) := hyo.gr (World.grownBy_alloc w3 _ none) (fun b hb _ => ⟨by simp, hb⟩); have HPw : Hid (P + 1 ≤ wr.heap.size) := HQ.out.box.lt; have ca3 : (w3.alloc (.cells #[.int .i64 y.k, .int .u64 (wd y.S 0), .int .u64 (wd y.S 1), .int .u64 (wd y.S 2), .int .u64 (wd y.S 3), .string y.t, .slice y.a y.kids.length y.c] 43)).cell? ⟨g, j2 * 10 + 1, none⟩ = some (.int .i64 ((T.size : Int) - v2.s.length)) := Q3.out.tw.cells hjv 1 (by omega); have cr3 := Q3.out.res.cell 0; have fr3 := Q3.out.res.frozen 0; have cP3 := Q3.out.box.cell 0; simp only [List.getElem?_toArray, List.getElem?_cons_zero] at cr3 cP3; clear hyo hm hjv hb3 HS cr fr cP cu ca cn; cases b)
              | (at_builtin; refine wpList_app_gq (y := (u.e.t, y)) rfl _ _ rfl Q3.out rfl (H := w3.heap.size + 1) (by simp) rfl (fun k hk => (HQ.out.blk k hk).2) HPw.out HYO.out HN.out (by have := HU3.out.2; omega) ?_; intro g4 cap4 w4 q4; have Q4 : Hid _ := q4; have cP4 := q4.box.cell 0; have fP4 := q4.box.frozen 0; simp only [List.getElem?_toArray, List.getElem?_cons_zero] at cP4; clear q4 ce cr3 fr3 cP3 ca3))
            · go_region
              go_wp2_with fail
              have k3 := box1_set Q3.out.res (.slice none 0 0)
              have k4 := (Q3.out.bel.setCell (p := ⟨w.heap.size, 0, none⟩) (Nat.le_refl _) (.slice none 0 0)).drew
              have c4 : (((w3.alloc (.cells #[.int .i64 y.k, .int .u64 (wd y.S 0), .int .u64 (wd y.S 1), .int .u64 (wd y.S 2), .int .u64 (wd y.S 3), .string y.t, .slice y.a y.kids.length y.c] 43)).setCell ⟨w.heap.size, 0, none⟩ (.slice none 0 0)).drew).cell? ⟨w.heap.size, 0, none⟩ = some (.slice none 0 0) := k3.cell 0
              refine bodyPost_ret (v := .tuple #[.agg #[.slice none 0 0], .int .i64 ((T.size : Int) - v2.s.length), .int .i64 4]) (by simp [results, Tryz.results7, go_sem, c4]) rfl ?_
              exact (rgr_no k4 (HE.out _ (SK.out.no rfl)))
            · have hmo := SK.out.more rfl
              have hj20 : j2 ≠ 0 := fun h0 => by
                have h1 := HV.out
                rw [h0, HX.out.2] at h1
                cases h1
                rcases hmo.2 with h | h
                · rw [HR3.out.2.1] at h; exact absurd h (by decide)
                · have := HR3.out.2.2; omega
              go_roundg u.s.length
              case measure => exact HU3.out.1
              case rel =>
                refine ⟨j2, l ++ [(u.e.t, y)], v2, _, rfl, Q4.out.set (box1_set Q4.out.box _) (grownBy_setCell' w4 P _), HV.out, hmo.2, by have := HU3.out.2; simp; omega, hmo.2.imp id (fun h => by have := HU3.out.2; simp; omega), .inr ⟨hj20, by simp, HR3.out.2.1, hmo.2.imp id (fun h => by have := HR3.out.2.2; omega), by rw [List.map_append]; exact hmo.1⟩⟩
        · have g3 : (((rk u.k).toNat : Int) != 104) = true := by
            have := rk_ne (k := u.k) (m := 104) (by decide) (by rw [show (UInt8.ofNat 104) = 104 from rfl, HK.out.2.2.2.2.2.2.2.2.2.2]; exact h3)
            simpa [bne] using this
          have HG2 : Hid (gread T.data.toList = ([], (T.size : Int) - u.s.length, 4)) := by
            apply HE.out
            rcases HU.out.2.2.2.2 with ⟨_, _, _, h4⟩ | ⟨hj, _, _, _, h4⟩
            · rw [h4]; exact rulesG_no _ _ h3
            · rw [h4]; unfold rulesH; rw [if_neg (fun h => hend ⟨hj, h⟩)]; exact rulesG_no _ _ h3
          clear h3 hend HK
          rcases gco with g0 | ⟨g0, ge⟩
          · go_wp2_with fail
            go_region
            go_wp2_with fail
            have k3 := box1_set HQ.out.res (.slice none 0 0)
            have k4 := (HQ.out.bel.setCell (p := ⟨w.heap.size, 0, none⟩) (Nat.le_refl _) (.slice none 0 0)).drew
            have c4 : ((wr.setCell ⟨w.heap.size, 0, none⟩ (.slice none 0 0)).drew).cell? ⟨w.heap.size, 0, none⟩ = some (.slice none 0 0) := k3.cell 0
            refine bodyPost_ret (v := .tuple #[.agg #[.slice none 0 0], .int .i64 ((T.size : Int) - u.s.length), .int .i64 4]) (by simp [results, Tryz.results7, go_sem, c4]) rfl ?_
            exact (rgr_no k4 HG2.out)
          · go_wp2_with fail
            go_region
            go_wp2_with fail
            have k3 := box1_set HQ.out.res (.slice none 0 0)
            have k4 := (HQ.out.bel.setCell (p := ⟨w.heap.size, 0, none⟩) (Nat.le_refl _) (.slice none 0 0)).drew
            have c4 : ((wr.setCell ⟨w.heap.size, 0, none⟩ (.slice none 0 0)).drew).cell? ⟨w.heap.size, 0, none⟩ = some (.slice none 0 0) := k3.cell 0
            refine bodyPost_ret (v := .tuple #[.agg #[.slice none 0 0], .int .i64 ((T.size : Int) - u.s.length), .int .i64 4]) (by simp [results, Tryz.results7, go_sem, c4]) rfl ?_
            exact (rgr_no k4 HG2.out)
theorem rgd_any (T : ByteArray) (w : World) (hmx : T.size ≤ 140737488355328) : Calls Tryz.prog 6 #[.string T] w fun e w' => RGR T w e w' := by
  by_cases h0 : (gread T.data.toList).2.2 = 0
  · refine (read_ok T w hmx h0).mono ?_
    rintro e w' ⟨hb, g, he, h1, h2, _, h3⟩
    exact ⟨hb, g, by rw [he, h2, h0], h1, h3⟩
  · refine (read_no T w hmx h0).mono ?_
    rintro e w' ⟨hb, he⟩
    refine ⟨hb, ⟨none, 0, []⟩, he, ?_, in_nil w'⟩
    unfold gread at h0 ⊢
    split
    · rfl
    · rename_i h
      rw [if_neg h] at h0
      split
      · rfl
      · rename_i h2
        rw [if_neg h2] at h0
        exact absurd rfl h0
set_option maxRecDepth 20000 in
set_option maxHeartbeats 4000000 in
theorem gramReads_any (s : ByteArray) (w : World) (hs : s.size ≤ 140737488355328) :
    Calls Tryz.prog 3 #[.string s] w fun r W' => r = .returned (.bool true) ∧ Below w.heap.size w W' := by
  have h1 := rgd_any s w hs
  have h2 : ∀ W, _ := fun W => rread_any s W hs
  unfold RGR at h1 h2
  generalize gread s.data.toList = G at *
  obtain ⟨rs, a, c⟩ := G
  simp only at h1 h2
  have HS : Hid (∀ (g h : Gr) (W : World), rs = g.rules.map er2 → rs = h.rules.map er2 → g.In W.heap.size W → h.In W.heap.size W → Calls Tryz.prog 8 #[.agg #[.slice g.a g.rules.length g.c], .agg #[.slice h.a h.rules.length h.c]] W fun r w' => r = .returned (.bool true) ∧ Below W.heap.size W w') := fun g h W hg hh hi hj => sameG_any g h (hg.symm.trans hh) W hi hj
  go_enter Tryz.func3, Tryz.ntmps3
  go_wp2_with (first
    | (go_at_call 6; refine h1.mono ?_; clear h1; rintro e w1 ⟨hb1, g, rfl, hg, hgi⟩; have k1 : Hid (Below w.heap.size w (w1.alloc (.cells #[.slice g.a g.rules.length g.c] 24)) ∧ BoxN (w1.alloc (.cells #[.slice g.a g.rules.length g.c] 24)) w1.heap.size 24 #[.slice g.a g.rules.length g.c] ∧ g.In (w1.alloc (.cells #[.slice g.a g.rules.length g.c] 24)).heap.size (w1.alloc (.cells #[.slice g.a g.rules.length g.c] 24)) ∧ rs = g.rules.map er2) := ⟨hb1.alloc hb1.size _, BoxN.new w1 24 _, hgi.grow ((Below.refl _ w1).alloc (Nat.le_refl _) _), hg⟩; clear hb1 hg hgi)
    | (go_at_call 7; refine (h2 _).mono ?_; clear h2; rintro e w2 ⟨hb2, h, rfl, hh, hhi⟩; have k2 : Hid (Below w.heap.size w (w2.alloc (.cells #[.slice h.a h.rules.length h.c] 24)) ∧ BoxN (w2.alloc (.cells #[.slice h.a h.rules.length h.c] 24)) w1.heap.size 24 #[.slice g.a g.rules.length g.c] ∧ BoxN (w2.alloc (.cells #[.slice h.a h.rules.length h.c] 24)) w2.heap.size 24 #[.slice h.a h.rules.length h.c] ∧ Calls Tryz.prog 8 #[.agg #[.slice g.a g.rules.length g.c], .agg #[.slice h.a h.rules.length h.c]] (w2.alloc (.cells #[.slice h.a h.rules.length h.c] 24)) fun r w' => r = .returned (.bool true) ∧ Below (w2.alloc (.cells #[.slice h.a h.rules.length h.c] 24)).heap.size (w2.alloc (.cells #[.slice h.a h.rules.length h.c] 24)) w') := ⟨(k1.out.1.trans (hb2.mono k1.out.1.size)).alloc (k1.out.1.trans (hb2.mono k1.out.1.size)).size _, (k1.out.2.1.below hb2 k1.out.2.1.lt).alloc _, BoxN.new w2 24 _, HS.out g h _ k1.out.2.2.2 hh ((k1.out.2.2.1.grow hb2).grow ((Below.refl _ w2).alloc (Nat.le_refl _) _)) (hhi.grow ((Below.refl _ w2).alloc (Nat.le_refl _) _))⟩; have cg := k2.out.2.1.cell 0; have ch := k2.out.2.2.1.cell 0; simp only [List.getElem?_toArray, List.getElem?_cons_zero] at cg ch; have hsm := k2.out.2.2.2; clear hb2 hh hhi HS)
    | (go_at_call 8; refine hsm.mono ?_; clear hsm; rintro e w4 ⟨rfl, hb4⟩))
  go_ret
  exact ⟨by simp, k2.out.1.trans (hb4.mono k2.out.1.size)⟩
end Go.Proofs.YtbeohmcmphebhaaGreatDoor
