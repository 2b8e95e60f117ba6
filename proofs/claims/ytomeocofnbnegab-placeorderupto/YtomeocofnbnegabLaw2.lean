import Derived.Test.YtomeocofnbnegabOrder
namespace Go.Proofs.Ytomeocofnbnegab
open Go.RowKit
/-- The places of the signs lie in block g. -/
def LiesL (w : World) (g N : Nat) (t : List UInt8) : Prop := g < w.heap.size ∧ ∀ j, j < N → w.cell? ⟨g, j, none⟩ = some (.int .i64 (bp t j : Int))
theorem LiesL.below {w w' : World} {g N : Nat} {t : List UInt8} (h : LiesL w g N t) (hb : Below w.heap.size w w') : LiesL w' g N t :=
  ⟨Nat.lt_of_lt_of_le h.1 hb.size, fun j hj => by rw [hb.cell (p := ⟨g, j, none⟩) h.1]; exact h.2 j hj⟩
theorem LiesL.alloc {w : World} {g N : Nat} {t : List UInt8} (h : LiesL w g N t) (o : Obj) : LiesL (w.alloc o) g N t :=
  h.below ((Below.refl _ _).alloc (Nat.le_refl _) _)
set_option maxRecDepth 20000 in
set_option maxHeartbeats 8000000 in
theorem placeOrder_any (s : ByteArray) (a b : Int) (w : World) (hs : (s.size : Int) ≤ 1048576) :
    Calls Try.prog 4 #[.string s, .int .i64 a, .int .i64 b] w fun e w' => e = .returned (.bool true) ∧ Below w.heap.size w w' := by
  obtain ⟨i0, hi, hz0, hz1, hz2⟩ := info_parts Try.info3
  have HL : Hid (s.data.toList.length = s.size) := size_list s
  have hnl := nS_le s.data.toList
  rw [HL.out] at hnl
  go_enter Try.func4, Try.ntmps4
  go_wp2_with fail
  refine (signsList_any s _ hs).mono ?_
  rintro e w2 ⟨v, rfl, hown1, hB2⟩
  have hsz2 := hB2.size
  go_wp2_with (at_builtin; refine wpList_append_own _ rfl _ _ 27 rfl w.heap.size 3 i0 (.int .i64 0) 1 8 Try.underlying27 hi hz0 hz1 hz2 rfl (by decide) _ _ _ rfl (hown1.alloc _) ⟨w2.heap.size, 0, none⟩ 1 1 [.int .i64 (s.size : Int)] rfl rfl ?c1 ?c2 ?c3 ?c4 ?c5 ?_)
  case c1 =>
    intro j u hj
    match j, hj with
    | 0, hj => simp at hj; subst hj; simp [Addr.add]
  case c2 => intro u hu; simp at hu; subst hu; rfl
  case c3 => unfold maxLen; omega
  case c4 => omega
  case c5 => simp; omega
  intro v' w3 hown3 hgrow _
  have HB : Hid (((s.size : Nat) : Int) = (bp s.data.toList (nS s.data.toList) : Int)) := by unfold Hid; rw [bp_end, HL.out]
  rw [HB.out, bcs_snoc] at hown3
  have hB3 := (hB2.alloc hsz2 _).grown hgrow (by simp; omega) (fun q hq => (hown1.lt _ hq).1)
  clear hown1 hgrow hB2 hsz2
  obtain ⟨g, cap, rfl, hg1, hg2, hcell⟩ := own_form hown3
  clear hown3 hg1
  have hnl2 : ((nS s.data.toList + 1 : Nat) : Int) ≤ 1048577 := by omega
  obtain ⟨N, HN⟩ : ∃ N, Hid (nS s.data.toList + 1 = N) := ⟨_, rfl⟩
  rw [HN.out] at hnl2 hcell ⊢
  have hL3 : LiesL w3 g N s.data.toList := ⟨hg2, fun j hj => by rw [hcell j hj, bcs_at _ _ _ hj]⟩
  clear hcell hg2
  have hN1 : (1 : Int) ≤ (N : Int) := by have := HN.out; omega
  clear hnl
  go_wp2_with fail
  refine (within_any a N _ hN1 hnl2).mono ?_
  rintro e w4 ⟨ja, rfl, hja, hw4⟩
  subst hw4
  go_wp2_with fail
  refine (within_any b N _ hN1 hnl2).mono ?_
  rintro e w5 ⟨jb, rfl, hjb, hw5⟩
  subst hw5
  have HJ : Hid (ja ≤ nS s.data.toList ∧ jb ≤ nS s.data.toList) := by have := HN.out; exact ⟨by omega, by omega⟩
  have cA := hL3.2 ja hja
  have cB := hL3.2 jb hjb
  have ja0 : (0 : Int) ≤ (ja : Int) := by omega
  have ja1 : (ja : Int) < (N : Int) := by omega
  have jb0 : (0 : Int) ≤ (jb : Int) := by omega
  have jb1 : (jb : Int) < (N : Int) := by omega
  have hba : bp s.data.toList ja ≤ s.size := by rw [← HL.out]; exact (bp_runs s.data.toList ja HJ.out.1).2.1
  have hbb : bp s.data.toList jb ≤ s.size := by rw [← HL.out]; exact (bp_runs s.data.toList jb HJ.out.2).2.1
  rcases Nat.lt_trichotomy ja jb with hlt | heq | hgt
  · have hmn : min (ja : Int) (jb : Int) = (ja : Int) := by omega
    have hmx : max (ja : Int) (jb : Int) = (jb : Int) := by omega
    have hlti : (ja : Int) < (jb : Int) := by omega
    have gE : ((ja : Int) == (jb : Int)) = false := by rw [beq_eq_false_iff_ne]; omega
    have gN : ((ja : Int) != (jb : Int)) = true := by rw [bne_iff_ne]; omega
    go_wp2_with fail
    refine (where_pos s (bp s.data.toList ja) _ hs hba).mono ?_
    rintro e w6 ⟨lp, cp, rfl, hP, hb6⟩
    have hB6 : Below w.heap.size w w6 := hB3.trans (hb6.mono hB3.size)
    have hL6 := (hL3.below hb6).alloc (.cells #[.int .i64 lp, .int .i64 cp] 23)
    have cM6 := hL6.2 jb hjb
    have cP6 := World.cell?_alloc_new w6 #[Value.int .i64 lp, Value.int .i64 cp] 23
    have HP : Hid (IsPos (s.data.toList.take (bp s.data.toList ja)) lp cp) := hP
    clear hP hb6 hB3 hL3 cA cB
    go_wp2_with fail
    refine (where_pos s (bp s.data.toList jb) _ hs hbb).mono ?_
    rintro e w7 ⟨lq, cq, rfl, hQ, hb7⟩
    have HQ : Hid (IsPos (s.data.toList.take (bp s.data.toList jb)) lq cq) := hQ
    have g7 := bcell hb7
    have hL7 := (hL6.below hb7).alloc (.cells #[.int .i64 lq, .int .i64 cq] 23)
    have cJ7 := hL7.2 jb hjb
    have hB7 : Below w.heap.size w w7 := (hB6.alloc hB6.size _).trans (hb7.mono (by have := hB6.size; simp; omega))
    have hy7 : w6.heap.size < w7.heap.size := by have := hb7.size; simp at this; omega
    have cp0 : w7.cell? ⟨w6.heap.size, 0, none⟩ = some (.int .i64 lp) := by rw [g7.1 _ _ (by simp)]; simp [go_sem]
    have cp1 : w7.cell? ⟨w6.heap.size, 1, none⟩ = some (.int .i64 cp) := by rw [g7.1 _ _ (by simp)]; simp [go_sem]
    clear hQ hb7 hB6 hL6 cM6 cP6 g7
    have gp1 : decide (lp < 1) = false := by have := HP.out.ge; simp; omega
    have gp2 : decide (cp < 1) = false := by have := HP.out.ge; simp; omega
    obtain ⟨x, HXX⟩ : ∃ x, Hid (bp s.data.toList jb = x) := ⟨_, rfl⟩
    rw [HXX.out] at cJ7
    have hxs : x ≤ s.size := by rw [← HXX.out]; exact hbb
    rcases IsPos.lt (by omega) (by have := HJ.out; omega) HP.out HQ.out with gl | ⟨gl, gc⟩
    · have gl1 : decide (lp < lq) = true := by simpa using gl
      cases x with
      | zero =>
        simp only [Int.cast_ofNat_Int] at cJ7
        go_wp2_with fail
        go_ret
        exact ⟨rfl, hB7.alloc hB7.size _⟩
      | succ y =>
        rw [show (((y + 1 : Nat) : Nat) : Int) = (y : Int) + 1 from by omega] at cJ7
        have hy : y < s.size := by omega
        have hyi : (y : Int) < (s.size : Int) := by omega
        have gk : decide ((0 : Int) < (y : Int) + 1) = true := by rw [decide_eq_true_iff]; omega
        by_cases hten : (s[y]'hy).toNat = 10
        · have gt : (((s[y]'hy).toNat : Int) == 10) = true := by rw [beq_iff_eq]; omega
          have HT : Hid (s.data.toList[y]? = some 10) := by
            unfold Hid
            rw [List.getElem?_eq_getElem (show y < s.data.toList.length from hy)]
            exact congrArg some (UInt8.toNat_inj.1 hten)
          clear hten
          go_wp2_with fail
          rw [show ((y : Int) + 1) = ((y + 1 : Nat) : Int) from by omega]
          refine (where_pos s (y + 1) _ hs hxs).mono ?_
          rintro e w8 ⟨l8, c8, rfl, hP8, hb8⟩
          rw [take_nl _ _ HT.out] at hP8
          have hc8 := hP8.nl
          subst hc8
          have g8 := bcell hb8
          have hy8 : w7.heap.size < w8.heap.size := by have := hb8.size; simp at this; omega
          have hB8 : Below w.heap.size w w8 := (hB7.alloc hB7.size _).trans (hb8.mono (by have := hB7.size; simp; omega))
          have dp0 : w8.cell? ⟨w6.heap.size, 0, none⟩ = some (.int .i64 lp) := by rw [g8.1 _ _ (by simp; omega), World.cell?_alloc_past _ _ _ hy7]; exact cp0
          have dp1 : w8.cell? ⟨w6.heap.size, 1, none⟩ = some (.int .i64 cp) := by rw [g8.1 _ _ (by simp; omega), World.cell?_alloc_past _ _ _ hy7]; exact cp1
          have dq0 : w8.cell? ⟨w7.heap.size, 0, none⟩ = some (.int .i64 lq) := by rw [g8.1 _ _ (by simp)]; simp [go_sem]
          have dq1 : w8.cell? ⟨w7.heap.size, 1, none⟩ = some (.int .i64 cq) := by rw [g8.1 _ _ (by simp)]; simp [go_sem]
          have hy68 : w6.heap.size < w8.heap.size := by omega
          clear g8 hb8 hP8 cp0 cp1 cJ7
          go_wp2_with fail
          go_ret
          exact ⟨rfl, hB8.alloc hB8.size _⟩
        · have gt : (((s[y]'hy).toNat : Int) == 10) = false := by rw [beq_eq_false_iff_ne]; omega
          clear hten
          go_wp2_with fail
          go_ret
          exact ⟨rfl, hB7.alloc hB7.size _⟩
    · subst gl
      have gl1 : decide (lp < lp) = false := by simp
      have gc1 : decide (cp < cq) = true := by simpa using gc
      cases x with
      | zero =>
        simp only [Int.cast_ofNat_Int] at cJ7
        go_wp2_with fail
        go_ret
        exact ⟨rfl, hB7.alloc hB7.size _⟩
      | succ y =>
        rw [show (((y + 1 : Nat) : Nat) : Int) = (y : Int) + 1 from by omega] at cJ7
        have hy : y < s.size := by omega
        have hyi : (y : Int) < (s.size : Int) := by omega
        have gk : decide ((0 : Int) < (y : Int) + 1) = true := by rw [decide_eq_true_iff]; omega
        by_cases hten : (s[y]'hy).toNat = 10
        · have gt : (((s[y]'hy).toNat : Int) == 10) = true := by rw [beq_iff_eq]; omega
          have HT : Hid (s.data.toList[y]? = some 10) := by
            unfold Hid
            rw [List.getElem?_eq_getElem (show y < s.data.toList.length from hy)]
            exact congrArg some (UInt8.toNat_inj.1 hten)
          clear hten
          go_wp2_with fail
          rw [show ((y : Int) + 1) = ((y + 1 : Nat) : Int) from by omega]
          refine (where_pos s (y + 1) _ hs hxs).mono ?_
          rintro e w8 ⟨l8, c8, rfl, hP8, hb8⟩
          rw [take_nl _ _ HT.out] at hP8
          have hc8 := hP8.nl
          subst hc8
          have g8 := bcell hb8
          have hy8 : w7.heap.size < w8.heap.size := by have := hb8.size; simp at this; omega
          have hB8 : Below w.heap.size w w8 := (hB7.alloc hB7.size _).trans (hb8.mono (by have := hB7.size; simp; omega))
          have dp0 : w8.cell? ⟨w6.heap.size, 0, none⟩ = some (.int .i64 lp) := by rw [g8.1 _ _ (by simp; omega), World.cell?_alloc_past _ _ _ hy7]; exact cp0
          have dp1 : w8.cell? ⟨w6.heap.size, 1, none⟩ = some (.int .i64 cp) := by rw [g8.1 _ _ (by simp; omega), World.cell?_alloc_past _ _ _ hy7]; exact cp1
          have dq0 : w8.cell? ⟨w7.heap.size, 0, none⟩ = some (.int .i64 lp) := by rw [g8.1 _ _ (by simp)]; simp [go_sem]
          have dq1 : w8.cell? ⟨w7.heap.size, 1, none⟩ = some (.int .i64 cq) := by rw [g8.1 _ _ (by simp)]; simp [go_sem]
          have hy68 : w6.heap.size < w8.heap.size := by omega
          clear g8 hb8 hP8 cp0 cp1 cJ7
          go_wp2_with fail
          go_ret
          exact ⟨rfl, hB8.alloc hB8.size _⟩
        · have gt : (((s[y]'hy).toNat : Int) == 10) = false := by rw [beq_eq_false_iff_ne]; omega
          clear hten
          go_wp2_with fail
          go_ret
          exact ⟨rfl, hB7.alloc hB7.size _⟩
  · subst heq
    have gE : ((ja : Int) == (ja : Int)) = true := by simp
    clear cB hjb jb0 jb1 hbb
    go_wp2_with fail
    refine (where_pos s (bp s.data.toList ja) _ hs hba).mono ?_
    rintro e w6 ⟨lp, cp, rfl, hP, hb6⟩
    have hB6 : Below w.heap.size w w6 := hB3.trans (hb6.mono hB3.size)
    have hL6 := (hL3.below hb6).alloc (.cells #[.int .i64 lp, .int .i64 cp] 23)
    have cM6 := hL6.2 ja hja
    have cP6 := World.cell?_alloc_new w6 #[Value.int .i64 lp, Value.int .i64 cp] 23
    have HP : Hid (IsPos (s.data.toList.take (bp s.data.toList ja)) lp cp) := hP
    clear hP hb6 hB3 hL3 cA
    go_wp2_with fail
    refine (where_pos s (bp s.data.toList ja) _ hs hba).mono ?_
    rintro e w7 ⟨lq, cq, rfl, hQ, hb7⟩
    have HQ : Hid (IsPos (s.data.toList.take (bp s.data.toList ja)) lq cq) := hQ
    have g7 := bcell hb7
    have hL7 := (hL6.below hb7).alloc (.cells #[.int .i64 lq, .int .i64 cq] 23)
    have cJ7 := hL7.2 ja hja
    have hB7 : Below w.heap.size w w7 := (hB6.alloc hB6.size _).trans (hb7.mono (by have := hB6.size; simp; omega))
    have hy7 : w6.heap.size < w7.heap.size := by have := hb7.size; simp at this; omega
    have cp0 : w7.cell? ⟨w6.heap.size, 0, none⟩ = some (.int .i64 lp) := by rw [g7.1 _ _ (by simp)]; simp [go_sem]
    have cp1 : w7.cell? ⟨w6.heap.size, 1, none⟩ = some (.int .i64 cp) := by rw [g7.1 _ _ (by simp)]; simp [go_sem]
    clear hQ hb7 hB6 hL6 cM6 cP6 g7
    have gp1 : decide (lp < 1) = false := by have := HP.out.ge; simp; omega
    have gp2 : decide (cp < 1) = false := by have := HP.out.ge; simp; omega
    obtain ⟨x, HXX⟩ : ∃ x, Hid (bp s.data.toList ja = x) := ⟨_, rfl⟩
    rw [HXX.out] at cJ7
    have hxs : x ≤ s.size := by rw [← HXX.out]; exact hba
    obtain ⟨e1, e2⟩ := HP.out.uniq HQ.out
    subst e1
    subst e2
    cases x with
    | zero =>
      simp only [Int.cast_ofNat_Int] at cJ7
      go_wp2_with fail
      go_ret
      exact ⟨rfl, hB7.alloc hB7.size _⟩
    | succ y =>
      rw [show (((y + 1 : Nat) : Nat) : Int) = (y : Int) + 1 from by omega] at cJ7
      have hy : y < s.size := by omega
      have hyi : (y : Int) < (s.size : Int) := by omega
      have gk : decide ((0 : Int) < (y : Int) + 1) = true := by rw [decide_eq_true_iff]; omega
      by_cases hten : (s[y]'hy).toNat = 10
      · have gt : (((s[y]'hy).toNat : Int) == 10) = true := by rw [beq_iff_eq]; omega
        have HT : Hid (s.data.toList[y]? = some 10) := by
          unfold Hid
          rw [List.getElem?_eq_getElem (show y < s.data.toList.length from hy)]
          exact congrArg some (UInt8.toNat_inj.1 hten)
        clear hten
        go_wp2_with fail
        rw [show ((y : Int) + 1) = ((y + 1 : Nat) : Int) from by omega]
        refine (where_pos s (y + 1) _ hs hxs).mono ?_
        rintro e w8 ⟨l8, c8, rfl, hP8, hb8⟩
        rw [take_nl _ _ HT.out] at hP8
        have hc8 := hP8.nl
        subst hc8
        have g8 := bcell hb8
        have hy8 : w7.heap.size < w8.heap.size := by have := hb8.size; simp at this; omega
        have hB8 : Below w.heap.size w w8 := (hB7.alloc hB7.size _).trans (hb8.mono (by have := hB7.size; simp; omega))
        have dp0 : w8.cell? ⟨w6.heap.size, 0, none⟩ = some (.int .i64 lp) := by rw [g8.1 _ _ (by simp; omega), World.cell?_alloc_past _ _ _ hy7]; exact cp0
        have dp1 : w8.cell? ⟨w6.heap.size, 1, none⟩ = some (.int .i64 cp) := by rw [g8.1 _ _ (by simp; omega), World.cell?_alloc_past _ _ _ hy7]; exact cp1
        have dq0 : w8.cell? ⟨w7.heap.size, 0, none⟩ = some (.int .i64 lp) := by rw [g8.1 _ _ (by simp)]; simp [go_sem]
        have dq1 : w8.cell? ⟨w7.heap.size, 1, none⟩ = some (.int .i64 cp) := by rw [g8.1 _ _ (by simp)]; simp [go_sem]
        have hy68 : w6.heap.size < w8.heap.size := by omega
        clear g8 hb8 hP8 cp0 cp1 cJ7
        go_wp2_with fail
        go_ret
        exact ⟨rfl, hB8.alloc hB8.size _⟩
      · have gt : (((s[y]'hy).toNat : Int) == 10) = false := by rw [beq_eq_false_iff_ne]; omega
        clear hten
        go_wp2_with fail
        go_ret
        exact ⟨rfl, hB7.alloc hB7.size _⟩
  · have hmn : min (ja : Int) (jb : Int) = (jb : Int) := by omega
    have hmx : max (ja : Int) (jb : Int) = (ja : Int) := by omega
    have hlti : (jb : Int) < (ja : Int) := by omega
    have gE : ((ja : Int) == (jb : Int)) = false := by rw [beq_eq_false_iff_ne]; omega
    have gN : ((ja : Int) != (jb : Int)) = true := by rw [bne_iff_ne]; omega
    go_wp2_with fail
    refine (where_pos s (bp s.data.toList jb) _ hs hbb).mono ?_
    rintro e w6 ⟨lp, cp, rfl, hP, hb6⟩
    have hB6 : Below w.heap.size w w6 := hB3.trans (hb6.mono hB3.size)
    have hL6 := (hL3.below hb6).alloc (.cells #[.int .i64 lp, .int .i64 cp] 23)
    have cM6 := hL6.2 ja hja
    have cP6 := World.cell?_alloc_new w6 #[Value.int .i64 lp, Value.int .i64 cp] 23
    have HP : Hid (IsPos (s.data.toList.take (bp s.data.toList jb)) lp cp) := hP
    clear hP hb6 hB3 hL3 cA cB
    go_wp2_with fail
    refine (where_pos s (bp s.data.toList ja) _ hs hba).mono ?_
    rintro e w7 ⟨lq, cq, rfl, hQ, hb7⟩
    have HQ : Hid (IsPos (s.data.toList.take (bp s.data.toList ja)) lq cq) := hQ
    have g7 := bcell hb7
    have hL7 := (hL6.below hb7).alloc (.cells #[.int .i64 lq, .int .i64 cq] 23)
    have cJ7 := hL7.2 jb hjb
    have hB7 : Below w.heap.size w w7 := (hB6.alloc hB6.size _).trans (hb7.mono (by have := hB6.size; simp; omega))
    have hy7 : w6.heap.size < w7.heap.size := by have := hb7.size; simp at this; omega
    have cp0 : w7.cell? ⟨w6.heap.size, 0, none⟩ = some (.int .i64 lp) := by rw [g7.1 _ _ (by simp)]; simp [go_sem]
    have cp1 : w7.cell? ⟨w6.heap.size, 1, none⟩ = some (.int .i64 cp) := by rw [g7.1 _ _ (by simp)]; simp [go_sem]
    clear hQ hb7 hB6 hL6 cM6 cP6 g7
    have gp1 : decide (lp < 1) = false := by have := HP.out.ge; simp; omega
    have gp2 : decide (cp < 1) = false := by have := HP.out.ge; simp; omega
    obtain ⟨x, HXX⟩ : ∃ x, Hid (bp s.data.toList jb = x) := ⟨_, rfl⟩
    rw [HXX.out] at cJ7
    have hxs : x ≤ s.size := by rw [← HXX.out]; exact hbb
    rcases IsPos.lt (by omega) (by have := HJ.out; omega) HP.out HQ.out with gl | ⟨gl, gc⟩
    · have gl1 : decide (lp < lq) = true := by simpa using gl
      cases x with
      | zero =>
        simp only [Int.cast_ofNat_Int] at cJ7
        go_wp2_with fail
        go_ret
        exact ⟨rfl, hB7.alloc hB7.size _⟩
      | succ y =>
        rw [show (((y + 1 : Nat) : Nat) : Int) = (y : Int) + 1 from by omega] at cJ7
        have hy : y < s.size := by omega
        have hyi : (y : Int) < (s.size : Int) := by omega
        have gk : decide ((0 : Int) < (y : Int) + 1) = true := by rw [decide_eq_true_iff]; omega
        by_cases hten : (s[y]'hy).toNat = 10
        · have gt : (((s[y]'hy).toNat : Int) == 10) = true := by rw [beq_iff_eq]; omega
          have HT : Hid (s.data.toList[y]? = some 10) := by
            unfold Hid
            rw [List.getElem?_eq_getElem (show y < s.data.toList.length from hy)]
            exact congrArg some (UInt8.toNat_inj.1 hten)
          clear hten
          go_wp2_with fail
          rw [show ((y : Int) + 1) = ((y + 1 : Nat) : Int) from by omega]
          refine (where_pos s (y + 1) _ hs hxs).mono ?_
          rintro e w8 ⟨l8, c8, rfl, hP8, hb8⟩
          rw [take_nl _ _ HT.out] at hP8
          have hc8 := hP8.nl
          subst hc8
          have g8 := bcell hb8
          have hy8 : w7.heap.size < w8.heap.size := by have := hb8.size; simp at this; omega
          have hB8 : Below w.heap.size w w8 := (hB7.alloc hB7.size _).trans (hb8.mono (by have := hB7.size; simp; omega))
          have dp0 : w8.cell? ⟨w6.heap.size, 0, none⟩ = some (.int .i64 lp) := by rw [g8.1 _ _ (by simp; omega), World.cell?_alloc_past _ _ _ hy7]; exact cp0
          have dp1 : w8.cell? ⟨w6.heap.size, 1, none⟩ = some (.int .i64 cp) := by rw [g8.1 _ _ (by simp; omega), World.cell?_alloc_past _ _ _ hy7]; exact cp1
          have dq0 : w8.cell? ⟨w7.heap.size, 0, none⟩ = some (.int .i64 lq) := by rw [g8.1 _ _ (by simp)]; simp [go_sem]
          have dq1 : w8.cell? ⟨w7.heap.size, 1, none⟩ = some (.int .i64 cq) := by rw [g8.1 _ _ (by simp)]; simp [go_sem]
          have hy68 : w6.heap.size < w8.heap.size := by omega
          clear g8 hb8 hP8 cp0 cp1 cJ7
          go_wp2_with fail
          go_ret
          exact ⟨rfl, hB8.alloc hB8.size _⟩
        · have gt : (((s[y]'hy).toNat : Int) == 10) = false := by rw [beq_eq_false_iff_ne]; omega
          clear hten
          go_wp2_with fail
          go_ret
          exact ⟨rfl, hB7.alloc hB7.size _⟩
    · subst gl
      have gl1 : decide (lp < lp) = false := by simp
      have gc1 : decide (cp < cq) = true := by simpa using gc
      cases x with
      | zero =>
        simp only [Int.cast_ofNat_Int] at cJ7
        go_wp2_with fail
        go_ret
        exact ⟨rfl, hB7.alloc hB7.size _⟩
      | succ y =>
        rw [show (((y + 1 : Nat) : Nat) : Int) = (y : Int) + 1 from by omega] at cJ7
        have hy : y < s.size := by omega
        have hyi : (y : Int) < (s.size : Int) := by omega
        have gk : decide ((0 : Int) < (y : Int) + 1) = true := by rw [decide_eq_true_iff]; omega
        by_cases hten : (s[y]'hy).toNat = 10
        · have gt : (((s[y]'hy).toNat : Int) == 10) = true := by rw [beq_iff_eq]; omega
          have HT : Hid (s.data.toList[y]? = some 10) := by
            unfold Hid
            rw [List.getElem?_eq_getElem (show y < s.data.toList.length from hy)]
            exact congrArg some (UInt8.toNat_inj.1 hten)
          clear hten
          go_wp2_with fail
          rw [show ((y : Int) + 1) = ((y + 1 : Nat) : Int) from by omega]
          refine (where_pos s (y + 1) _ hs hxs).mono ?_
          rintro e w8 ⟨l8, c8, rfl, hP8, hb8⟩
          rw [take_nl _ _ HT.out] at hP8
          have hc8 := hP8.nl
          subst hc8
          have g8 := bcell hb8
          have hy8 : w7.heap.size < w8.heap.size := by have := hb8.size; simp at this; omega
          have hB8 : Below w.heap.size w w8 := (hB7.alloc hB7.size _).trans (hb8.mono (by have := hB7.size; simp; omega))
          have dp0 : w8.cell? ⟨w6.heap.size, 0, none⟩ = some (.int .i64 lp) := by rw [g8.1 _ _ (by simp; omega), World.cell?_alloc_past _ _ _ hy7]; exact cp0
          have dp1 : w8.cell? ⟨w6.heap.size, 1, none⟩ = some (.int .i64 cp) := by rw [g8.1 _ _ (by simp; omega), World.cell?_alloc_past _ _ _ hy7]; exact cp1
          have dq0 : w8.cell? ⟨w7.heap.size, 0, none⟩ = some (.int .i64 lp) := by rw [g8.1 _ _ (by simp)]; simp [go_sem]
          have dq1 : w8.cell? ⟨w7.heap.size, 1, none⟩ = some (.int .i64 cq) := by rw [g8.1 _ _ (by simp)]; simp [go_sem]
          have hy68 : w6.heap.size < w8.heap.size := by omega
          clear g8 hb8 hP8 cp0 cp1 cJ7
          go_wp2_with fail
          go_ret
          exact ⟨rfl, hB8.alloc hB8.size _⟩
        · have gt : (((s[y]'hy).toNat : Int) == 10) = false := by rw [beq_eq_false_iff_ne]; omega
          clear hten
          go_wp2_with fail
          go_ret
          exact ⟨rfl, hB7.alloc hB7.size _⟩
end Go.Proofs.Ytomeocofnbnegab
