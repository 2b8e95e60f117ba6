import Derived.Test.YtbeohmcmphebhaaXQClass
import Derived.Test.YtbeohmcmphebhaaXQRefLit
namespace Go.Proofs.Ytbeohmcmphebhaa
open Go.RowKit
theorem gd_cg (c : UInt8) (h : gd cg c = true) : 33 ≤ c.toNat ∧ c.toNat ≤ 126 := by
  simp only [gd, cg, Lib.indexByte] at h
  by_cases h1 : (91 : UInt8) == c
  · have := beq_iff_eq.1 h1; subst this; decide
  · by_cases h2 : (93 : UInt8) == c
    · have := beq_iff_eq.1 h2; subst this; decide
    · by_cases h3 : (45 : UInt8) == c
      · have := beq_iff_eq.1 h3; subst this; decide
      · by_cases h4 : (94 : UInt8) == c
        · have := beq_iff_eq.1 h4; subst this; decide
        · by_cases h5 : (92 : UInt8) == c
          · have := beq_iff_eq.1 h5; subst this; decide
          · simp [h1, h2, h3, h4, h5] at h
set_option maxHeartbeats 1000000 in
theorem one_any (b : Nat) (hb : b < 256) (w : World) :
    Calls Try.prog 56 #[.int .i64 (b : Int)] w fun e w' => e = .returned (.string ⟨(csign b).toArray⟩) ∧ Below w.heap.size w w' := by
  go_enter Try.func56, Try.ntmps56
  go_wp2_with fail
  rw [show (b : Int) = ((UInt8.ofNat b).toNat : Int) from by simp; omega]
  refine (shown_any 33 ⟨#[91, 93, 45, 94, 92]⟩ (UInt8.ofNat b) _ (fun h => gd_cg _ h)).mono ?_
  rintro e w1 ⟨rfl, hb1⟩
  have H : Hid (sign 33 (⟨#[91, 93, 45, 94, 92]⟩ : ByteArray).data.toList (UInt8.ofNat b) = csign b) := rfl
  rw [H.out]
  go_wp2_with fail
  go_ret
  exact ⟨rfl, hb1⟩
theorem start_zero (S : BitVec 256) (k : Nat) (h : inS S k = true) (h0 : k = 0) : start S k = true := by subst h0; simp [start, h]
theorem start_yes (S : BitVec 256) (k : Nat) (h : inS S k = true) (h1 : inS S (k - 1) = false) : start S k = true := by simp [start, h, h1]
theorem eor_same (S : BitVec 256) (k m : Nat) (h : eor S (k + m - 1) = eor S k) (hm : 1 ≤ m) (hk : k + m < 256) (hi : inS S (k + m) = true) : eor S (k + (m + 1) - 1) = eor S k := by
  rw [← h, eor_yes S (k + m - 1) (by omega) (by rw [show k + m - 1 + 1 = k + m from by omega]; exact hi)]
  congr 1; omega
theorem eor_fin (S : BitVec 256) (k m : Nat) (h : eor S (k + m - 1) = eor S k) (hm : 1 ≤ m) (hk : k + m ≤ 256) (hi : k + m = 256 ∨ inS S (k + m) = false) : eor S k = k + m - 1 := by
  rw [← h]
  rcases hi with hi | hi
  · exact eor_end S _ (by omega)
  · by_cases e : k + m = 256
    · exact eor_end S _ (by omega)
    · exact eor_no S _ (by omega) (by rw [show k + m - 1 + 1 = k + m from by omega]; exact hi)
set_option maxRecDepth 20000 in
set_option maxHeartbeats 1500000 in
theorem rclass_any (S : BitVec 256) (w : World) :
    Calls Try.prog 40 #[.agg #[.int .u64 (wd S 0), .int .u64 (wd S 1), .int .u64 (wd S 2), .int .u64 (wd S 3)]] w fun e w' => e = .returned (.string ⟨(cls S).toArray⟩) ∧ Below w.heap.size w w' := by
  go_enter Try.func40, Try.ntmps40
  go_wp2_with fail
  go_loopw [3, 5, 6, 7] (fun v _ _ i wx => ∃ k : Nat, i = .int .i64 k ∧ k ≤ 256 ∧ v = .string ⟨(clsTo S k).toArray⟩ ∧ Below w.heap.size w wx ∧ Lies wx w.heap.size #[.int .u64 (wd S 0), .int .u64 (wd S 1), .int .u64 (wd S 2), .int .u64 (wd S 3)]) (fun _ _ _ i _ => 256 - (intOf i).toNat)
  case atStart => exact ⟨0, rfl, by omega, rfl, (Below.refl _ _).alloc (Nat.le_refl _) _, Lies.new _ _⟩
  case round =>
    obtain ⟨k, rfl, hk, rfl, hB, hL⟩ := hrel
    have hlt := hL.lt
    have hc := hL.cell
    have hlen := clsTo_len S k
    by_cases hh : (k : Int) < 256
    · have hk2 : k < 256 := by omega
      cases hi : inS S k
      · have HI : Hid (inS S k = false) := hi
        have HC : Hid (clsTo S (k + 1) = clsTo S k) := clsTo_no S k (start_out S k hi)
        clear hi
        generalize clsTo S k = L at *
        go_wp2_with fail
        refine (rhas_any S k _ (by omega)).mono ?_
        rintro e w1 ⟨rfl, hb⟩
        rw [HI.out]
        go_wp2_with fail
        exact ⟨⟨k + 1, by go_num, by omega, by rw [HC.out], b_call hB hb, hL.below hb hlt⟩, by simp [intOf]; omega⟩
      · have HI : Hid (inS S k = true) := hi
        clear hi
        by_cases h0 : k = 0
        · have HC : Hid (clsTo S (k + 1) = clsTo S k ++ run k (eor S k)) := clsTo_yes S k (start_zero S k HI.out h0)
          have h0' : decide (0 < k) = false := by simp; omega
          clear h0
          generalize clsTo S k = L at *
          go_wp2_with fail
          refine (rhas_any S k _ (by omega)).mono ?_
          rintro e w1 ⟨rfl, hb⟩
          rw [HI.out]
          have hL1 := hL.below hb hlt
          have hB1 := b_call hB hb
          clear hL hB hb hc
          go_wp2_with fail
          go_loopw [6] (fun n wx => ∃ m : Nat, n = .int .i64 m ∧ 1 ≤ m ∧ k + m ≤ 256 ∧ Hid (eor S (k + m - 1) = eor S k) ∧ Below w.heap.size w wx ∧ Lies wx w.heap.size #[.int .u64 (wd S 0), .int .u64 (wd S 1), .int .u64 (wd S 2), .int .u64 (wd S 3)]) (fun n _ => 257 - (intOf n).toNat)
          case atStart => exact ⟨1, rfl, by omega, by omega, by unfold Hid; rfl, hB1, hL1⟩
          case round =>
            clear hB1 hL1
            obtain ⟨m, rfl, hm1, hm2, HE, hB2, hL2⟩ := hrel
            have hlt2 := hL2.lt
            by_cases hkm : k + m < 256
            · have hd : decide ((k : Int) + (m : Int) < 256) = true := by simp; omega
              have hc2 := hL2.cell
              cases hi2 : inS S (k + m)
              · have HQ : Hid (eor S k = k + m - 1) := eor_fin S k m HE.out hm1 hm2 (.inr hi2)
                have HI2 : Hid (inS S (k + m) = false) := hi2
                clear hi2
                go_wp2_with fail
                rw [show ((k : Int) + (m : Int)) = ((k + m : Nat) : Int) from by omega]
                refine (rhas_any S (k + m) _ (by omega)).mono ?_
                rintro e w3 ⟨rfl, hb3⟩
                rw [HI2.out]
                have hB3 := b_call hB2 hb3
                have hL3 := hL2.below hb3 hlt2
                clear hB2 hL2 hb3 hc2 HI2
                have HC2 : Hid (clsTo S (k + 1) = L ++ run k (k + m - 1)) := by have := HC.out; rw [HQ.out] at this; exact this
                clear HC HQ HE
                have hcs := csign_len k
                have hcs2 := csign_len (k + m - 1)
                by_cases m1 : m = 1
                · have HC3 : Hid (clsTo S (k + 1) = L ++ csign k) := by rw [HC2.out, run_one k (k + m - 1) (by omega)]; rfl
                  have d1 : decide ((2 : Int) < (m : Int)) = false := by simp; omega
                  have d2 : decide (1 < m) = false := by simp; omega
                  have d2' : decide ((1 : Int) < (m : Int)) = false := by simp; omega
                  clear HC2 m1
                  go_wp2_with fail
                  refine (one_any k hk2 _).mono ?_
                  rintro e w5 ⟨rfl, hb5⟩
                  have hB5 := b_call hB3 hb5
                  have hL5 := hL3.below hb5 hL3.lt
                  clear hB3 hL3 hb5
                  go_wp2_with fail
                  rw [cat_list]
                  exact ⟨⟨k + 1, by go_num, by omega, by rw [HC3.out], hB5, hL5⟩, by simp [intOf]; omega⟩
                · by_cases m2 : m = 2
                  · have HC3 : Hid (clsTo S (k + 1) = (L ++ csign k) ++ csign (k + m - 1)) := by rw [HC2.out, run_pair k (k + m - 1) (by omega), List.append_assoc]; rfl
                    have d1 : decide ((2 : Int) < (m : Int)) = false := by simp; omega
                    have d2 : decide (1 < m) = true := by simp; omega
                    have d2' : decide ((1 : Int) < (m : Int)) = true := by simp; omega
                    clear HC2 m1 m2
                    go_wp2_with fail
                    refine (one_any k hk2 _).mono ?_
                    rintro e w5 ⟨rfl, hb5⟩
                    have hB5 := b_call hB3 hb5
                    have hL5 := hL3.below hb5 hL3.lt
                    clear hB3 hL3 hb5
                    go_wp2_with fail
                    rw [cat_list]
                    rw [show ((k : Int) + (m : Int) - 1) = ((k + m - 1 : Nat) : Int) from by omega]
                    refine (one_any (k + m - 1) (by omega) _).mono ?_
                    rintro e w6 ⟨rfl, hb6⟩
                    have hB6 := b_call hB5 hb6
                    have hL6 := hL5.below hb6 hL5.lt
                    clear hB5 hL5 hb6
                    go_wp2_with fail
                    rw [cat_list]
                    exact ⟨⟨k + 1, by go_num, by omega, by rw [HC3.out], hB6, hL6⟩, by simp [intOf]; omega⟩
                  · have HC3 : Hid (clsTo S (k + 1) = ((L ++ csign k) ++ [45]) ++ csign (k + m - 1)) := by rw [HC2.out, run_long k (k + m - 1) (by omega), ← List.append_assoc, ← List.append_assoc]; rfl
                    have d1 : decide ((2 : Int) < (m : Int)) = true := by simp; omega
                    have d2 : decide (1 < m) = true := by simp; omega
                    have d2' : decide ((1 : Int) < (m : Int)) = true := by simp; omega
                    clear HC2 m1 m2
                    go_wp2_with fail
                    refine (one_any k hk2 _).mono ?_
                    rintro e w5 ⟨rfl, hb5⟩
                    have hB5 := b_call hB3 hb5
                    have hL5 := hL3.below hb5 hL3.lt
                    clear hB3 hL3 hb5
                    go_wp2_with fail
                    simp only [cat_list]
                    rw [show ((k : Int) + (m : Int) - 1) = ((k + m - 1 : Nat) : Int) from by omega]
                    refine (one_any (k + m - 1) (by omega) _).mono ?_
                    rintro e w6 ⟨rfl, hb6⟩
                    have hB6 := b_call hB5 hb6
                    have hL6 := hL5.below hb6 hL5.lt
                    clear hB5 hL5 hb6
                    go_wp2_with fail
                    rw [cat_list]
                    exact ⟨⟨k + 1, by go_num, by omega, by rw [HC3.out]; simp, hB6, hL6⟩, by simp [intOf]; omega⟩
              · have HQ : Hid (eor S (k + (m + 1) - 1) = eor S k) := eor_same S k m HE.out hm1 hkm hi2
                have HI2 : Hid (inS S (k + m) = true) := hi2
                clear hi2
                go_wp2_with fail
                rw [show ((k : Int) + (m : Int)) = ((k + m : Nat) : Int) from by omega]
                refine (rhas_any S (k + m) _ (by omega)).mono ?_
                rintro e w3 ⟨rfl, hb3⟩
                rw [HI2.out]
                have hB3 := b_call hB2 hb3
                have hL3 := hL2.below hb3 hlt2
                clear hB2 hL2 hb3 hc2 HI2
                go_wp2_with fail
                exact ⟨⟨m + 1, by go_num, by omega, by omega, HQ, hB3, hL3⟩, by simp [intOf]; omega⟩
            · have hd : decide ((k : Int) + (m : Int) < 256) = false := by simp; omega
              have HQ : Hid (eor S k = k + m - 1) := eor_fin S k m HE.out hm1 hm2 (.inl (by omega))
              have hB3 := hB2
              have hL3 := hL2
              clear hB2 hL2
              have HC2 : Hid (clsTo S (k + 1) = L ++ run k (k + m - 1)) := by have := HC.out; rw [HQ.out] at this; exact this
              clear HC HQ HE
              have hcs := csign_len k
              have hcs2 := csign_len (k + m - 1)
              by_cases m1 : m = 1
              · have HC3 : Hid (clsTo S (k + 1) = L ++ csign k) := by rw [HC2.out, run_one k (k + m - 1) (by omega)]; rfl
                have d1 : decide ((2 : Int) < (m : Int)) = false := by simp; omega
                have d2 : decide (1 < m) = false := by simp; omega
                have d2' : decide ((1 : Int) < (m : Int)) = false := by simp; omega
                clear HC2 m1
                go_wp2_with fail
                refine (one_any k hk2 _).mono ?_
                rintro e w5 ⟨rfl, hb5⟩
                have hB5 := b_call hB3 hb5
                have hL5 := hL3.below hb5 hL3.lt
                clear hB3 hL3 hb5
                go_wp2_with fail
                rw [cat_list]
                exact ⟨⟨k + 1, by go_num, by omega, by rw [HC3.out], hB5, hL5⟩, by simp [intOf]; omega⟩
              · by_cases m2 : m = 2
                · have HC3 : Hid (clsTo S (k + 1) = (L ++ csign k) ++ csign (k + m - 1)) := by rw [HC2.out, run_pair k (k + m - 1) (by omega), List.append_assoc]; rfl
                  have d1 : decide ((2 : Int) < (m : Int)) = false := by simp; omega
                  have d2 : decide (1 < m) = true := by simp; omega
                  have d2' : decide ((1 : Int) < (m : Int)) = true := by simp; omega
                  clear HC2 m1 m2
                  go_wp2_with fail
                  refine (one_any k hk2 _).mono ?_
                  rintro e w5 ⟨rfl, hb5⟩
                  have hB5 := b_call hB3 hb5
                  have hL5 := hL3.below hb5 hL3.lt
                  clear hB3 hL3 hb5
                  go_wp2_with fail
                  rw [cat_list]
                  rw [show ((k : Int) + (m : Int) - 1) = ((k + m - 1 : Nat) : Int) from by omega]
                  refine (one_any (k + m - 1) (by omega) _).mono ?_
                  rintro e w6 ⟨rfl, hb6⟩
                  have hB6 := b_call hB5 hb6
                  have hL6 := hL5.below hb6 hL5.lt
                  clear hB5 hL5 hb6
                  go_wp2_with fail
                  rw [cat_list]
                  exact ⟨⟨k + 1, by go_num, by omega, by rw [HC3.out], hB6, hL6⟩, by simp [intOf]; omega⟩
                · have HC3 : Hid (clsTo S (k + 1) = ((L ++ csign k) ++ [45]) ++ csign (k + m - 1)) := by rw [HC2.out, run_long k (k + m - 1) (by omega), ← List.append_assoc, ← List.append_assoc]; rfl
                  have d1 : decide ((2 : Int) < (m : Int)) = true := by simp; omega
                  have d2 : decide (1 < m) = true := by simp; omega
                  have d2' : decide ((1 : Int) < (m : Int)) = true := by simp; omega
                  clear HC2 m1 m2
                  go_wp2_with fail
                  refine (one_any k hk2 _).mono ?_
                  rintro e w5 ⟨rfl, hb5⟩
                  have hB5 := b_call hB3 hb5
                  have hL5 := hL3.below hb5 hL3.lt
                  clear hB3 hL3 hb5
                  go_wp2_with fail
                  simp only [cat_list]
                  rw [show ((k : Int) + (m : Int) - 1) = ((k + m - 1 : Nat) : Int) from by omega]
                  refine (one_any (k + m - 1) (by omega) _).mono ?_
                  rintro e w6 ⟨rfl, hb6⟩
                  have hB6 := b_call hB5 hb6
                  have hL6 := hL5.below hb6 hL5.lt
                  clear hB5 hL5 hb6
                  go_wp2_with fail
                  rw [cat_list]
                  exact ⟨⟨k + 1, by go_num, by omega, by rw [HC3.out]; simp, hB6, hL6⟩, by simp [intOf]; omega⟩
        · have h0' : decide (0 < k) = true := by simp; omega
          cases hj : inS S (k - 1)
          · have HC : Hid (clsTo S (k + 1) = clsTo S k ++ run k (eor S k)) := clsTo_yes S k (start_yes S k HI.out hj)
            have HJ : Hid (inS S (k - 1) = false) := hj
            clear hj
            generalize clsTo S k = L at *
            go_wp2_with fail
            refine (rhas_any S k _ (by omega)).mono ?_
            rintro e w1' ⟨rfl, hb⟩
            rw [HI.out]
            have hL1' := hL.below hb hlt
            have hB1' := b_call hB hb
            have hc1' := hL1'.cell
            have hlt1' := hL1'.lt
            clear hL hB hb hc
            go_wp2_with fail
            rw [show ((k : Int) - 1) = ((k - 1 : Nat) : Int) from by omega]
            refine (rhas_any S (k - 1) _ (by omega)).mono ?_
            rintro e w1 ⟨rfl, hb2⟩
            rw [HJ.out]
            have hL1 := hL1'.below hb2 hlt1'
            have hB1 := b_call hB1' hb2
            clear hL1' hB1' hb2 hc1'
            go_wp2_with fail
            go_loopw [6] (fun n wx => ∃ m : Nat, n = .int .i64 m ∧ 1 ≤ m ∧ k + m ≤ 256 ∧ Hid (eor S (k + m - 1) = eor S k) ∧ Below w.heap.size w wx ∧ Lies wx w.heap.size #[.int .u64 (wd S 0), .int .u64 (wd S 1), .int .u64 (wd S 2), .int .u64 (wd S 3)]) (fun n _ => 257 - (intOf n).toNat)
            case atStart => exact ⟨1, rfl, by omega, by omega, by unfold Hid; rfl, hB1, hL1⟩
            case round =>
              clear hB1 hL1
              obtain ⟨m, rfl, hm1, hm2, HE, hB2, hL2⟩ := hrel
              have hlt2 := hL2.lt
              by_cases hkm : k + m < 256
              · have hd : decide ((k : Int) + (m : Int) < 256) = true := by simp; omega
                have hc2 := hL2.cell
                cases hi2 : inS S (k + m)
                · have HQ : Hid (eor S k = k + m - 1) := eor_fin S k m HE.out hm1 hm2 (.inr hi2)
                  have HI2 : Hid (inS S (k + m) = false) := hi2
                  clear hi2
                  go_wp2_with fail
                  rw [show ((k : Int) + (m : Int)) = ((k + m : Nat) : Int) from by omega]
                  refine (rhas_any S (k + m) _ (by omega)).mono ?_
                  rintro e w3 ⟨rfl, hb3⟩
                  rw [HI2.out]
                  have hB3 := b_call hB2 hb3
                  have hL3 := hL2.below hb3 hlt2
                  clear hB2 hL2 hb3 hc2 HI2
                  have HC2 : Hid (clsTo S (k + 1) = L ++ run k (k + m - 1)) := by have := HC.out; rw [HQ.out] at this; exact this
                  clear HC HQ HE
                  have hcs := csign_len k
                  have hcs2 := csign_len (k + m - 1)
                  by_cases m1 : m = 1
                  · have HC3 : Hid (clsTo S (k + 1) = L ++ csign k) := by rw [HC2.out, run_one k (k + m - 1) (by omega)]; rfl
                    have d1 : decide ((2 : Int) < (m : Int)) = false := by simp; omega
                    have d2 : decide (1 < m) = false := by simp; omega
                    have d2' : decide ((1 : Int) < (m : Int)) = false := by simp; omega
                    clear HC2 m1
                    go_wp2_with fail
                    refine (one_any k hk2 _).mono ?_
                    rintro e w5 ⟨rfl, hb5⟩
                    have hB5 := b_call hB3 hb5
                    have hL5 := hL3.below hb5 hL3.lt
                    clear hB3 hL3 hb5
                    go_wp2_with fail
                    rw [cat_list]
                    exact ⟨⟨k + 1, by go_num, by omega, by rw [HC3.out], hB5, hL5⟩, by simp [intOf]; omega⟩
                  · by_cases m2 : m = 2
                    · have HC3 : Hid (clsTo S (k + 1) = (L ++ csign k) ++ csign (k + m - 1)) := by rw [HC2.out, run_pair k (k + m - 1) (by omega), List.append_assoc]; rfl
                      have d1 : decide ((2 : Int) < (m : Int)) = false := by simp; omega
                      have d2 : decide (1 < m) = true := by simp; omega
                      have d2' : decide ((1 : Int) < (m : Int)) = true := by simp; omega
                      clear HC2 m1 m2
                      go_wp2_with fail
                      refine (one_any k hk2 _).mono ?_
                      rintro e w5 ⟨rfl, hb5⟩
                      have hB5 := b_call hB3 hb5
                      have hL5 := hL3.below hb5 hL3.lt
                      clear hB3 hL3 hb5
                      go_wp2_with fail
                      rw [cat_list]
                      rw [show ((k : Int) + (m : Int) - 1) = ((k + m - 1 : Nat) : Int) from by omega]
                      refine (one_any (k + m - 1) (by omega) _).mono ?_
                      rintro e w6 ⟨rfl, hb6⟩
                      have hB6 := b_call hB5 hb6
                      have hL6 := hL5.below hb6 hL5.lt
                      clear hB5 hL5 hb6
                      go_wp2_with fail
                      rw [cat_list]
                      exact ⟨⟨k + 1, by go_num, by omega, by rw [HC3.out], hB6, hL6⟩, by simp [intOf]; omega⟩
                    · have HC3 : Hid (clsTo S (k + 1) = ((L ++ csign k) ++ [45]) ++ csign (k + m - 1)) := by rw [HC2.out, run_long k (k + m - 1) (by omega), ← List.append_assoc, ← List.append_assoc]; rfl
                      have d1 : decide ((2 : Int) < (m : Int)) = true := by simp; omega
                      have d2 : decide (1 < m) = true := by simp; omega
                      have d2' : decide ((1 : Int) < (m : Int)) = true := by simp; omega
                      clear HC2 m1 m2
                      go_wp2_with fail
                      refine (one_any k hk2 _).mono ?_
                      rintro e w5 ⟨rfl, hb5⟩
                      have hB5 := b_call hB3 hb5
                      have hL5 := hL3.below hb5 hL3.lt
                      clear hB3 hL3 hb5
                      go_wp2_with fail
                      simp only [cat_list]
                      rw [show ((k : Int) + (m : Int) - 1) = ((k + m - 1 : Nat) : Int) from by omega]
                      refine (one_any (k + m - 1) (by omega) _).mono ?_
                      rintro e w6 ⟨rfl, hb6⟩
                      have hB6 := b_call hB5 hb6
                      have hL6 := hL5.below hb6 hL5.lt
                      clear hB5 hL5 hb6
                      go_wp2_with fail
                      rw [cat_list]
                      exact ⟨⟨k + 1, by go_num, by omega, by rw [HC3.out]; simp, hB6, hL6⟩, by simp [intOf]; omega⟩
                · have HQ : Hid (eor S (k + (m + 1) - 1) = eor S k) := eor_same S k m HE.out hm1 hkm hi2
                  have HI2 : Hid (inS S (k + m) = true) := hi2
                  clear hi2
                  go_wp2_with fail
                  rw [show ((k : Int) + (m : Int)) = ((k + m : Nat) : Int) from by omega]
                  refine (rhas_any S (k + m) _ (by omega)).mono ?_
                  rintro e w3 ⟨rfl, hb3⟩
                  rw [HI2.out]
                  have hB3 := b_call hB2 hb3
                  have hL3 := hL2.below hb3 hlt2
                  clear hB2 hL2 hb3 hc2 HI2
                  go_wp2_with fail
                  exact ⟨⟨m + 1, by go_num, by omega, by omega, HQ, hB3, hL3⟩, by simp [intOf]; omega⟩
              · have hd : decide ((k : Int) + (m : Int) < 256) = false := by simp; omega
                have HQ : Hid (eor S k = k + m - 1) := eor_fin S k m HE.out hm1 hm2 (.inl (by omega))
                have hB3 := hB2
                have hL3 := hL2
                clear hB2 hL2
                have HC2 : Hid (clsTo S (k + 1) = L ++ run k (k + m - 1)) := by have := HC.out; rw [HQ.out] at this; exact this
                clear HC HQ HE
                have hcs := csign_len k
                have hcs2 := csign_len (k + m - 1)
                by_cases m1 : m = 1
                · have HC3 : Hid (clsTo S (k + 1) = L ++ csign k) := by rw [HC2.out, run_one k (k + m - 1) (by omega)]; rfl
                  have d1 : decide ((2 : Int) < (m : Int)) = false := by simp; omega
                  have d2 : decide (1 < m) = false := by simp; omega
                  have d2' : decide ((1 : Int) < (m : Int)) = false := by simp; omega
                  clear HC2 m1
                  go_wp2_with fail
                  refine (one_any k hk2 _).mono ?_
                  rintro e w5 ⟨rfl, hb5⟩
                  have hB5 := b_call hB3 hb5
                  have hL5 := hL3.below hb5 hL3.lt
                  clear hB3 hL3 hb5
                  go_wp2_with fail
                  rw [cat_list]
                  exact ⟨⟨k + 1, by go_num, by omega, by rw [HC3.out], hB5, hL5⟩, by simp [intOf]; omega⟩
                · by_cases m2 : m = 2
                  · have HC3 : Hid (clsTo S (k + 1) = (L ++ csign k) ++ csign (k + m - 1)) := by rw [HC2.out, run_pair k (k + m - 1) (by omega), List.append_assoc]; rfl
                    have d1 : decide ((2 : Int) < (m : Int)) = false := by simp; omega
                    have d2 : decide (1 < m) = true := by simp; omega
                    have d2' : decide ((1 : Int) < (m : Int)) = true := by simp; omega
                    clear HC2 m1 m2
                    go_wp2_with fail
                    refine (one_any k hk2 _).mono ?_
                    rintro e w5 ⟨rfl, hb5⟩
                    have hB5 := b_call hB3 hb5
                    have hL5 := hL3.below hb5 hL3.lt
                    clear hB3 hL3 hb5
                    go_wp2_with fail
                    rw [cat_list]
                    rw [show ((k : Int) + (m : Int) - 1) = ((k + m - 1 : Nat) : Int) from by omega]
                    refine (one_any (k + m - 1) (by omega) _).mono ?_
                    rintro e w6 ⟨rfl, hb6⟩
                    have hB6 := b_call hB5 hb6
                    have hL6 := hL5.below hb6 hL5.lt
                    clear hB5 hL5 hb6
                    go_wp2_with fail
                    rw [cat_list]
                    exact ⟨⟨k + 1, by go_num, by omega, by rw [HC3.out], hB6, hL6⟩, by simp [intOf]; omega⟩
                  · have HC3 : Hid (clsTo S (k + 1) = ((L ++ csign k) ++ [45]) ++ csign (k + m - 1)) := by rw [HC2.out, run_long k (k + m - 1) (by omega), ← List.append_assoc, ← List.append_assoc]; rfl
                    have d1 : decide ((2 : Int) < (m : Int)) = true := by simp; omega
                    have d2 : decide (1 < m) = true := by simp; omega
                    have d2' : decide ((1 : Int) < (m : Int)) = true := by simp; omega
                    clear HC2 m1 m2
                    go_wp2_with fail
                    refine (one_any k hk2 _).mono ?_
                    rintro e w5 ⟨rfl, hb5⟩
                    have hB5 := b_call hB3 hb5
                    have hL5 := hL3.below hb5 hL3.lt
                    clear hB3 hL3 hb5
                    go_wp2_with fail
                    simp only [cat_list]
                    rw [show ((k : Int) + (m : Int) - 1) = ((k + m - 1 : Nat) : Int) from by omega]
                    refine (one_any (k + m - 1) (by omega) _).mono ?_
                    rintro e w6 ⟨rfl, hb6⟩
                    have hB6 := b_call hB5 hb6
                    have hL6 := hL5.below hb6 hL5.lt
                    clear hB5 hL5 hb6
                    go_wp2_with fail
                    rw [cat_list]
                    exact ⟨⟨k + 1, by go_num, by omega, by rw [HC3.out]; simp, hB6, hL6⟩, by simp [intOf]; omega⟩
          · have HJ : Hid (inS S (k - 1) = true) := hj
            have HC : Hid (clsTo S (k + 1) = clsTo S k) := clsTo_no S k (start_in S k h0 hj)
            clear hj
            generalize clsTo S k = L at *
            go_wp2_with fail
            refine (rhas_any S k _ (by omega)).mono ?_
            rintro e w1 ⟨rfl, hb⟩
            rw [HI.out]
            have hL1 := hL.below hb hlt
            have hB1 := b_call hB hb
            have hc1 := hL1.cell
            have hlt1 := hL1.lt
            clear hL hB hb hc
            go_wp2_with fail
            rw [show ((k : Int) - 1) = ((k - 1 : Nat) : Int) from by omega]
            refine (rhas_any S (k - 1) _ (by omega)).mono ?_
            rintro e w2 ⟨rfl, hb2⟩
            rw [HJ.out]
            go_wp2_with fail
            exact ⟨⟨k + 1, by go_num, by omega, by rw [HC.out], b_call hB1 hb2, hL1.below hb2 hlt1⟩, by simp [intOf]; omega⟩
    · have hk3 : Hid (cls S = 91 :: (clsTo S k ++ [93])) := by unfold Hid; rw [show k = 256 from by omega]; rfl
      generalize clsTo S k = L at *
      go_wp2_with fail
      go_ret
      exact ⟨ret_str (by rw [hk3.out]; apply ByteArray.ext; simp), hB⟩
end Go.Proofs.Ytbeohmcmphebhaa
