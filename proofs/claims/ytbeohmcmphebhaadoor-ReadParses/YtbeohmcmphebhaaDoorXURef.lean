import Derived.Test.YtbeohmcmphebhaaDoorXUUnlit
import Derived.Test.YtbeohmcmphebhaaDoorXQRef
namespace Go.Proofs.YtbeohmcmphebhaaDoor
open Go.RowKit
set_option maxHeartbeats 1000000 in
set_option maxHeartbeats 1000000 in
set_option maxHeartbeats 1000000 in
theorem value_any (c : UInt8) (w : World) :
    Calls Tryd.prog 75 #[.int .u8 (c.toNat : Int)] w fun e w' => e = .returned (.int .i64 (Lib.indexByte hexs c)) ∧ Below w.heap.size w w' := by
  have hconv := conv_one c w
  go_enter Tryd.func75, Tryd.ntmps75
  go_wp2_with fail
  refine (Tryd.strings_Index_one _ c _).mono ?_
  rintro e w1 ⟨rfl, rfl⟩
  go_wp2_with fail
  go_ret
  exact ⟨rfl, (Below.refl _ _).alloc (Nat.le_refl _) _⟩
theorem one_cut (s : ByteArray) (h : 1 < s.size) : s.extract 1 2 = ⟨#[s[1]]⟩ := by
  obtain ⟨⟨l⟩⟩ := s
  match l, h with
  | [], h => simp [ByteArray.size] at h
  | [_], h => simp [ByteArray.size] at h
  | a :: b :: r, h => apply ByteArray.ext; simp; rfl
theorem hexAt_yes (s : ByteArray) (h : 4 ≤ s.size) (h1 : 0 ≤ Lib.indexByte hexs s[2]) (h2 : 0 ≤ Lib.indexByte hexs s[3]) : hexAt s.data.toList = (16 * (Lib.indexByte hexs s[2]).toNat + (Lib.indexByte hexs s[3]).toNat, 4) := by
  rw [hexAt_at s h, if_pos ⟨h1, h2⟩]
theorem hexAt_no (s : ByteArray) (h : 4 ≤ s.size) (h1 : ¬ (0 ≤ Lib.indexByte hexs s[2] ∧ 0 ≤ Lib.indexByte hexs s[3])) : hexAt s.data.toList = (0, 0) := by
  rw [hexAt_at s h, if_neg h1]
set_option maxRecDepth 20000 in
set_option maxHeartbeats 1000000 in
theorem said_any (s g : ByteArray) (w : World) (hs : s.size ≤ maxLen) (hg : ∀ c, gd g.data.toList c = true → c.toNat < 128) :
    Calls Tryd.prog 54 #[.string s, .string g] w fun e w' => e = .returned (.tuple #[.int .i64 ((signAt g.data.toList s.data.toList).1 : Int), .int .i64 ((signAt g.data.toList s.data.toList).2 : Int)]) ∧ Below w.heap.size w w' := by
  have HG : Hid (∀ c, gd g.data.toList c = true → c.toNat < 128) := hg
  clear hg
  unfold maxLen at hs
  by_cases h0 : s.size = 0
  · obtain rfl := empty_of s h0
    go_enter Tryd.func54, Tryd.ntmps54
    go_wp2_with fail
    go_ret2
    exact ⟨rfl, Below.refl _ _⟩
  · have he := nonempty s h0
    have h1 : (0 : Int) < s.size := by omega
    have h1' : 0 < s.size := by omega
    have hb0 := s[0].toNat_lt
    have e1 := signAt_at g.data.toList s h1'
    generalize signAt g.data.toList s.data.toList = R at *
    by_cases a10 : s[0].toNat = 10
    · rw [if_pos a10] at e1
      subst e1
      have hx : ((s[0].toNat : Int) == 10) = true := by simp; omega
      clear a10
      go_enter Tryd.func54, Tryd.ntmps54
      go_wp2_with fail
      go_ret2
      exact ⟨rfl, Below.refl _ _⟩
    · rw [if_neg a10] at e1
      have hx : ((s[0].toNat : Int) == 10) = false := by simp; omega
      by_cases a92 : s[0].toNat ≠ 92
      · rw [if_pos a92] at e1
        subst e1
        have hy : ((s[0].toNat : Int) == 92) = false := by simp; omega
        clear a10 a92
        go_enter Tryd.func54, Tryd.ntmps54
        go_wp2_with fail
        go_ret2
        exact ⟨rfl, Below.refl _ _⟩
      · rw [if_neg a92] at e1
        have hy : ((s[0].toNat : Int) == 92) = true := by simp; omega
        clear a10 a92
        by_cases h2 : s.size < 2
        · rw [strokeAt_short _ s h2] at e1
          subst e1
          have hz : ((s.size : Int) == 1) = true := by simp; omega
          go_enter Tryd.func54, Tryd.ntmps54
          go_wp2_with fail
          go_ret2
          exact ⟨rfl, Below.refl _ _⟩
        · rw [strokeAt_at _ s (by omega)] at e1
          have hz : ((s.size : Int) == 1) = false := by simp; omega
          have h3 : (1 : Int) < s.size := by omega
          have h3' : 1 < s.size := by omega
          have hb1 := s[1].toNat_lt
          by_cases b110 : s[1].toNat = 110
          · rw [if_pos b110] at e1
            subst e1
            have hu : ((s[1].toNat : Int) == 110) = true := by simp; omega
            clear b110
            go_enter Tryd.func54, Tryd.ntmps54
            go_wp2_with fail
            go_ret2
            exact ⟨rfl, Below.refl _ _⟩
          · rw [if_neg b110] at e1
            have hu : ((s[1].toNat : Int) == 110) = false := by simp; omega
            clear b110
            by_cases b116 : s[1].toNat = 116
            · rw [if_pos b116] at e1
              subst e1
              have hv : ((s[1].toNat : Int) == 116) = true := by simp; omega
              clear b116
              go_enter Tryd.func54, Tryd.ntmps54
              go_wp2_with fail
              go_ret2
              exact ⟨rfl, Below.refl _ _⟩
            · rw [if_neg b116] at e1
              have hv : ((s[1].toNat : Int) == 116) = false := by simp; omega
              clear b116
              by_cases b120 : s[1].toNat = 120
              · rw [if_pos b120] at e1
                have hq : ((s[1].toNat : Int) == 120) = true := by simp; omega
                clear b120
                by_cases h4 : s.size < 4
                · rw [hexAt_short s h4] at e1
                  subst e1
                  have hr : decide ((s.size : Int) < 4) = true := by simp; omega
                  go_enter Tryd.func54, Tryd.ntmps54
                  go_wp2_with fail
                  go_ret2
                  exact ⟨rfl, Below.refl _ _⟩
                · have hr : decide ((s.size : Int) < 4) = false := by simp; omega
                  have h5 : (2 : Int) < s.size := by omega
                  have h6 : (3 : Int) < s.size := by omega
                  have h5' : 2 < s.size := by omega
                  have h6' : 3 < s.size := by omega
                  have c1 : Lib.indexByte hexs s[2] < 16 := idx_lt hexs s[2]
                  have c2 : Lib.indexByte hexs s[3] < 16 := idx_lt hexs s[3]
                  have c3 := Lib.indexByte_ge hexs s[2]
                  have c4 := Lib.indexByte_ge hexs s[3]
                  by_cases hX : 0 ≤ Lib.indexByte hexs s[2]
                  · by_cases hY : 0 ≤ Lib.indexByte hexs s[3]
                    · have HE : Hid (R = _) := e1.trans (hexAt_yes s (by omega) hX hY)
                      have x1 : decide (Lib.indexByte hexs s[2] < 0) = false := by simp; omega
                      have x2 : decide (Lib.indexByte hexs s[3] < 0) = false := by simp; omega
                      clear e1
                      go_enter Tryd.func54, Tryd.ntmps54
                      go_wp2_with fail
                      refine (value_any s[2] _).mono ?_
                      rintro e w1 ⟨rfl, hB1⟩
                      go_wp2_with fail
                      refine (value_any s[3] _).mono ?_
                      rintro e w2 ⟨rfl, hB2⟩
                      have hB := b_call hB1 hB2
                      clear hB1 hB2
                      go_wp2_with fail
                      go_region_held3 (fun w' => Below w.heap.size w w') (first | exact b_call (by assumption) hb | assumption | exact Below.drew (by assumption)) ((go_at_call 75; refine (value_any _ _).mono ?_; rintro e w3 ⟨rfl, hb⟩))
                      all_goals
                        have hBe : Below w.heap.size w w3 := by assumption
                        generalize Lib.indexByte hexs s[2] = X at *
                        generalize Lib.indexByte hexs s[3] = Y at *
                        rw [wrapSmall (16 * X) (by omega) (by omega), wrapSmall (16 * X + Y) (by omega) (by omega)]
                        go_wp2_with fail
                        go_ret2
                        exact ⟨ret_two (by rw [HE.out]; show _ = ((16 * X.toNat + Y.toNat : Nat) : Int); omega) (by rw [HE.out]; rfl), hBe⟩
                    · have HE : Hid (R = (0, 0)) := e1.trans (hexAt_no s (by omega) (by omega))
                      have x1 : decide (Lib.indexByte hexs s[2] < 0) = false := by simp; omega
                      have x2 : decide (Lib.indexByte hexs s[3] < 0) = true := by simp; omega
                      clear e1
                      go_enter Tryd.func54, Tryd.ntmps54
                      go_wp2_with fail
                      refine (value_any s[2] _).mono ?_
                      rintro e w1 ⟨rfl, hB1⟩
                      go_wp2_with fail
                      refine (value_any s[3] _).mono ?_
                      rintro e w2 ⟨rfl, hB2⟩
                      have hB := b_call hB1 hB2
                      clear hB1 hB2
                      go_wp2_with fail
                      go_ret2
                      exact ⟨by rw [HE.out] <;> rfl, hB⟩
                  · have HE : Hid (R = (0, 0)) := e1.trans (hexAt_no s (by omega) (by omega))
                    have x1 : decide (Lib.indexByte hexs s[2] < 0) = true := by simp; omega
                    clear e1
                    go_enter Tryd.func54, Tryd.ntmps54
                    go_wp2_with fail
                    refine (value_any s[2] _).mono ?_
                    rintro e w1 ⟨rfl, hB1⟩
                    go_wp2_with fail
                    go_ret2
                    exact ⟨by rw [HE.out] <;> rfl, hB1⟩
              · rw [if_neg b120] at e1
                have hq : ((s[1].toNat : Int) == 120) = false := by simp; omega
                clear b120
                have HC : Hid (s.extract 1 2 = ⟨#[s[1]]⟩) := one_cut s h3'
                cases hg : gd g.data.toList s[1]
                · have hgf := gd_false hg
                  rw [hg] at e1
                  simp only [Bool.false_eq_true, if_false] at e1
                  subst e1
                  clear hg
                  go_enter Tryd.func54, Tryd.ntmps54
                  go_wp2_with fail
                  rw [HC.out]
                  refine (Tryd.strings_Contains_one g s[1] _).mono ?_
                  rintro e w1 ⟨rfl, rfl⟩
                  rw [hgf]
                  go_wp2_with fail
                  go_ret2
                  exact ⟨rfl, Below.refl _ _⟩
                · have hgf := gd_true hg
                  have h128 := HG.out _ hg
                  have hd : decide ((s[1].toNat : Int) < 128) = true := by simp; omega
                  rw [hg] at e1
                  simp only [if_true] at e1
                  subst e1
                  clear hg
                  go_enter Tryd.func54, Tryd.ntmps54
                  go_wp2_with fail
                  rw [HC.out]
                  refine (Tryd.strings_Contains_one g s[1] _).mono ?_
                  rintro e w1 ⟨rfl, rfl⟩
                  rw [hgf]
                  go_wp2_with fail
                  go_ret2
                  exact ⟨rfl, Below.refl _ _⟩
end Go.Proofs.YtbeohmcmphebhaaDoor
