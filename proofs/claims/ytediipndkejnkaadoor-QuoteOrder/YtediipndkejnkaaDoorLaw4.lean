import Derived.Test.YtediipndkejnkaaDoorLaw3
namespace Go.Proofs.YtediipndkejnkaaDoor
open Go.RowKit Go.Lib Go.Joins
theorem itoa_len_le (a : Int) (h0 : -9223372036854775808 ≤ a) (h1 : a ≤ 9223372036854775807) : (itoa a).length ≤ 20 := by
  unfold itoa
  split
  · have := dec_len_le a.natAbs 19 (by omega) (by omega); simp; omega
  · have := dec_len_le a.toNat 19 (by omega) (by omega); omega

set_option maxHeartbeats 1000000 in
theorem order_any (a b : Int) (w : World) (ha0 : -9223372036854775808 ≤ a) (ha1 : a ≤ 9223372036854775807) (hb0 : -9223372036854775808 ≤ b) (hb1 : b ≤ 9223372036854775807) (ht : Tab w) :
    Calls Tryd.prog 4 #[.int .i64 a, .int .i64 b] w fun e w' => e = .returned (.bool true) ∧ Below w.heap.size w w' := by
  have hl1 := itoa_len_le a ha0 ha1
  go_enter Tryd.func4, Tryd.ntmps4
  go_wp2_with fail
  refine (dec_any a _ ha0 ha1 ht).mono ?_
  rintro e w1 ⟨rfl, hB1⟩
  have ht1 := ht.below hB1
  go_wp2_with fail
  refine (dec_any b _ hb0 hb1 ht1).mono ?_
  rintro e w2 ⟨rfl, hB2⟩
  have ht2 := ht1.below hB2
  have hB := hB1.trans (hB2.mono hB1.size)
  clear hB1 hB2 ht ht1
  go_wp2_with fail
  refine (undec_any ⟨(itoa a).toArray⟩ _ (by simp [maxLen, ByteArray.size]; omega)).mono ?_
  rintro e w3 ⟨rfl, rfl⟩
  have hEq : (itoa a == itoa b) = (a == b) := by
    rw [Bool.eq_iff_iff]; simp
    exact ⟨itoa_inj a b, fun h => by rw [h]⟩
  have hcase : a < 0 ∨ (0 ≤ a ∧ b < 0) ∨ (0 ≤ a ∧ 0 ≤ b ∧ (itoa b).length ≤ (itoa a).length) ∨ (0 ≤ a ∧ 0 ≤ b ∧ (itoa a).length < (itoa b).length ∧ a < b) := by
    have := itoa_len_lt a b
    omega
  have hund : (0 ≤ a ∧ a < 1000000000 ∧ undN (itoa a) = a ∧ undE (itoa a) = 0) ∨ (a < 0 ∧ undN (itoa a) = 0 ∧ undE (itoa a) = 3) ∨ (0 ≤ a ∧ 1000000000 ≤ a ∧ undN (itoa a) = 0 ∧ undE (itoa a) = 3) := by
    by_cases h1 : a < 0
    · exact .inr (.inl ⟨h1, und_out a (.inl h1)⟩)
    · by_cases h2 : a < 1000000000
      · exact .inl ⟨by omega, h2, und_in a (by omega) h2⟩
      · exact .inr (.inr ⟨by omega, by omega, und_out a (.inr (by omega))⟩)
  have h7 : itoa (-7) = [45, 55] := by
    rw [show (-7 : Int) = -((7 : Nat) : Int) from rfl, itoa_neg 7 (by omega), decDigits_one (by omega)]; rfl
  have H7 : Hid (itoa (-7) = [45, 55]) := h7
  clear h7
  generalize itoa a = A at *
  generalize itoa b = B at *
  generalize undN A = n at *
  generalize undE A = e at *
  have x1 : a < 0 → decide (a < 0) = true := by intro h; simp; omega
  have x2 : 0 ≤ a → decide (a < 0) = false := by intro h; simp; omega
  rcases hund with ⟨y1, y2, rfl, rfl⟩ | ⟨y1, rfl, rfl⟩ | ⟨y1, y2, rfl, rfl⟩
  · have z1 := x2 y1
    have z2 : decide (999999999 < n) = false := by simp; omega
    clear x1 x2
    rcases hcase with h | ⟨h1, h2⟩ | ⟨h1, h2, h3⟩ | ⟨h1, h2, h3, h4⟩
    · omega
    · have x0 : decide (b < 0) = true := by simp; omega
      go_wp2_with fail
      refine (dec_any (-7) _ (by omega) (by omega) ht2).mono ?_
      rintro e w4 ⟨rfl, hB4⟩
      rw [H7.out]
      have hB5 := hB.trans (hB4.mono hB.size)
      clear hB hB4
      go_wp2_with fail
      go_ret
      exact ⟨rfl, hB5⟩
    · have x0 : decide (b < 0) = false := by simp; omega
      have x3 : decide (B.length ≤ A.length) = true := by simp; omega
      go_wp2_with fail
      refine (dec_any (-7) _ (by omega) (by omega) ht2).mono ?_
      rintro e w4 ⟨rfl, hB4⟩
      rw [H7.out]
      have hB5 := hB.trans (hB4.mono hB.size)
      clear hB hB4
      go_wp2_with fail
      go_ret
      exact ⟨rfl, hB5⟩
    · have x0 : decide (b < 0) = false := by simp; omega
      have x3 : decide (B.length ≤ A.length) = false := by simp; omega
      have x4 : decide (n < b) = true := by simp; omega
      go_wp2_with fail
      refine (dec_any (-7) _ (by omega) (by omega) ht2).mono ?_
      rintro e w4 ⟨rfl, hB4⟩
      rw [H7.out]
      have hB5 := hB.trans (hB4.mono hB.size)
      clear hB hB4
      go_wp2_with fail
      go_ret
      exact ⟨rfl, hB5⟩
  · have z1 := x1 y1
    have z3 : decide (0 ≤ a) = false := by simp; omega
    clear x1 x2 hcase
    · skip
      go_wp2_with fail
      refine (dec_any (-7) _ (by omega) (by omega) ht2).mono ?_
      rintro e w4 ⟨rfl, hB4⟩
      rw [H7.out]
      have hB5 := hB.trans (hB4.mono hB.size)
      clear hB hB4
      go_wp2_with fail
      go_ret
      exact ⟨rfl, hB5⟩
  · have z1 := x2 y1
    have z2 : decide (999999999 < a) = true := by simp; omega
    have z3 : decide (a < 1000000000) = false := by simp; omega
    clear x1 x2
    rcases hcase with h | ⟨h1, h2⟩ | ⟨h1, h2, h3⟩ | ⟨h1, h2, h3, h4⟩
    · omega
    · have x0 : decide (b < 0) = true := by simp; omega
      go_wp2_with fail
      refine (dec_any (-7) _ (by omega) (by omega) ht2).mono ?_
      rintro e w4 ⟨rfl, hB4⟩
      rw [H7.out]
      have hB5 := hB.trans (hB4.mono hB.size)
      clear hB hB4
      go_wp2_with fail
      go_ret
      exact ⟨rfl, hB5⟩
    · have x0 : decide (b < 0) = false := by simp; omega
      have x3 : decide (B.length ≤ A.length) = true := by simp; omega
      go_wp2_with fail
      refine (dec_any (-7) _ (by omega) (by omega) ht2).mono ?_
      rintro e w4 ⟨rfl, hB4⟩
      rw [H7.out]
      have hB5 := hB.trans (hB4.mono hB.size)
      clear hB hB4
      go_wp2_with fail
      go_ret
      exact ⟨rfl, hB5⟩
    · have x0 : decide (b < 0) = false := by simp; omega
      have x3 : decide (B.length ≤ A.length) = false := by simp; omega
      have x4 : decide (a < b) = true := by simp; omega
      go_wp2_with fail
      refine (dec_any (-7) _ (by omega) (by omega) ht2).mono ?_
      rintro e w4 ⟨rfl, hB4⟩
      rw [H7.out]
      have hB5 := hB.trans (hB4.mono hB.size)
      clear hB hB4
      go_wp2_with fail
      go_ret
      exact ⟨rfl, hB5⟩
end Go.Proofs.YtediipndkejnkaaDoor
