import Derived.Test.YtediipndkejnkaaDoorUndec
namespace Go.Proofs.YtediipndkejnkaaDoor
open Go.RowKit Go.Lib

theorem digit_ten (d : Nat) (h : d < 10) : (⟨#[48, 49, 50, 51, 52, 53, 54, 55, 56, 57, 97, 98, 99, 100, 101, 102]⟩ : ByteArray).extract d (d + 1) = ⟨#[UInt8.ofNat (48 + d)]⟩ := by
  match d, h with
  | 0, _ => decide +kernel
  | 1, _ => decide +kernel
  | 2, _ => decide +kernel
  | 3, _ => decide +kernel
  | 4, _ => decide +kernel
  | 5, _ => decide +kernel
  | 6, _ => decide +kernel
  | 7, _ => decide +kernel
  | 8, _ => decide +kernel
  | 9, _ => decide +kernel
set_option maxHeartbeats 1000000 in
theorem digit_any (d : Nat) (w : World) (h : d < 10) :
    Calls Tryd.prog 10 #[.int .i64 d] w fun e w' => e = .returned (.string ⟨[UInt8.ofNat (48 + d)].toArray⟩) ∧ w' = w := by
  have HD : Hid ((⟨#[48, 49, 50, 51, 52, 53, 54, 55, 56, 57, 97, 98, 99, 100, 101, 102]⟩ : ByteArray).extract d (d + 1) = ⟨#[UInt8.ofNat (48 + d)]⟩) := digit_ten d h
  go_enter Tryd.func10, Tryd.ntmps10
  go_wp2_with fail
  rw [HD.out]
  go_ret
  exact ⟨rfl, rfl⟩
/-- The byte of a decimal digit. -/
def dch (d : Nat) : UInt8 := UInt8.ofNat (48 + d)
theorem digit_eq (d : Int) (k : Nat) (hd : d = k) (w : World) (h : k < 10) :
    Calls Tryd.prog 10 #[.int .i64 d] w fun e w' => e = .returned (.string ⟨[dch k].toArray⟩) ∧ w' = w := by
  subst hd; exact digit_any k w h
theorem vint {a b : Int} (h : a = b) : Value.int .i64 a = Value.int .i64 b := by rw [h]
/-- What is still to be written ahead of l. -/
def ahead (m : Nat) (l : List UInt8) : List UInt8 := if m = 0 then l else decDigits m ++ l
theorem ahead_step (m : Nat) (l : List UInt8) (h : m ≠ 0) : ahead (m / 10) (dch (m % 10) :: l) = ahead m l := by
  unfold ahead dch
  rw [if_neg h]
  by_cases h10 : m < 10
  · rw [if_pos (by omega), decDigits, dif_pos h10, Nat.mod_eq_of_lt h10]; rfl
  · rw [if_neg (by omega)]
    conv => rhs; rw [decDigits, dif_neg h10]
    simp
theorem ahead_zero (m : Nat) (l : List UInt8) (h : m = 0) : ahead m l = l := if_pos h
theorem ahead_len (m : Nat) (l : List UInt8) : l.length ≤ (ahead m l).length := by
  unfold ahead; split
  · omega
  · simp
theorem cat_one (a : UInt8) (l : List UInt8) : (⟨[a].toArray⟩ : ByteArray) ++ ⟨l.toArray⟩ = ⟨(a :: l).toArray⟩ := by
  apply ByteArray.ext; simp
set_option maxHeartbeats 1000000 in
theorem rdec_pos (N : Nat) (w : World) (h0 : N ≠ 0) (h1 : N ≤ 9223372036854775807) :
    Calls Tryd.prog 8 #[.int .i64 N] w fun e w' => e = .returned (.string ⟨(decDigits N).toArray⟩) ∧ w' = w := by
  have hlen := dec_len_le N 19 (by omega) (by omega)
  have hx : ((N : Int) == 0) = false := by simp; omega
  have hx0 : decide ((N : Int) < 0) = false := by simp
  go_enter Tryd.func8, Tryd.ntmps8
  go_wp2_with fail
  go_loop [0, 3, 5] (fun n out _ => ∃ (m : Nat) (l : List UInt8), m ≤ N ∧ n = .int .i64 m ∧ out = .string ⟨l.toArray⟩ ∧ ahead m l = decDigits N) (fun n _ _ => (intOf n).toNat)
  case atStart => exact ⟨N, [], by omega, rfl, rfl, by unfold ahead; rw [if_neg h0]; simp⟩
  case round =>
    obtain ⟨m, l, hm, rfl, rfl, ha⟩ := hrel
    have hl := ahead_len m l
    rw [ha] at hl
    by_cases hz : m = 0
    · have HA : Hid (l = decDigits N) := (ahead_zero m l hz).symm.trans ha
      clear ha
      subst hz
      go_wp2_with fail
      go_ret
      exact ⟨by rw [HA.out] <;> rfl, rfl⟩
    · have HA : Hid (ahead (m / 10) (dch (m % 10) :: l) = decDigits N) := (ahead_step m l hz).trans ha
      clear ha
      have hz1 : ((m : Int) == 0) = false := by simp; omega
      go_wp2_with fail
      refine (digit_eq _ (m % 10) (by omega) _ (by omega)).mono ?_
      rintro e w' ⟨rfl, rfl⟩
      generalize dch (m % 10) = c at *
      go_wp2_with fail
      rw [cat_one]
      go_round
      case rel => exact ⟨m / 10, c :: l, by omega, by go_num, rfl, HA.out⟩
      case measure => simp [intOf]; omega
set_option maxHeartbeats 1000000 in
theorem rdec_neg (N : Nat) (w : World) (h0 : N ≠ 0) (h1 : N ≤ 9223372036854775808) :
    Calls Tryd.prog 8 #[.int .i64 (-(N : Int))] w fun e w' => e = .returned (.string ⟨(45 :: decDigits N).toArray⟩) ∧ w' = w := by
  have hlen := dec_len_le N 19 (by omega) (by omega)
  have hx : ((-(N : Int)) == 0) = false := by simp; omega
  have hx0 : decide (0 < N) = true := by simp; omega
  go_enter Tryd.func8, Tryd.ntmps8
  go_wp2_with fail
  go_loop [0, 3, 5] (fun n out _ => ∃ (m : Nat) (l : List UInt8), m ≤ N ∧ n = .int .i64 (-(m : Int)) ∧ out = .string ⟨l.toArray⟩ ∧ ahead m l = decDigits N) (fun n _ _ => (intOf n).natAbs)
  case atStart => exact ⟨N, [], by omega, rfl, rfl, by unfold ahead; rw [if_neg h0]; simp⟩
  case round =>
    obtain ⟨m, l, hm, rfl, rfl, ha⟩ := hrel
    have hl := ahead_len m l
    rw [ha] at hl
    by_cases hz : m = 0
    · have HA : Hid (l = decDigits N) := (ahead_zero m l hz).symm.trans ha
      clear ha
      subst hz
      go_wp2_with fail
      rw [show (⟨#[45]⟩ : ByteArray) = ⟨[45].toArray⟩ from rfl, cat_one]
      go_ret
      exact ⟨by rw [← HA.out] <;> rfl, rfl⟩
    · have HA : Hid (ahead (m / 10) (dch (m % 10) :: l) = decDigits N) := (ahead_step m l hz).trans ha
      clear ha
      have hz1 : ((-(m : Int)) == 0) = false := by simp; omega
      go_wp2_with fail
      all_goals
        refine (digit_eq _ (m % 10) (by omega) _ (by omega)).mono ?_
        rintro e w' ⟨rfl, rfl⟩
        generalize dch (m % 10) = c at *
        go_wp2_with fail
        rw [cat_one]
        go_round
        case rel => exact ⟨m / 10, c :: l, by omega, vint (by omega), rfl, HA.out⟩
        case measure => simp [intOf]; omega
theorem itoa_zero : itoa 0 = [48] := (itoa_nonneg 0).trans (decDigits_one (by omega))
theorem rdec_any (n : Int) (w : World) (h0 : -9223372036854775808 ≤ n) (h1 : n ≤ 9223372036854775807) :
    Calls Tryd.prog 8 #[.int .i64 n] w fun e w' => e = .returned (.string ⟨(itoa n).toArray⟩) ∧ w' = w := by
  by_cases hz : n = 0
  · subst hz
    go_enter Tryd.func8, Tryd.ntmps8
    go_wp2_with fail
    go_ret
    exact ⟨by rw [itoa_zero] <;> rfl, rfl⟩
  · by_cases hn : n < 0
    · obtain ⟨N, rfl⟩ : ∃ N : Nat, n = -(N : Int) := ⟨n.natAbs, by omega⟩
      rw [itoa_neg N (by omega)]
      exact rdec_neg N w (by omega) (by omega)
    · obtain ⟨N, rfl⟩ : ∃ N : Nat, n = (N : Int) := ⟨n.toNat, by omega⟩
      rw [itoa_nonneg N]
      exact rdec_pos N w (by omega) (by omega)
end Go.Proofs.YtediipndkejnkaaDoor
