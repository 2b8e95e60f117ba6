import Derived.Test.YtbeohmcmphebhaaDoorProg
import Derived.Test.YtbeohmcmphebhaaDoorXQUpto
import Derived.Test.YtbeohmcmphebhaaDoorXName
import Derived.WalkKit
import Derived.WalkSpells
import Derived.WalkLawsBesides
import Derived.Deep.RegionWith
import Derived.BigRegion
namespace Go.Proofs.YtbeohmcmphebhaaDoor
open Go.RowKit
/-- Byte k is in S. -/
def inS (S : BitVec 256) (k : Nat) : Bool := S.getLsbD k
theorem wd_div (S : BitVec 256) (k r : Nat) : wd S k / 2 ^ r = (((S.extractLsb' (64 * k) 64).toNat / 2 ^ r : Nat) : Int) := by
  unfold wd
  have : ((2 : Int) ^ r) = (((2 : Nat) ^ r : Nat) : Int) := by simp
  rw [this]
  simp
theorem bit_div (S : BitVec 256) (k : Nat) : decide ((S.extractLsb' (64 * (k / 64)) 64).toNat / 2 ^ (k % 64) % 2 = 1) = S.getLsbD k := by
  have h : (S.extractLsb' (64 * (k / 64)) 64).getLsbD (k % 64) = S.getLsbD k := by
    rw [BitVec.getLsbD_extractLsb', show 64 * (k / 64) + k % 64 = k from by omega]
    simp [show k % 64 < 64 from by omega]
  rw [← h, BitVec.getLsbD, Nat.testBit_eq_decide_div_mod_eq]
theorem rhas_bit (S : BitVec 256) (k : Nat) : ((wd S (k / 64) / 2 ^ (k % 64)).tmod 2 == 1) = S.getLsbD k := by
  rw [← bit_div, wd_div]
  generalize (BitVec.extractLsb' (64 * (k / 64)) 64 S).toNat / 2 ^ (k % 64) = n
  rw [Bool.eq_iff_iff, beq_iff_eq, decide_eq_true_iff, Int.tmod_eq_emod_of_nonneg (by omega)]
  omega
theorem bits_and_one (n : Nat) (h : n < 2 ^ 64) : bits .and .u64 (n : Int) 1 = ((n % 2 : Nat) : Int) := by
  have e := bits_and_bv (BitVec.ofNat 64 n) 1#64
  have e1 : (BitVec.ofNat 64 n).toNat = n := by rw [BitVec.toNat_ofNat]; exact Nat.mod_eq_of_lt h
  rw [e1] at e
  have e2 : ((1#64).toNat : Int) = 1 := by decide
  rw [e2] at e
  rw [e, BitVec.toNat_and, e1]
  have e3 : (1#64).toNat = 1 := by decide
  rw [e3, Nat.and_one_is_mod]
theorem has_bit (S : BitVec 256) (k : Nat) : (bits .and .u64 (wd S (k / 64) / 2 ^ (k % 64)) 1 == 1) = S.getLsbD k := by
  rw [← bit_div, wd_div]
  have hl : (S.extractLsb' (64 * (k / 64)) 64).toNat / 2 ^ (k % 64) < 2 ^ 64 := Nat.lt_of_le_of_lt (Nat.div_le_self _ _) (S.extractLsb' (64 * (k / 64)) 64).isLt
  rw [bits_and_one _ hl]
  generalize (BitVec.extractLsb' (64 * (k / 64)) 64 S).toNat / 2 ^ (k % 64) = n
  rw [Bool.eq_iff_iff, beq_iff_eq, decide_eq_true_iff]
  omega
set_option maxHeartbeats 400000 in
set_option maxHeartbeats 400000 in
theorem has_any (S : BitVec 256) (k : Nat) (w : World) (hk : k < 256) :
    Calls Tryd.prog 94 #[.agg #[.int .u64 (wd S 0), .int .u64 (wd S 1), .int .u64 (wd S 2), .int .u64 (wd S 3)], .int .u8 k] w fun e w' => e = .returned (.bool (inS S k)) ∧ Below w.heap.size w w' := by
  have hq := at_word S k hk
  have h0 : (0 : Int) ≤ (k : Int) := by omega
  have h1 : (k : Int) ≤ 255 := by omega
  go_enter Tryd.func94, Tryd.ntmps94
  go_wp2_with fail
  go_ret
  exact ⟨ret_bool (has_bit S k), (Below.refl _ _).alloc (Nat.le_refl _) _⟩
end Go.Proofs.YtbeohmcmphebhaaDoor
namespace Go.Proofs.YtbeohmcmphebhaaDoor
open Go.RowKit

theorem setCell_drewN (w : World) (n : Nat) (a : Addr) (v : Value) : (w.drewN n).setCell a v = (w.setCell a v).drewN n := rfl
theorem alloc_drewN (w : World) (n : Nat) (o : Obj) : (w.drewN n).alloc o = (w.alloc o).drewN n := rfl
theorem drewN_drewN (w : World) (n m : Nat) : (w.drewN n).drewN m = w.drewN (n + m) := by simp [World.drewN, Nat.add_assoc]
theorem drewN_drew (w : World) (n : Nat) : (w.drewN n).drew = w.drewN (n + 1) := rfl
theorem below4 (w : World) (a b c d : Obj) (n : Nat) : Below w.heap.size w (((((w.alloc a).alloc b).alloc c).alloc d).drewN n) :=
  below_drewN (((((Below.refl _ _).alloc (Nat.le_refl _) _).alloc (by simp) _).alloc (by simp; omega) _).alloc (by simp; omega) _) _
attribute [local go_sem] setCell_drewN alloc_drewN

set_option maxHeartbeats 400000 in
set_option maxHeartbeats 400000 in
theorem andNot_any (a b : Int) (w : World) :
    Calls Tryd.prog 82 #[.int .u64 a, .int .u64 b] w fun e w' => e = .returned (.int .u64 (bits .andNot .u64 a b)) ∧ w' = w := by
  go_enter Tryd.func82, Tryd.ntmps82
  go_wp2
  go_ret
  exact ⟨rfl, rfl⟩

set_option maxHeartbeats 4000000 in
set_option maxHeartbeats 4000000 in
theorem wbw_andNot (s0 s1 s2 s3 t0 t1 t2 t3 : Int) (w : World) :
    Calls Tryd.prog 80 #[.agg #[.int .u64 s0, .int .u64 s1, .int .u64 s2, .int .u64 s3], .agg #[.int .u64 t0, .int .u64 t1, .int .u64 t2, .int .u64 t3], .func (.func 82) #[] #[]] w fun e w' => e = .returned (.agg #[.int .u64 (bits .andNot .u64 s0 t0), .int .u64 (bits .andNot .u64 s1 t1), .int .u64 (bits .andNot .u64 s2 t2), .int .u64 (bits .andNot .u64 s3 t3)]) ∧ Below w.heap.size w w' := by
  go_enter Tryd.func80, Tryd.ntmps80
  go_wp2_with fail
  go_loopw [8, 9] (fun _ i wx => ∃ (n : Nat) (x0 x1 x2 x3 : Int), wx = ((((w.alloc (.cells #[.int .u64 s0, .int .u64 s1, .int .u64 s2, .int .u64 s3] 24)).alloc (.cells #[.int .u64 t0, .int .u64 t1, .int .u64 t2, .int .u64 t3] 24)).alloc (.cells #[.int .u64 0, .int .u64 0, .int .u64 0, .int .u64 0] 24)).alloc (.cells #[.int .u64 x0, .int .u64 x1, .int .u64 x2, .int .u64 x3] 24)).drewN n ∧ ((i = .int .i64 0 ∧ x0 = 0 ∧ x1 = 0 ∧ x2 = 0 ∧ x3 = 0) ∨ (i = .int .i64 1 ∧ x0 = (bits .andNot .u64 s0 t0) ∧ x1 = 0 ∧ x2 = 0 ∧ x3 = 0) ∨ (i = .int .i64 2 ∧ x0 = (bits .andNot .u64 s0 t0) ∧ x1 = (bits .andNot .u64 s1 t1) ∧ x2 = 0 ∧ x3 = 0) ∨ (i = .int .i64 3 ∧ x0 = (bits .andNot .u64 s0 t0) ∧ x1 = (bits .andNot .u64 s1 t1) ∧ x2 = (bits .andNot .u64 s2 t2) ∧ x3 = 0) ∨ (i = .int .i64 4 ∧ x0 = (bits .andNot .u64 s0 t0) ∧ x1 = (bits .andNot .u64 s1 t1) ∧ x2 = (bits .andNot .u64 s2 t2) ∧ x3 = (bits .andNot .u64 s3 t3)))) (fun _ i _ => 4 - (intOf i).toNat)
  case atStart => exact ⟨0, 0, 0, 0, 0, rfl, .inl ⟨rfl, rfl, rfl, rfl, rfl⟩⟩
  case round =>
    obtain ⟨n, x0, x1, x2, x3, rfl, ⟨rfl, rfl, rfl, rfl, rfl⟩ | ⟨rfl, rfl, rfl, rfl, rfl⟩ | ⟨rfl, rfl, rfl, rfl, rfl⟩ | ⟨rfl, rfl, rfl, rfl, rfl⟩ | ⟨rfl, rfl, rfl, rfl, rfl⟩⟩ := hrel
    · go_wp2_with fail
      go_region_with (go_at_call 82; refine (andNot_any _ _ _).mono ?_; rintro e w' ⟨rfl, rfl⟩)
      all_goals (go_wp2_with fail)
      all_goals (go_roundw)
      all_goals first | exact ⟨n + 1, _, _, _, _, rfl, .inr (.inl ⟨rfl, rfl, rfl, rfl, rfl⟩)⟩ | (simp [intOf])
    · go_wp2_with fail
      go_region_with (go_at_call 82; refine (andNot_any _ _ _).mono ?_; rintro e w' ⟨rfl, rfl⟩)
      all_goals (go_wp2_with fail)
      all_goals (go_roundw)
      all_goals first | exact ⟨n + 1, _, _, _, _, rfl, .inr (.inr (.inl ⟨rfl, rfl, rfl, rfl, rfl⟩))⟩ | (simp [intOf])
    · go_wp2_with fail
      go_region_with (go_at_call 82; refine (andNot_any _ _ _).mono ?_; rintro e w' ⟨rfl, rfl⟩)
      all_goals (go_wp2_with fail)
      all_goals (go_roundw)
      all_goals first | exact ⟨n + 1, _, _, _, _, rfl, .inr (.inr (.inr (.inl ⟨rfl, rfl, rfl, rfl, rfl⟩)))⟩ | (simp [intOf])
    · go_wp2_with fail
      go_region_with (go_at_call 82; refine (andNot_any _ _ _).mono ?_; rintro e w' ⟨rfl, rfl⟩)
      all_goals (go_wp2_with fail)
      all_goals (go_roundw)
      all_goals first | exact ⟨n + 1, _, _, _, _, rfl, .inr (.inr (.inr (.inr (⟨rfl, rfl, rfl, rfl, rfl⟩))))⟩ | (simp [intOf])
    · go_wp2_with fail
      exact bodyPost_ret (v := .agg #[.int .u64 (bits .andNot .u64 s0 t0), .int .u64 (bits .andNot .u64 s1 t1), .int .u64 (bits .andNot .u64 s2 t2), .int .u64 (bits .andNot .u64 s3 t3)]) (by simp [results, Tryd.results80, go_sem]) rfl ⟨rfl, below4 _ _ _ _ _ _⟩

theorem wbwS_andNot (S T : BitVec 256) (w : World) :
    Calls Tryd.prog 80 #[.agg #[.int .u64 (wd S 0), .int .u64 (wd S 1), .int .u64 (wd S 2), .int .u64 (wd S 3)], .agg #[.int .u64 (wd T 0), .int .u64 (wd T 1), .int .u64 (wd T 2), .int .u64 (wd T 3)], .func (.func 82) #[] #[]] w fun e w' => e = .returned (.agg #[.int .u64 (wd (S &&& ~~~T) 0), .int .u64 (wd (S &&& ~~~T) 1), .int .u64 (wd (S &&& ~~~T) 2), .int .u64 (wd (S &&& ~~~T) 3)]) ∧ Below w.heap.size w w' := by
  have h := wbw_andNot (wd S 0) (wd S 1) (wd S 2) (wd S 3) (wd T 0) (wd T 1) (wd T 2) (wd T 3) w
  rw [bits_andNot_wd S T 0 (by omega), bits_andNot_wd S T 1 (by omega), bits_andNot_wd S T 2 (by omega), bits_andNot_wd S T 3 (by omega)] at h
  exact h
end Go.Proofs.YtbeohmcmphebhaaDoor
namespace Go.Proofs.YtbeohmcmphebhaaDoor
open Go.RowKit
set_option maxHeartbeats 1000000 in
theorem range_any (lo hi : Int) (w : World) :
    Calls Tryd.prog 81 #[.int .i64 lo, .int .i64 hi] w fun e w' => e = .returned (.agg #[.int .u64 (wd (rng lo hi) 0), .int .u64 (wd (rng lo hi) 1), .int .u64 (wd (rng lo hi) 2), .int .u64 (wd (rng lo hi) 3)]) ∧ Below w.heap.size w w' := by
  by_cases h0 : lo < 0
  all_goals go_enter Tryd.func81, Tryd.ntmps81
  all_goals go_wp2_with fail
  all_goals (
    go_loopw [6] (fun b wx => ∃ (k : Nat) (S : BitVec 256), b = .int .i64 k ∧ lo ≤ k ∧ (((k : Int) ≤ hi + 1 ∧ k ≤ 256) ∨ (k : Int) = lo ∨ k = 0) ∧ Hid (S = upto (fun i => decide (lo ≤ (i : Int))) k) ∧ wx = ((w.alloc (.cells #[.int .u64 0, .int .u64 0, .int .u64 0, .int .u64 0] 24)).alloc (.cells #[.int .u64 (wd S 0), .int .u64 (wd S 1), .int .u64 (wd S 2), .int .u64 (wd S 3)] 24))) (fun i _ => 256 - (intOf i).toNat)
    case atStart =>
      first
      | exact ⟨0, 0#256, rfl, by omega, .inr (.inr rfl), (rng_start lo 0 (.inr rfl)).symm, by simp only [wd_zeroU]⟩
      | exact ⟨lo.toNat, 0#256, by rw [Int.toNat_of_nonneg (by omega)], by omega, .inr (.inl (by omega)), (rng_start lo lo.toNat (.inl (by omega))).symm, by simp only [wd_zeroU]⟩
    case round =>
      obtain ⟨k, S, rfl, hlo, hk, HS, rfl⟩ := hrel
      by_cases hl : 255 < hi
      all_goals by_cases hh : (k : Int) ≤ 255 ∧ (k : Int) ≤ hi
      · obtain ⟨hh, h9⟩ := hh
        have hq := at_word S k (by omega)
        go_wp2_with fail
        refine ⟨⟨k + 1, S ||| BitVec.twoPow 256 k, by go_num, by omega, .inl (by omega), ?_, ?_⟩, by simp [intOf]; omega⟩
        · show _ = _
          rw [HS.out]; exact rng_step lo k hlo
        · rw [set_word S k (by omega) _ (wd_or_two_same S k (by omega))]
      · have h8 : ¬ (k : Int) ≤ 255 := by omega
        go_wp2_with fail
        rw [rng_end lo hi k hlo hk (by omega)] at HS
        exact bodyPost_ret (v := .agg #[.int .u64 (wd S 0), .int .u64 (wd S 1), .int .u64 (wd S 2), .int .u64 (wd S 3)]) (by simp [results, Tryd.results81, go_sem]) rfl ⟨by rw [HS.out], ((Below.refl _ _).alloc (Nat.le_refl _) _).alloc (by simp) _⟩
      · obtain ⟨h9, hh⟩ := hh
        have hq := at_word S k (by omega)
        go_wp2_with fail
        refine ⟨⟨k + 1, S ||| BitVec.twoPow 256 k, by go_num, by omega, .inl (by omega), ?_, ?_⟩, by simp [intOf]; omega⟩
        · show _ = _
          rw [HS.out]; exact rng_step lo k hlo
        · rw [set_word S k (by omega) _ (wd_or_two_same S k (by omega))]
      · have h8 : ¬ (k : Int) ≤ hi := by omega
        go_wp2_with fail
        rw [rng_end lo hi k hlo hk (by omega)] at HS
        exact bodyPost_ret (v := .agg #[.int .u64 (wd S 0), .int .u64 (wd S 1), .int .u64 (wd S 2), .int .u64 (wd S 3)]) (by simp [results, Tryd.results81, go_sem]) rfl ⟨by rw [HS.out], ((Below.refl _ _).alloc (Nat.le_refl _) _).alloc (by simp) _⟩)
end Go.Proofs.YtbeohmcmphebhaaDoor
