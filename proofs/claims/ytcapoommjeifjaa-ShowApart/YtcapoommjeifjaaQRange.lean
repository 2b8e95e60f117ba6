import Derived.Test.YtcapoommjeifjaaProg
import Derived.Test.YtcapoommjeifjaaQUpto
import Derived.WalkKit
import Derived.WalkSpells
import Derived.WalkLawsBesides
import Derived.Deep.RegionWith
import Derived.BigRegion
namespace Go.Proofs.Ytcapoommjeifjaa
open Go.RowKit
set_option maxHeartbeats 1000000 in
theorem range_any (lo hi : Int) (w : World) :
    Calls Try.prog 64 #[.int .i64 lo, .int .i64 hi] w fun e w' => e = .returned (.agg #[.int .u64 (wd (rng lo hi) 0), .int .u64 (wd (rng lo hi) 1), .int .u64 (wd (rng lo hi) 2), .int .u64 (wd (rng lo hi) 3)]) ∧ Below w.heap.size w w' := by
  by_cases h0 : lo < 0
  all_goals go_enter Try.func64, Try.ntmps64
  all_goals go_wp2_with fail
  all_goals (
    go_loopw [6] (fun b wx => ∃ (k : Nat) (S : BitVec 256), b = .int .i64 k ∧ lo ≤ k ∧ (((k : Int) ≤ hi + 1 ∧ k ≤ 256) ∨ (k : Int) = lo ∨ k = 0) ∧ Hid (S = upto (fun i => decide (lo ≤ (i : Int))) k) ∧ wx = ((w.alloc (.cells #[.int .u64 0, .int .u64 0, .int .u64 0, .int .u64 0] 24)).alloc (.cells #[.int .u64 (wd S 0), .int .u64 (wd S 1), .int .u64 (wd S 2), .int .u64 (wd S 3)] 24))) (fun i _ => 256 - (intOf i).toNat)
    case atStart =>
      first
      | exact ⟨0, 0#256, rfl, by omega, .inr (.inr rfl), (rng_start lo 0 (.inr rfl)).symm, by simp only [wd_zeroU]⟩
      | exact ⟨lo.toNat, 0#256, by rw [Int.toNat_of_nonneg (by omega)], by omega, .inr (.inl (by omega)), (rng_start lo lo.toNat (.inl (by omega))).symm, by simp only [wd_zeroU]⟩
    case round =>
      obtain ⟨k, S, rfl, hlo, hk, HS, rfl⟩ := hrel
      by_cases hl : 255 < hi
      all_goals by_cases hh : (k : Int) ≤ 255 ∧ (k : Int) ≤ hi
      · obtain ⟨hh, h9⟩ := hh
        have hq := at_word S k (by omega)
        go_wp2_with fail
        refine ⟨⟨k + 1, S ||| BitVec.twoPow 256 k, by go_num, by omega, .inl (by omega), ?_, ?_⟩, by simp [intOf]; omega⟩
        · show _ = _
          rw [HS.out]; exact rng_step lo k hlo
        · rw [set_word S k (by omega) _ (wd_or_two_same S k (by omega))]
      · have h8 : ¬ (k : Int) ≤ 255 := by omega
        go_wp2_with fail
        rw [rng_end lo hi k hlo hk (by omega)] at HS
        exact bodyPost_ret (v := .agg #[.int .u64 (wd S 0), .int .u64 (wd S 1), .int .u64 (wd S 2), .int .u64 (wd S 3)]) (by simp [results, Try.results64, go_sem]) rfl ⟨by rw [HS.out], ((Below.refl _ _).alloc (Nat.le_refl _) _).alloc (by simp) _⟩
      · obtain ⟨h9, hh⟩ := hh
        have hq := at_word S k (by omega)
        go_wp2_with fail
        refine ⟨⟨k + 1, S ||| BitVec.twoPow 256 k, by go_num, by omega, .inl (by omega), ?_, ?_⟩, by simp [intOf]; omega⟩
        · show _ = _
          rw [HS.out]; exact rng_step lo k hlo
        · rw [set_word S k (by omega) _ (wd_or_two_same S k (by omega))]
      · have h8 : ¬ (k : Int) ≤ hi := by omega
        go_wp2_with fail
        rw [rng_end lo hi k hlo hk (by omega)] at HS
        exact bodyPost_ret (v := .agg #[.int .u64 (wd S 0), .int .u64 (wd S 1), .int .u64 (wd S 2), .int .u64 (wd S 3)]) (by simp [results, Try.results64, go_sem]) rfl ⟨by rw [HS.out], ((Below.refl _ _).alloc (Nat.le_refl _) _).alloc (by simp) _⟩)
end Go.Proofs.Ytcapoommjeifjaa
