import Derived.Test.YtcapoommjeifjaaQOps
import Derived.Test.YtcapoommjeifjaaQLies
import Derived.Test.YtcapoommjeifjaaPr
namespace Go.Proofs.Ytcapoommjeifjaa
open Go.RowKit
set_option linter.unusedVariables false
def yes (_ : Nat) : Bool := true
theorem clo48 (k : Nat) (w : World) : Calls Try.prog 48 #[.int .i64 k] w fun e w' => e = .returned (.bool (yes k)) ∧ Below w.heap.size w w' := by
  go_enter Try.func48, Try.ntmps48
  go_wp2_with fail
  go_ret
  exact ⟨rfl, Below.refl _ _⟩
set_option maxHeartbeats 1000000 in
theorem where_48 (w : World) :
    Calls Try.prog 47 #[(.func (.func 48) #[] #[])] w fun e w' => e = .returned (.agg #[.int .u64 (wd (upto yes 256) 0), .int .u64 (wd (upto yes 256) 1), .int .u64 (wd (upto yes 256) 2), .int .u64 (wd (upto yes 256) 3)]) ∧ Below w.heap.size w w' := by
  go_enter Try.func47, Try.ntmps47
  go_wp2_with fail
  go_loopw [3, 4] (fun _ i wx => ∃ (k : Nat) (S : BitVec 256), i = .int .i64 k ∧ k ≤ 256 ∧ Hid (S = upto yes k) ∧ Below w.heap.size w wx ∧ Lies wx w.heap.size #[.int .u64 (wd S 0), .int .u64 (wd S 1), .int .u64 (wd S 2), .int .u64 (wd S 3)]) (fun _ i _ => 256 - (intOf i).toNat)
  case atStart => exact ⟨0, 0#256, rfl, by omega, rfl, (Below.refl _ _).alloc (Nat.le_refl _) _, by simp only [wd_zero]; exact Lies.new _ _⟩
  case round =>
    obtain ⟨k, S, rfl, hk, HS, hB, hL⟩ := hrel
    by_cases hh : (k : Int) < 256
    · go_wp2_with fail
      refine (clo48 k _).mono ?_
      rintro e w1 ⟨rfl, hb1⟩
      have hB1 := hB.trans (hb1.mono (by have := hL.lt; omega))
      have hL1 := hL.below hb1 hL.lt
      have hlt := hL1.lt
      clear hb1 hL hB
      have hq := at_word S k (by omega)
      have hc := hL1.cell (k / 64)
      have hf := hL1.frozen (k / 64)
      have hpk : yes k = true := rfl
      go_wp2_with fail
      go_region
      go_wp2_with fail
      refine ⟨⟨k + 1, S ||| BitVec.twoPow 256 k, by go_num, by omega, by rw [HS.out]; exact upto_step_yes yes k rfl, (hB1.setCell (by simp) _).drew, ?_⟩, by simp [intOf]; omega⟩
      have hs := (hL1.set (k / 64) (.int .u64 (IntKind.u64.wrap (wd S (k / 64) + IntKind.u64.wrap (2 ^ (k % 64)))))).drew
      rw [List.setIfInBounds_toArray, set_word S k (by omega) _ (wd_add_two S k (by omega) (by rw [HS.out, getLsbD_upto _ _ _ (by omega)]; simp))] at hs
      exact hs
    · have hc := hL.cell
      have hf := hL.frozen
      have hlt := hL.lt
      have hk2 : k = 256 := by omega
      go_wp2_with fail
      exact bodyPost_ret (v := .agg #[.int .u64 (wd S 0), .int .u64 (wd S 1), .int .u64 (wd S 2), .int .u64 (wd S 3)]) (by simp [results, Try.results47, go_sem, hc]) rfl ⟨by rw [HS.out, hk2], (((hB.setCell (by simp) _).setCell (by simp) _).setCell (by simp) _).setCell (by simp) _⟩
theorem upto_full : upto yes 256 = BitVec.allOnes 256 := by
  apply BitVec.eq_of_getLsbD_eq
  intro i hi
  rw [getLsbD_upto _ _ _ (by omega), BitVec.getLsbD_allOnes]
  simp [yes]
set_option maxHeartbeats 1000000 in
theorem full_any (w : World) :
    Calls Try.prog 30 #[] w fun e w' => e = .returned (.agg #[.int .u64 (wd (BitVec.allOnes 256) 0), .int .u64 (wd (BitVec.allOnes 256) 1), .int .u64 (wd (BitVec.allOnes 256) 2), .int .u64 (wd (BitVec.allOnes 256) 3)]) ∧ Below w.heap.size w w' := by
  have hw := where_48 (w.alloc (.cells #[.int .u64 0, .int .u64 0, .int .u64 0, .int .u64 0] 24))
  rw [upto_full] at hw
  generalize BitVec.allOnes 256 = F at *
  go_enter Try.func30, Try.ntmps30
  go_wp2_with (go_at_call 47; refine hw.mono ?_; rintro r w1 ⟨rfl, hb1⟩; have hL := (Lies.new w #[.int .u64 0, .int .u64 0, .int .u64 0, .int .u64 0]).below hb1 (by simp); have hB : Below w.heap.size w w1 := ((Below.refl w.heap.size w).alloc (Nat.le_refl _) _).trans (hb1.mono (by simp)); have hc := hL.cell; have hf := hL.frozen; have hlt := hL.lt; clear hb1)
  exact bodyPost_ret (v := .agg #[.int .u64 (wd F 0), .int .u64 (wd F 1), .int .u64 (wd F 2), .int .u64 (wd F 3)]) (by simp [results, Try.results30, go_sem, hc]) rfl ⟨rfl, (((hB.setCell (by simp) _).setCell (by simp) _).setCell (by simp) _).setCell (by simp) _⟩
theorem isFull_iff (S : BitVec 256) : isFull S = true ↔ S = BitVec.allOnes 256 := by
  unfold isFull noS
  simp only [Bool.and_eq_true, beq_iff_eq]
  constructor
  · rintro ⟨h0, h1, h2, h3⟩
    have : ~~~S = 0#256 := wd_inj _ _ fun k hk => by
      rw [wd_zero]
      match k, hk with
      | 0, _ => exact h0
      | 1, _ => exact h1
      | 2, _ => exact h2
      | 3, _ => exact h3
    rw [← BitVec.not_not (b := S), this]
    simp
  · rintro rfl
    rw [show ~~~(BitVec.allOnes 256) = 0#256 from by simp]
    exact ⟨wd_zero 0, wd_zero 1, wd_zero 2, wd_zero 3⟩
/-- The reference asks whether a set is all there is. -/
theorem full_test (S : BitVec 256) : ((wd S 0 == wd (BitVec.allOnes 256) 0) && ((wd S 1 == wd (BitVec.allOnes 256) 1) && ((wd S 2 == wd (BitVec.allOnes 256) 2) && (wd S 3 == wd (BitVec.allOnes 256) 3)))) = isFull S := by
  rw [Bool.eq_iff_iff, isFull_iff]
  simp only [Bool.and_eq_true, beq_iff_eq]
  constructor
  · rintro ⟨h0, h1, h2, h3⟩
    exact wd_inj _ _ fun k hk => by
      match k, hk with
      | 0, _ => exact h0
      | 1, _ => exact h1
      | 2, _ => exact h2
      | 3, _ => exact h3
  · rintro rfl
    exact ⟨rfl, rfl, rfl, rfl⟩
end Go.Proofs.Ytcapoommjeifjaa
