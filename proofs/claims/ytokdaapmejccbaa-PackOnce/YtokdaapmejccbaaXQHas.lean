import Derived.Test.YtokdaapmejccbaaProg
import Derived.Test.YtokdaapmejccbaaXQUpto
import Derived.Test.YtokdaapmejccbaaXName
import Derived.WalkKit
import Derived.WalkSpells
import Derived.WalkLawsBesides
import Derived.Deep.RegionWith
import Derived.BigRegion
namespace Go.Proofs.Ytokdaapmejccbaa
open Go.RowKit
/-- Byte k is in S. -/
def inS (S : BitVec 256) (k : Nat) : Bool := S.getLsbD k
theorem wd_div (S : BitVec 256) (k r : Nat) : wd S k / 2 ^ r = (((S.extractLsb' (64 * k) 64).toNat / 2 ^ r : Nat) : Int) := by
  unfold wd
  have : ((2 : Int) ^ r) = (((2 : Nat) ^ r : Nat) : Int) := by simp
  rw [this]
  simp
theorem bit_div (S : BitVec 256) (k : Nat) : decide ((S.extractLsb' (64 * (k / 64)) 64).toNat / 2 ^ (k % 64) % 2 = 1) = S.getLsbD k := by
  have h : (S.extractLsb' (64 * (k / 64)) 64).getLsbD (k % 64) = S.getLsbD k := by
    rw [BitVec.getLsbD_extractLsb', show 64 * (k / 64) + k % 64 = k from by omega]
    simp [show k % 64 < 64 from by omega]
  rw [← h, BitVec.getLsbD, Nat.testBit_eq_decide_div_mod_eq]
theorem rhas_bit (S : BitVec 256) (k : Nat) : ((wd S (k / 64) / 2 ^ (k % 64)).tmod 2 == 1) = S.getLsbD k := by
  rw [← bit_div, wd_div]
  generalize (BitVec.extractLsb' (64 * (k / 64)) 64 S).toNat / 2 ^ (k % 64) = n
  rw [Bool.eq_iff_iff, beq_iff_eq, decide_eq_true_iff, Int.tmod_eq_emod_of_nonneg (by omega)]
  omega
theorem bits_and_one (n : Nat) (h : n < 2 ^ 64) : bits .and .u64 (n : Int) 1 = ((n % 2 : Nat) : Int) := by
  have e := bits_and_bv (BitVec.ofNat 64 n) 1#64
  have e1 : (BitVec.ofNat 64 n).toNat = n := by rw [BitVec.toNat_ofNat]; exact Nat.mod_eq_of_lt h
  rw [e1] at e
  have e2 : ((1#64).toNat : Int) = 1 := by decide
  rw [e2] at e
  rw [e, BitVec.toNat_and, e1]
  have e3 : (1#64).toNat = 1 := by decide
  rw [e3, Nat.and_one_is_mod]
theorem has_bit (S : BitVec 256) (k : Nat) : (bits .and .u64 (wd S (k / 64) / 2 ^ (k % 64)) 1 == 1) = S.getLsbD k := by
  rw [← bit_div, wd_div]
  have hl : (S.extractLsb' (64 * (k / 64)) 64).toNat / 2 ^ (k % 64) < 2 ^ 64 := Nat.lt_of_le_of_lt (Nat.div_le_self _ _) (S.extractLsb' (64 * (k / 64)) 64).isLt
  rw [bits_and_one _ hl]
  generalize (BitVec.extractLsb' (64 * (k / 64)) 64 S).toNat / 2 ^ (k % 64) = n
  rw [Bool.eq_iff_iff, beq_iff_eq, decide_eq_true_iff]
  omega
set_option maxHeartbeats 400000 in
set_option maxHeartbeats 400000 in
theorem has_any (S : BitVec 256) (k : Nat) (w : World) (hk : k < 256) :
    Calls Try.prog 38 #[.agg #[.int .u64 (wd S 0), .int .u64 (wd S 1), .int .u64 (wd S 2), .int .u64 (wd S 3)], .int .u8 k] w fun e w' => e = .returned (.bool (inS S k)) ∧ Below w.heap.size w w' := by
  have hq := at_word S k hk
  have h0 : (0 : Int) ≤ (k : Int) := by omega
  have h1 : (k : Int) ≤ 255 := by omega
  go_enter Try.func38, Try.ntmps38
  go_wp2_with fail
  go_ret
  exact ⟨ret_bool (has_bit S k), (Below.refl _ _).alloc (Nat.le_refl _) _⟩
end Go.Proofs.Ytokdaapmejccbaa
