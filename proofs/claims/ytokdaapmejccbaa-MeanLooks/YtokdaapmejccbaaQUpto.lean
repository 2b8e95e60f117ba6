import Derived.Test.YtokdaapmejccbaaBits
namespace Go.Proofs.Ytokdaapmejccbaa

theorem at_word (S : BitVec 256) (k : Nat) (hk : k < 256) : [Value.int .u64 (wd S 0), Value.int .u64 (wd S 1), Value.int .u64 (wd S 2), Value.int .u64 (wd S 3)][k / 64]? = some (.int .u64 (wd S (k / 64))) := by
  have h : k / 64 = 0 ∨ k / 64 = 1 ∨ k / 64 = 2 ∨ k / 64 = 3 := by omega
  rcases h with h | h | h | h <;> rw [h] <;> rfl

theorem wrap_two (r : Nat) (hr : r < 64) : IntKind.u64.wrap (2 ^ r) = ((BitVec.twoPow 64 r).toNat : Int) := by
  have h2 : ((2 : Int) ^ r) = (((2 : Nat) ^ r : Nat) : Int) := by simp
  have h1 : (BitVec.twoPow 64 r).toNat = 2 ^ r := by
    rw [BitVec.toNat_twoPow]
    exact Nat.mod_eq_of_lt (Nat.pow_lt_pow_right (by decide) hr)
  rw [← wrap_nat, h1, h2]

theorem ext_twoPow (k j : Nat) (hk : k < 256) : (BitVec.twoPow 256 k).extractLsb' (64 * j) 64 = if j = k / 64 then BitVec.twoPow 64 (k % 64) else 0#64 := by
  apply BitVec.eq_of_getLsbD_eq
  intro i hi
  rw [BitVec.getLsbD_extractLsb', BitVec.getLsbD_twoPow]
  by_cases h : j = k / 64
  · rw [if_pos h, BitVec.getLsbD_twoPow]
    have e : (decide (k = 64 * j + i)) = decide (k % 64 = i) := by
      rw [decide_eq_decide]; omega
    simp [hi, hk, e, show k % 64 < 64 from by omega]
  · rw [if_neg h]
    have e : ¬ (k = 64 * j + i) := by omega
    simp [e]

theorem wd_or_two_same (S : BitVec 256) (k : Nat) (hk : k < 256) : bits .or .u64 (wd S (k / 64)) (IntKind.u64.wrap (2 ^ (k % 64))) = wd (S ||| BitVec.twoPow 256 k) (k / 64) := by
  rw [wrap_two _ (by omega)]
  have e := ext_twoPow k (k / 64) hk
  rw [if_pos rfl] at e
  rw [← bits_or_wd]
  unfold wd
  rw [e]

theorem wd_or_two_other (S : BitVec 256) (k j : Nat) (hk : k < 256) (hj : j ≠ k / 64) : wd (S ||| BitVec.twoPow 256 k) j = wd S j := by
  have e := ext_twoPow k j hk
  rw [if_neg hj] at e
  rw [← bits_or_wd]
  unfold wd
  rw [e, bits_or_bv]
  simp

theorem set_word (S : BitVec 256) (k : Nat) (hk : k < 256) (y : Int) (hy : y = wd (S ||| BitVec.twoPow 256 k) (k / 64)) :
    [Value.int .u64 (wd S 0), Value.int .u64 (wd S 1), Value.int .u64 (wd S 2), Value.int .u64 (wd S 3)].set (k / 64) (.int .u64 y) =
    [Value.int .u64 (wd (S ||| BitVec.twoPow 256 k) 0), Value.int .u64 (wd (S ||| BitVec.twoPow 256 k) 1), Value.int .u64 (wd (S ||| BitVec.twoPow 256 k) 2), Value.int .u64 (wd (S ||| BitVec.twoPow 256 k) 3)] := by
  subst hy
  have h : k / 64 = 0 ∨ k / 64 = 1 ∨ k / 64 = 2 ∨ k / 64 = 3 := by omega
  rcases h with h | h | h | h <;> rw [h] <;> simp only [List.set]
  · rw [wd_or_two_other S k 1 hk (by omega), wd_or_two_other S k 2 hk (by omega), wd_or_two_other S k 3 hk (by omega)]
  · rw [wd_or_two_other S k 0 hk (by omega), wd_or_two_other S k 2 hk (by omega), wd_or_two_other S k 3 hk (by omega)]
  · rw [wd_or_two_other S k 0 hk (by omega), wd_or_two_other S k 1 hk (by omega), wd_or_two_other S k 3 hk (by omega)]
  · rw [wd_or_two_other S k 0 hk (by omega), wd_or_two_other S k 1 hk (by omega), wd_or_two_other S k 2 hk (by omega)]

/-- The bytes below n of which p holds. -/
def upto (p : Nat → Bool) : Nat → BitVec 256
  | 0 => 0#256
  | n + 1 => if p n then upto p n ||| BitVec.twoPow 256 n else upto p n

theorem getLsbD_upto (p : Nat → Bool) (n i : Nat) (hi : i < 256) : (upto p n).getLsbD i = (decide (i < n) && p i) := by
  induction n with
  | zero => simp [upto]
  | succ n ih =>
    unfold upto
    by_cases hp : p n = true
    · rw [if_pos hp, BitVec.getLsbD_or, ih, BitVec.getLsbD_twoPow]
      by_cases e : n = i
      · subst e; simp [hi, hp]
      · simp [e, show (i < n + 1 ↔ i < n) from by omega]
    · rw [if_neg hp, ih]
      by_cases e : n = i
      · subst e; simp [hp]
      · simp [show (i < n + 1 ↔ i < n) from by omega]

theorem set_ext {S T : BitVec 256} (h : ∀ i, i < 256 → S.getLsbD i = T.getLsbD i) : S = T := BitVec.eq_of_getLsbD_eq h

/-- The bytes from lo to hi. -/
def rng (lo hi : Int) : BitVec 256 := upto (fun i => decide (lo ≤ (i : Int)) && decide ((i : Int) ≤ hi)) 256

theorem wd_zeroU (k : Nat) : wd 0#256 k = 0 := by unfold wd; simp

theorem rng_start (lo : Int) (k : Nat) (h : (k : Int) = lo ∨ k = 0) : upto (fun i => decide (lo ≤ (i : Int))) k = 0#256 := by
  apply set_ext; intro i hi
  rw [getLsbD_upto _ _ _ hi]
  simp
  omega
theorem rng_step (lo : Int) (k : Nat) (h : lo ≤ (k : Int)) : upto (fun i => decide (lo ≤ (i : Int))) k ||| BitVec.twoPow 256 k = upto (fun i => decide (lo ≤ (i : Int))) (k + 1) := by
  conv => rhs; unfold upto
  rw [if_pos (by simpa using h)]
theorem rng_end (lo hi : Int) (k : Nat) (_h1 : lo ≤ (k : Int)) (h2 : ((k : Int) ≤ hi + 1 ∧ k ≤ 256) ∨ (k : Int) = lo ∨ k = 0) (h3 : ¬ ((k : Int) ≤ hi ∧ k ≤ 255)) :
    upto (fun i => decide (lo ≤ (i : Int))) k = rng lo hi := by
  apply set_ext; intro i hi
  unfold rng
  rw [getLsbD_upto _ _ _ hi, getLsbD_upto _ _ _ hi]
  rw [Bool.eq_iff_iff]
  simp
  omega
end Go.Proofs.Ytokdaapmejccbaa
