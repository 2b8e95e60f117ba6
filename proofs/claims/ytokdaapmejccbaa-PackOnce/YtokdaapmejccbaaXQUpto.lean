import Derived.WalkKit
namespace Go.Proofs.Ytokdaapmejccbaa
/-- Word k of a set of 256 bits, as a number. -/
def wd (S : BitVec 256) (k : Nat) : Int := ((S.extractLsb' (64 * k) 64).toNat : Int)

theorem wd_nonneg (S k) : 0 ≤ wd S k := by unfold wd; omega
theorem wd_lt (S k) : wd S k < 18446744073709551616 := by unfold wd; have := (S.extractLsb' (64 * k) 64).isLt; omega

theorem ofInt_toNat (v : BitVec 64) : BitVec.ofInt 64 (v.toNat : Int) = v := by
  apply BitVec.eq_of_toNat_eq
  rw [BitVec.toNat_ofInt]
  have := v.isLt
  omega

theorem wrap_nat (v : BitVec 64) : IntKind.u64.wrap (v.toNat : Int) = (v.toNat : Int) := by
  have := v.isLt
  simp [IntKind.wrap, IntKind.bits, IntKind.signed]
  omega
theorem bits_or_bv (a b : BitVec 64) : bits .or .u64 (a.toNat : Int) (b.toNat : Int) = ((a ||| b).toNat : Int) := by
  show IntKind.u64.wrap ((BitVec.ofInt 64 (a.toNat : Int) ||| BitVec.ofInt 64 (b.toNat : Int) : BitVec 64).toNat : Int) = _
  rw [ofInt_toNat, ofInt_toNat, wrap_nat]
theorem bits_and_bv (a b : BitVec 64) : bits .and .u64 (a.toNat : Int) (b.toNat : Int) = ((a &&& b).toNat : Int) := by
  show IntKind.u64.wrap ((BitVec.ofInt 64 (a.toNat : Int) &&& BitVec.ofInt 64 (b.toNat : Int) : BitVec 64).toNat : Int) = _
  rw [ofInt_toNat, ofInt_toNat, wrap_nat]
theorem bits_andNot_bv (a b : BitVec 64) : bits .andNot .u64 (a.toNat : Int) (b.toNat : Int) = ((a &&& ~~~b).toNat : Int) := by
  show IntKind.u64.wrap ((BitVec.ofInt 64 (a.toNat : Int) &&& ~~~BitVec.ofInt 64 (b.toNat : Int) : BitVec 64).toNat : Int) = _
  rw [ofInt_toNat, ofInt_toNat, wrap_nat]

theorem bits_or_wd (S T : BitVec 256) (k : Nat) : bits .or .u64 (wd S k) (wd T k) = wd (S ||| T) k := by
  unfold wd; rw [bits_or_bv]; congr 2
  ext i hi; simp
theorem bits_and_wd (S T : BitVec 256) (k : Nat) : bits .and .u64 (wd S k) (wd T k) = wd (S &&& T) k := by
  unfold wd; rw [bits_and_bv]; congr 2
  ext i hi; simp
theorem bits_andNot_wd (S T : BitVec 256) (k : Nat) (hk : k < 4) : bits .andNot .u64 (wd S k) (wd T k) = wd (S &&& ~~~T) k := by
  unfold wd; rw [bits_andNot_bv]; congr 2
  ext i hi
  rw [BitVec.getElem_extractLsb', BitVec.getElem_and, BitVec.getElem_not, BitVec.getElem_extractLsb', BitVec.getElem_extractLsb', BitVec.getLsbD_and, BitVec.getLsbD_not]
  simp [show 64 * k + i < 256 from by omega]
/-- Four words make a set. -/
def ofB (a b c d : BitVec 64) : BitVec 256 := d ++ (c ++ (b ++ a))
def ofW (a b c d : Int) : BitVec 256 := ofB (BitVec.ofInt 64 a) (BitVec.ofInt 64 b) (BitVec.ofInt 64 c) (BitVec.ofInt 64 d)
theorem getLsbD_ofB (a b c d : BitVec 64) (i : Nat) : (ofB a b c d).getLsbD i = if i < 64 then a.getLsbD i else if i < 128 then b.getLsbD (i - 64) else if i < 192 then c.getLsbD (i - 128) else d.getLsbD (i - 192) := by
  unfold ofB
  simp only [BitVec.getLsbD_append]
  by_cases h1 : i < 64
  · simp [h1, show i < 64 + (64 + 64) from by omega, show i < 64 + 64 from by omega]
  by_cases h2 : i < 128
  · simp [h1, h2, show i < 64 + (64 + 64) from by omega]
  by_cases h3 : i < 192
  · simp [h1, h2, h3]
  · simp [h1, h2, h3]
theorem ofW_wd (a b c d : Int) (ha : 0 ≤ a ∧ a < 18446744073709551616) (hb : 0 ≤ b ∧ b < 18446744073709551616) (hc : 0 ≤ c ∧ c < 18446744073709551616) (hd : 0 ≤ d ∧ d < 18446744073709551616) :
    wd (ofW a b c d) 0 = a ∧ wd (ofW a b c d) 1 = b ∧ wd (ofW a b c d) 2 = c ∧ wd (ofW a b c d) 3 = d := by
  have key : ∀ x : Int, 0 ≤ x ∧ x < 18446744073709551616 → ((BitVec.ofInt 64 x).toNat : Int) = x := by
    intro x hx; rw [BitVec.toNat_ofInt]; omega
  have e0 : (ofW a b c d).extractLsb' (64*0) 64 = BitVec.ofInt 64 a := by
    apply BitVec.eq_of_getLsbD_eq; intro i hi; simp only [BitVec.getLsbD_extractLsb', ofW, getLsbD_ofB]
    simp [hi]
  have e1 : (ofW a b c d).extractLsb' (64*1) 64 = BitVec.ofInt 64 b := by
    apply BitVec.eq_of_getLsbD_eq; intro i hi; simp only [BitVec.getLsbD_extractLsb', ofW, getLsbD_ofB]
    rw [if_neg (by omega), if_pos (by omega)]; simp [hi]
  have e2 : (ofW a b c d).extractLsb' (64*2) 64 = BitVec.ofInt 64 c := by
    apply BitVec.eq_of_getLsbD_eq; intro i hi; simp only [BitVec.getLsbD_extractLsb', ofW, getLsbD_ofB]
    rw [if_neg (by omega), if_neg (by omega), if_pos (by omega)]; simp [hi]
  have e3 : (ofW a b c d).extractLsb' (64*3) 64 = BitVec.ofInt 64 d := by
    apply BitVec.eq_of_getLsbD_eq; intro i hi; simp only [BitVec.getLsbD_extractLsb', ofW, getLsbD_ofB]
    rw [if_neg (by omega), if_neg (by omega), if_neg (by omega)]; simp [hi]
  unfold wd
  rw [e0, e1, e2, e3]
  exact ⟨key _ ha, key _ hb, key _ hc, key _ hd⟩
theorem wd_inj (S T : BitVec 256) (h : ∀ k, k < 4 → wd S k = wd T k) : S = T := by
  apply BitVec.eq_of_getLsbD_eq
  intro i hi
  have h1 := h (i / 64) (by omega)
  unfold wd at h1
  have h2 : S.extractLsb' (64 * (i/64)) 64 = T.extractLsb' (64 * (i/64)) 64 := BitVec.eq_of_toNat_eq (by omega)
  have h3 := congrArg (fun v => v.getLsbD (i % 64)) h2
  simp only [BitVec.getLsbD_extractLsb'] at h3
  rw [show 64 * (i / 64) + i % 64 = i from by omega] at h3
  simpa [show i % 64 < 64 from by omega] using h3
end Go.Proofs.Ytokdaapmejccbaa
namespace Go.Proofs.Ytokdaapmejccbaa

theorem at_word (S : BitVec 256) (k : Nat) (hk : k < 256) : [Value.int .u64 (wd S 0), Value.int .u64 (wd S 1), Value.int .u64 (wd S 2), Value.int .u64 (wd S 3)][k / 64]? = some (.int .u64 (wd S (k / 64))) := by
  have h : k / 64 = 0 ∨ k / 64 = 1 ∨ k / 64 = 2 ∨ k / 64 = 3 := by omega
  rcases h with h | h | h | h <;> rw [h] <;> rfl

theorem wrap_two (r : Nat) (hr : r < 64) : IntKind.u64.wrap (2 ^ r) = ((BitVec.twoPow 64 r).toNat : Int) := by
  have h2 : ((2 : Int) ^ r) = (((2 : Nat) ^ r : Nat) : Int) := by simp
  have h1 : (BitVec.twoPow 64 r).toNat = 2 ^ r := by
    rw [BitVec.toNat_twoPow]
    exact Nat.mod_eq_of_lt (Nat.pow_lt_pow_right (by decide) hr)
  rw [← wrap_nat, h1, h2]

theorem ext_twoPow (k j : Nat) (hk : k < 256) : (BitVec.twoPow 256 k).extractLsb' (64 * j) 64 = if j = k / 64 then BitVec.twoPow 64 (k % 64) else 0#64 := by
  apply BitVec.eq_of_getLsbD_eq
  intro i hi
  rw [BitVec.getLsbD_extractLsb', BitVec.getLsbD_twoPow]
  by_cases h : j = k / 64
  · rw [if_pos h, BitVec.getLsbD_twoPow]
    have e : (decide (k = 64 * j + i)) = decide (k % 64 = i) := by
      rw [decide_eq_decide]; omega
    simp [hi, hk, e, show k % 64 < 64 from by omega]
  · rw [if_neg h]
    have e : ¬ (k = 64 * j + i) := by omega
    simp [e]

theorem wd_or_two_same (S : BitVec 256) (k : Nat) (hk : k < 256) : bits .or .u64 (wd S (k / 64)) (IntKind.u64.wrap (2 ^ (k % 64))) = wd (S ||| BitVec.twoPow 256 k) (k / 64) := by
  rw [wrap_two _ (by omega)]
  have e := ext_twoPow k (k / 64) hk
  rw [if_pos rfl] at e
  rw [← bits_or_wd]
  unfold wd
  rw [e]

theorem wd_or_two_other (S : BitVec 256) (k j : Nat) (hk : k < 256) (hj : j ≠ k / 64) : wd (S ||| BitVec.twoPow 256 k) j = wd S j := by
  have e := ext_twoPow k j hk
  rw [if_neg hj] at e
  rw [← bits_or_wd]
  unfold wd
  rw [e, bits_or_bv]
  simp

theorem set_word (S : BitVec 256) (k : Nat) (hk : k < 256) (y : Int) (hy : y = wd (S ||| BitVec.twoPow 256 k) (k / 64)) :
    [Value.int .u64 (wd S 0), Value.int .u64 (wd S 1), Value.int .u64 (wd S 2), Value.int .u64 (wd S 3)].set (k / 64) (.int .u64 y) =
    [Value.int .u64 (wd (S ||| BitVec.twoPow 256 k) 0), Value.int .u64 (wd (S ||| BitVec.twoPow 256 k) 1), Value.int .u64 (wd (S ||| BitVec.twoPow 256 k) 2), Value.int .u64 (wd (S ||| BitVec.twoPow 256 k) 3)] := by
  subst hy
  have h : k / 64 = 0 ∨ k / 64 = 1 ∨ k / 64 = 2 ∨ k / 64 = 3 := by omega
  rcases h with h | h | h | h <;> rw [h] <;> simp only [List.set]
  · rw [wd_or_two_other S k 1 hk (by omega), wd_or_two_other S k 2 hk (by omega), wd_or_two_other S k 3 hk (by omega)]
  · rw [wd_or_two_other S k 0 hk (by omega), wd_or_two_other S k 2 hk (by omega), wd_or_two_other S k 3 hk (by omega)]
  · rw [wd_or_two_other S k 0 hk (by omega), wd_or_two_other S k 1 hk (by omega), wd_or_two_other S k 3 hk (by omega)]
  · rw [wd_or_two_other S k 0 hk (by omega), wd_or_two_other S k 1 hk (by omega), wd_or_two_other S k 2 hk (by omega)]

/-- The bytes below n of which p holds. -/
def upto (p : Nat → Bool) : Nat → BitVec 256
  | 0 => 0#256
  | n + 1 => if p n then upto p n ||| BitVec.twoPow 256 n else upto p n

theorem getLsbD_upto (p : Nat → Bool) (n i : Nat) (hi : i < 256) : (upto p n).getLsbD i = (decide (i < n) && p i) := by
  induction n with
  | zero => simp [upto]
  | succ n ih =>
    unfold upto
    by_cases hp : p n = true
    · rw [if_pos hp, BitVec.getLsbD_or, ih, BitVec.getLsbD_twoPow]
      by_cases e : n = i
      · subst e; simp [hi, hp]
      · simp [e, show (i < n + 1 ↔ i < n) from by omega]
    · rw [if_neg hp, ih]
      by_cases e : n = i
      · subst e; simp [hp]
      · simp [show (i < n + 1 ↔ i < n) from by omega]

theorem set_ext {S T : BitVec 256} (h : ∀ i, i < 256 → S.getLsbD i = T.getLsbD i) : S = T := BitVec.eq_of_getLsbD_eq h

/-- The bytes from lo to hi. -/
def rng (lo hi : Int) : BitVec 256 := upto (fun i => decide (lo ≤ (i : Int)) && decide ((i : Int) ≤ hi)) 256

theorem wd_zeroU (k : Nat) : wd 0#256 k = 0 := by unfold wd; simp

theorem rng_start (lo : Int) (k : Nat) (h : (k : Int) = lo ∨ k = 0) : upto (fun i => decide (lo ≤ (i : Int))) k = 0#256 := by
  apply set_ext; intro i hi
  rw [getLsbD_upto _ _ _ hi]
  simp
  omega
theorem rng_step (lo : Int) (k : Nat) (h : lo ≤ (k : Int)) : upto (fun i => decide (lo ≤ (i : Int))) k ||| BitVec.twoPow 256 k = upto (fun i => decide (lo ≤ (i : Int))) (k + 1) := by
  conv => rhs; unfold upto
  rw [if_pos (by simpa using h)]
theorem rng_end (lo hi : Int) (k : Nat) (_h1 : lo ≤ (k : Int)) (h2 : ((k : Int) ≤ hi + 1 ∧ k ≤ 256) ∨ (k : Int) = lo ∨ k = 0) (h3 : ¬ ((k : Int) ≤ hi ∧ k ≤ 255)) :
    upto (fun i => decide (lo ≤ (i : Int))) k = rng lo hi := by
  apply set_ext; intro i hi
  unfold rng
  rw [getLsbD_upto _ _ _ hi, getLsbD_upto _ _ _ hi]
  rw [Bool.eq_iff_iff]
  simp
  omega
end Go.Proofs.Ytokdaapmejccbaa
