import Derived.WalkKit
namespace Go.Proofs.Ytokdaapmejccbaa
/-- Word k of a set of 256 bits, as a number. -/
def wd (S : BitVec 256) (k : Nat) : Int := ((S.extractLsb' (64 * k) 64).toNat : Int)

theorem wd_nonneg (S k) : 0 ≤ wd S k := by unfold wd; omega
theorem wd_lt (S k) : wd S k < 18446744073709551616 := by unfold wd; have := (S.extractLsb' (64 * k) 64).isLt; omega

theorem ofInt_toNat (v : BitVec 64) : BitVec.ofInt 64 (v.toNat : Int) = v := by
  apply BitVec.eq_of_toNat_eq
  rw [BitVec.toNat_ofInt]
  have := v.isLt
  omega

theorem wrap_nat (v : BitVec 64) : IntKind.u64.wrap (v.toNat : Int) = (v.toNat : Int) := by
  have := v.isLt
  simp [IntKind.wrap, IntKind.bits, IntKind.signed]
  omega
theorem bits_or_bv (a b : BitVec 64) : bits .or .u64 (a.toNat : Int) (b.toNat : Int) = ((a ||| b).toNat : Int) := by
  show IntKind.u64.wrap ((BitVec.ofInt 64 (a.toNat : Int) ||| BitVec.ofInt 64 (b.toNat : Int) : BitVec 64).toNat : Int) = _
  rw [ofInt_toNat, ofInt_toNat, wrap_nat]
theorem bits_and_bv (a b : BitVec 64) : bits .and .u64 (a.toNat : Int) (b.toNat : Int) = ((a &&& b).toNat : Int) := by
  show IntKind.u64.wrap ((BitVec.ofInt 64 (a.toNat : Int) &&& BitVec.ofInt 64 (b.toNat : Int) : BitVec 64).toNat : Int) = _
  rw [ofInt_toNat, ofInt_toNat, wrap_nat]
theorem bits_andNot_bv (a b : BitVec 64) : bits .andNot .u64 (a.toNat : Int) (b.toNat : Int) = ((a &&& ~~~b).toNat : Int) := by
  show IntKind.u64.wrap ((BitVec.ofInt 64 (a.toNat : Int) &&& ~~~BitVec.ofInt 64 (b.toNat : Int) : BitVec 64).toNat : Int) = _
  rw [ofInt_toNat, ofInt_toNat, wrap_nat]

theorem bits_or_wd (S T : BitVec 256) (k : Nat) : bits .or .u64 (wd S k) (wd T k) = wd (S ||| T) k := by
  unfold wd; rw [bits_or_bv]; congr 2
  ext i hi; simp
theorem bits_and_wd (S T : BitVec 256) (k : Nat) : bits .and .u64 (wd S k) (wd T k) = wd (S &&& T) k := by
  unfold wd; rw [bits_and_bv]; congr 2
  ext i hi; simp
theorem bits_andNot_wd (S T : BitVec 256) (k : Nat) (hk : k < 4) : bits .andNot .u64 (wd S k) (wd T k) = wd (S &&& ~~~T) k := by
  unfold wd; rw [bits_andNot_bv]; congr 2
  ext i hi
  rw [BitVec.getElem_extractLsb', BitVec.getElem_and, BitVec.getElem_not, BitVec.getElem_extractLsb', BitVec.getElem_extractLsb', BitVec.getLsbD_and, BitVec.getLsbD_not]
  simp [show 64 * k + i < 256 from by omega]
/-- Four words make a set. -/
def ofB (a b c d : BitVec 64) : BitVec 256 := d ++ (c ++ (b ++ a))
def ofW (a b c d : Int) : BitVec 256 := ofB (BitVec.ofInt 64 a) (BitVec.ofInt 64 b) (BitVec.ofInt 64 c) (BitVec.ofInt 64 d)
theorem getLsbD_ofB (a b c d : BitVec 64) (i : Nat) : (ofB a b c d).getLsbD i = if i < 64 then a.getLsbD i else if i < 128 then b.getLsbD (i - 64) else if i < 192 then c.getLsbD (i - 128) else d.getLsbD (i - 192) := by
  unfold ofB
  simp only [BitVec.getLsbD_append]
  by_cases h1 : i < 64
  · simp [h1, show i < 64 + (64 + 64) from by omega, show i < 64 + 64 from by omega]
  by_cases h2 : i < 128
  · simp [h1, h2, show i < 64 + (64 + 64) from by omega]
  by_cases h3 : i < 192
  · simp [h1, h2, h3]
  · simp [h1, h2, h3]
theorem ofW_wd (a b c d : Int) (ha : 0 ≤ a ∧ a < 18446744073709551616) (hb : 0 ≤ b ∧ b < 18446744073709551616) (hc : 0 ≤ c ∧ c < 18446744073709551616) (hd : 0 ≤ d ∧ d < 18446744073709551616) :
    wd (ofW a b c d) 0 = a ∧ wd (ofW a b c d) 1 = b ∧ wd (ofW a b c d) 2 = c ∧ wd (ofW a b c d) 3 = d := by
  have key : ∀ x : Int, 0 ≤ x ∧ x < 18446744073709551616 → ((BitVec.ofInt 64 x).toNat : Int) = x := by
    intro x hx; rw [BitVec.toNat_ofInt]; omega
  have e0 : (ofW a b c d).extractLsb' (64*0) 64 = BitVec.ofInt 64 a := by
    apply BitVec.eq_of_getLsbD_eq; intro i hi; simp only [BitVec.getLsbD_extractLsb', ofW, getLsbD_ofB]
    simp [hi]
  have e1 : (ofW a b c d).extractLsb' (64*1) 64 = BitVec.ofInt 64 b := by
    apply BitVec.eq_of_getLsbD_eq; intro i hi; simp only [BitVec.getLsbD_extractLsb', ofW, getLsbD_ofB]
    rw [if_neg (by omega), if_pos (by omega)]; simp [hi]
  have e2 : (ofW a b c d).extractLsb' (64*2) 64 = BitVec.ofInt 64 c := by
    apply BitVec.eq_of_getLsbD_eq; intro i hi; simp only [BitVec.getLsbD_extractLsb', ofW, getLsbD_ofB]
    rw [if_neg (by omega), if_neg (by omega), if_pos (by omega)]; simp [hi]
  have e3 : (ofW a b c d).extractLsb' (64*3) 64 = BitVec.ofInt 64 d := by
    apply BitVec.eq_of_getLsbD_eq; intro i hi; simp only [BitVec.getLsbD_extractLsb', ofW, getLsbD_ofB]
    rw [if_neg (by omega), if_neg (by omega), if_neg (by omega)]; simp [hi]
  unfold wd
  rw [e0, e1, e2, e3]
  exact ⟨key _ ha, key _ hb, key _ hc, key _ hd⟩
theorem wd_inj (S T : BitVec 256) (h : ∀ k, k < 4 → wd S k = wd T k) : S = T := by
  apply BitVec.eq_of_getLsbD_eq
  intro i hi
  have h1 := h (i / 64) (by omega)
  unfold wd at h1
  have h2 : S.extractLsb' (64 * (i/64)) 64 = T.extractLsb' (64 * (i/64)) 64 := BitVec.eq_of_toNat_eq (by omega)
  have h3 := congrArg (fun v => v.getLsbD (i % 64)) h2
  simp only [BitVec.getLsbD_extractLsb'] at h3
  rw [show 64 * (i / 64) + i % 64 = i from by omega] at h3
  simpa [show i % 64 < 64 from by omega] using h3
end Go.Proofs.Ytokdaapmejccbaa
