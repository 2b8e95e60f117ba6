import Derived.Test.YtomeocofnbnegaaHas
import Derived.Test.YtomeocofnbnegaaOnes
import Derived.Test.YtomeocofnbnegaaWhere
import Derived.WalkKit
import Derived.WalkSpells
import Derived.WalkLawsBesides
namespace Go.Proofs.Ytomeocofnbnegaa
open Go.RowKit
/-- How many of the n bytes from a on are in S. -/
def cf (S : BitVec 256) : Nat → Nat → Nat
  | _, 0 => 0
  | a, n + 1 => (if inS S a then 1 else 0) + cf S (a + 1) n
theorem cf_add (S : BitVec 256) (a m n : Nat) : cf S a (m + n) = cf S a m + cf S (a + m) n := by
  induction m generalizing a with
  | zero => simp [cf]
  | succ m ih => rw [show m + 1 + n = (m + n) + 1 from by omega, cf, cf, ih, show a + 1 + m = a + (m + 1) from by omega]; omega
theorem cf_bc (S : BitVec 256) (k : Nat) (n j : Nat) (h : j + n ≤ 64) : cf S (64 * k + j) n = bc n ((S.extractLsb' (64 * k) 64).toNat / 2 ^ j) := by
  induction n generalizing j with
  | zero => simp [cf, bc]
  | succ n ih =>
    have e := bit_div S (64 * k + j)
    rw [show (64 * k + j) / 64 = k from by omega, show (64 * k + j) % 64 = j from by omega] at e
    rw [cf, bc, show 64 * k + j + 1 = 64 * k + (j + 1) from by omega, ih (j + 1) (by omega), Nat.div_div_eq_div_mul, ← Nat.pow_succ]
    congr 1
    unfold inS
    rw [← e]
    generalize (BitVec.extractLsb' (64 * k) 64 S).toNat / 2 ^ j = n
    by_cases h1 : n % 2 = 1
    · simp [h1]
    · simp [show n % 2 = 0 from by omega]
theorem cf_words (S : BitVec 256) : cf S 0 256 = bc 64 (S.extractLsb' (64 * 0) 64).toNat + (bc 64 (S.extractLsb' (64 * 1) 64).toNat + (bc 64 (S.extractLsb' (64 * 2) 64).toNat + bc 64 (S.extractLsb' (64 * 3) 64).toNat)) := by
  have h0 := cf_bc S 0 64 0 (by omega)
  have h1 := cf_bc S 1 64 0 (by omega)
  have h2 := cf_bc S 2 64 0 (by omega)
  have h3 := cf_bc S 3 64 0 (by omega)
  have a0 := cf_add S 0 64 192
  have a1 := cf_add S 64 64 128
  have a2 := cf_add S 128 64 64
  simp only [Nat.mul_zero, Nat.zero_add, Nat.add_zero, Nat.mul_one, Nat.reduceMul, Nat.reduceAdd, Nat.pow_zero, Nat.div_one] at h0 h1 h2 h3 a0 a1 a2 ⊢
  omega
theorem bc_le (n x : Nat) : bc n x ≤ n := by
  induction n generalizing x with
  | zero => simp [bc]
  | succ n ih => have := ih (x / 2); rw [bc]; omega
/-- The least byte of S that is at least a, of the n from a on, or -1. -/
def ff (S : BitVec 256) : Nat → Nat → Int
  | _, 0 => -1
  | a, n + 1 => if inS S a then (a : Int) else ff S (a + 1) n
def fst (S : BitVec 256) (a : Int) : Int := ff S a.toNat (256 - a.toNat)
theorem fst_yes (S : BitVec 256) (k : Nat) (hk : k < 256) (h : inS S k = true) : fst S k = k := by
  unfold fst
  rw [Int.toNat_natCast, show 256 - k = (255 - k) + 1 from by omega, ff, if_pos h]
theorem fst_no (S : BitVec 256) (k : Nat) (hk : k < 256) (h : inS S k = false) : fst S k = fst S ((k + 1 : Nat) : Int) := by
  unfold fst
  rw [Int.toNat_natCast, Int.toNat_natCast, show 256 - k = (256 - (k + 1)) + 1 from by omega, ff, if_neg (by simp [h])]
theorem fst_out (S : BitVec 256) (k : Nat) (hk : 255 < k) : fst S k = -1 := by
  unfold fst
  rw [Int.toNat_natCast, show 256 - k = 0 from by omega, ff]
/-- How many bits word k of S has. -/
def cw (S : BitVec 256) (k : Nat) : Nat := bc 64 (S.extractLsb' (64 * k) 64).toNat
theorem cw_le (S : BitVec 256) (k : Nat) : (cw S k : Int) ≤ 64 := by have := bc_le 64 (S.extractLsb' (64 * k) 64).toNat; unfold cw; omega
theorem ones_wd (S : BitVec 256) (k : Nat) (w : World) :
    Calls Try.prog 22 #[.int .u64 (wd S k)] w fun e w' => e = .returned (.int .i64 (cw S k : Int)) ∧ w' = w :=
  ones_any (S.extractLsb' (64 * k) 64).toNat w (by have := (S.extractLsb' (64 * k) 64).isLt; omega)
set_option maxHeartbeats 400000 in
theorem count_any (S : BitVec 256) (w : World) :
    Calls Try.prog 12 #[.agg #[.int .u64 (wd S 0), .int .u64 (wd S 1), .int .u64 (wd S 2), .int .u64 (wd S 3)]] w fun e w' => e = .returned (.int .i64 (cf S 0 256)) ∧ Below w.heap.size w w' := by
  have i0 : ∀ (x0 x1 x2 x3 : Value) (w : World), (Instr.index 24 (.agg #[x0, x1, x2, x3]) (.int .i64 0)).run Try.prog w = .ok x0 w := fun _ _ _ _ _ => by kernel_rfl
  have i1 : ∀ (x0 x1 x2 x3 : Value) (w : World), (Instr.index 24 (.agg #[x0, x1, x2, x3]) (.int .i64 1)).run Try.prog w = .ok x1 w := fun _ _ _ _ _ => by kernel_rfl
  have i2 : ∀ (x0 x1 x2 x3 : Value) (w : World), (Instr.index 24 (.agg #[x0, x1, x2, x3]) (.int .i64 2)).run Try.prog w = .ok x2 w := fun _ _ _ _ _ => by kernel_rfl
  have i3 : ∀ (x0 x1 x2 x3 : Value) (w : World), (Instr.index 24 (.agg #[x0, x1, x2, x3]) (.int .i64 3)).run Try.prog w = .ok x3 w := fun _ _ _ _ _ => by kernel_rfl
  go_enter Try.func12, Try.ntmps12
  go_wp2_with fail
  go_loopw [3, 5, 7] (fun t _ i wx => Below w.heap.size w wx ∧ ((i = .int .i64 0 ∧ t = .int .i64 0) ∨ (i = .int .i64 1 ∧ t = .int .i64 (cw S 0)) ∨ (i = .int .i64 2 ∧ t = .int .i64 ((cw S 0 : Int) + (cw S 1 : Int))) ∨ (i = .int .i64 3 ∧ t = .int .i64 ((cw S 0 : Int) + (cw S 1 : Int) + (cw S 2 : Int))) ∨ (i = .int .i64 4 ∧ t = .int .i64 ((cw S 0 : Int) + (cw S 1 : Int) + (cw S 2 : Int) + (cw S 3 : Int))))) (fun _ _ i _ => 4 - (intOf i).toNat)
  case atStart => exact ⟨(Below.refl _ _).alloc (Nat.le_refl _) _, .inl ⟨rfl, rfl⟩⟩
  case round =>
    have b0 := cw_le S 0
    have b1 := cw_le S 1
    have b2 := cw_le S 2
    have b3 := cw_le S 3
    obtain ⟨hB, ⟨rfl, rfl⟩ | ⟨rfl, rfl⟩ | ⟨rfl, rfl⟩ | ⟨rfl, rfl⟩ | ⟨rfl, rfl⟩⟩ := hrel
    · go_wp2_with fail
      refine (ones_wd S 0 _).mono ?_
      rintro e w1 ⟨rfl, rfl⟩
      go_wp2_with fail
      exact ⟨⟨hB, .inr (.inl ⟨rfl, rfl⟩)⟩, by simp [intOf]⟩
    · go_wp2_with fail
      refine (ones_wd S 1 _).mono ?_
      rintro e w1 ⟨rfl, rfl⟩
      go_wp2_with fail
      exact ⟨⟨hB, .inr (.inr (.inl ⟨rfl, rfl⟩))⟩, by simp [intOf]⟩
    · go_wp2_with fail
      refine (ones_wd S 2 _).mono ?_
      rintro e w1 ⟨rfl, rfl⟩
      go_wp2_with fail
      exact ⟨⟨hB, .inr (.inr (.inr (.inl ⟨rfl, rfl⟩)))⟩, by simp [intOf]⟩
    · go_wp2_with fail
      refine (ones_wd S 3 _).mono ?_
      rintro e w1 ⟨rfl, rfl⟩
      go_wp2_with fail
      exact ⟨⟨hB, .inr (.inr (.inr (.inr ⟨rfl, rfl⟩)))⟩, by simp [intOf]⟩
    · go_wp2_with fail
      go_ret
      exact ⟨ret_int (by rw [cf_words]; unfold cw; omega), hB⟩
set_option maxHeartbeats 400000 in
theorem first_any (S : BitVec 256) (a : Int) (w : World) :
    Calls Try.prog 14 #[.agg #[.int .u64 (wd S 0), .int .u64 (wd S 1), .int .u64 (wd S 2), .int .u64 (wd S 3)], .int .i64 a] w fun e w' => e = .returned (.int .i64 (fst S a)) ∧ Below w.heap.size w w' := by
  by_cases h0 : a < 0
  all_goals go_enter Try.func14, Try.ntmps14
  all_goals go_wp2_with fail
  all_goals (
    go_loopw [5] (fun b wx => ∃ k : Nat, b = .int .i64 k ∧ Hid (fst S k = fst S a) ∧ Below w.heap.size w wx ∧ Lies wx w.heap.size #[.int .u64 (wd S 0), .int .u64 (wd S 1), .int .u64 (wd S 2), .int .u64 (wd S 3)]) (fun b _ => 256 - (intOf b).toNat)
    case atStart =>
      first
      | exact ⟨0, rfl, by unfold fst Hid; rw [show a.toNat = 0 from by omega]; rfl, (Below.refl _ _).alloc (Nat.le_refl _) _, Lies.new _ _⟩
      | exact ⟨a.toNat, by rw [Int.toNat_of_nonneg (by omega)], by unfold Hid; rw [Int.toNat_of_nonneg (by omega)], (Below.refl _ _).alloc (Nat.le_refl _) _, Lies.new _ _⟩
    case round =>
      obtain ⟨k, rfl, HS, hB, hL⟩ := hrel
      by_cases hh : (k : Int) ≤ 255
      · have hc := hL.cell
        cases hi : inS S k
        · have HI : Hid (inS S k = false) := hi
          clear hi
          go_wp2_with fail
          refine (has_any S k _ (by omega)).mono ?_
          rintro e w1 ⟨rfl, hb⟩
          rw [HI.out]
          go_wp2_with fail
          exact ⟨⟨k + 1, by go_num, by unfold Hid; rw [← fst_no S k (by omega) HI.out]; exact HS.out, hB.trans (hb.mono (by have := hL.lt; omega)), hL.below hb hL.lt⟩, by simp [intOf]; omega⟩
        · have HI : Hid (inS S k = true) := hi
          clear hi
          go_wp2_with fail
          refine (has_any S k _ (by omega)).mono ?_
          rintro e w1 ⟨rfl, hb⟩
          rw [HI.out]
          go_wp2_with fail
          go_ret
          exact ⟨ret_int (by rw [← HS.out, fst_yes S k (by omega) HI.out]), hB.trans (hb.mono (by have := hL.lt; omega))⟩
      · go_wp2_with fail
        go_ret
        exact ⟨ret_int (by rw [← HS.out, fst_out S k (by omega)]), hB⟩)
end Go.Proofs.Ytomeocofnbnegaa
