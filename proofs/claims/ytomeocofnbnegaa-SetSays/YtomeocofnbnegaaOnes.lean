import Derived.Test.YtomeocofnbnegaaRows
import Derived.Test.YtomeocofnbnegaaPop
import Derived.WalkKit
import Derived.WalkSpells
import Derived.WalkLawsBesides
namespace Go.Proofs.Ytomeocofnbnegaa
open Go.RowKit
theorem ret_int {k : IntKind} {a b : Int} (h : a = b) : Ending.returned (.int k a) = .returned (.int k b) := by rw [h]
theorem andN (a m : Nat) (ha : a < 18446744073709551616) (hm : m < 18446744073709551616) : bits .and .u64 (a : Int) (m : Int) = ((a &&& m : Nat) : Int) := by
  have e := bits_and_bv (BitVec.ofNat 64 a) (BitVec.ofNat 64 m)
  have e1 : (BitVec.ofNat 64 a).toNat = a := by rw [BitVec.toNat_ofNat]; exact Nat.mod_eq_of_lt ha
  have e2 : (BitVec.ofNat 64 m).toNat = m := by rw [BitVec.toNat_ofNat]; exact Nat.mod_eq_of_lt hm
  rw [BitVec.toNat_and, e1, e2] at e
  exact e
theorem wrapN (n : Nat) (h : n < 18446744073709551616) : IntKind.u64.wrap (n : Int) = (n : Int) := by
  simp [IntKind.wrap, IntKind.bits, IntKind.signed]; omega
theorem dg_lt (f : Nat → Nat) (hf : ∀ r, r < 256 → f r < 256) (n x : Nat) : dg f n x < 256 ^ n := by
  induction n generalizing x with
  | zero => simp [dg]
  | succ n ih =>
    have h1 := ih (x / 256)
    have h2 := hf (x % 256) (by omega)
    rw [dg, Nat.pow_succ]
    omega
theorem mk55 : mk 0x55 8 = 6148914691236517205 := by decide +kernel
theorem mk33 : mk 0x33 8 = 3689348814741910323 := by decide +kernel
theorem mk0f : mk 0x0f 8 = 1085102592571150095 := by decide +kernel
theorem s1_lt (x : Nat) : st1 8 x < 18446744073709551616 := by
  have h := dg_lt b1 (fun r hr => (fin3 ⟨r, hr⟩).1) 8 x
  rw [st1_dg]; simpa using h
theorem s2_dg (x : Nat) : st2 8 (st1 8 x) = dg (fun r => b2 (b1 r)) 8 x := by rw [st1_dg, st2_dg _ (fun r hr => (fin3 ⟨r, hr⟩).1)]
theorem s2_lt (x : Nat) : st2 8 (st1 8 x) < 18446744073709551616 := by
  have h := dg_lt (fun r => b2 (b1 r)) (fun r hr => Nat.lt_of_lt_of_le (fin3 ⟨r, hr⟩).2.1 (by decide)) 8 x
  rw [s2_dg]; simpa using h
theorem s2_lt7 (x : Nat) : st2 8 (st1 8 x) < 9223372036854775808 := by
  rw [s2_dg, dg8]
  have h : ∀ y, b2 (b1 (y % 256)) < 128 := fun y => (fin3 ⟨y % 256, by omega⟩).2.1
  have h0 := h x
  have h1 := h (x / 256)
  have h2 := h (x / 256 / 256)
  have h3 := h (x / 256 / 256 / 256)
  have h4 := h (x / 256 / 256 / 256 / 256)
  have h5 := h (x / 256 / 256 / 256 / 256 / 256)
  have h6 := h (x / 256 / 256 / 256 / 256 / 256 / 256)
  have h7 := h (x / 256 / 256 / 256 / 256 / 256 / 256 / 256)
  omega
theorem e1 (x : Nat) (hx : x < 18446744073709551616) : IntKind.u64.wrap (bits .and .u64 ((x : Int) / 2) 6148914691236517205 + bits .and .u64 (x : Int) 6148914691236517205) = ((st1 8 x : Nat) : Int) := by
  have h1 := andN (x / 2) 6148914691236517205 (by omega) (by omega)
  have h2 := andN x 6148914691236517205 (by omega) (by omega)
  have h3 : ((x : Int) / 2) = ((x / 2 : Nat) : Int) := by omega
  rw [h3]
  have h4 := s1_lt x
  unfold st1 at h4 ⊢
  rw [mk55] at h4 ⊢
  simp only [Int.cast_ofNat_Int] at h1 h2
  rw [h1, h2, ← wrapN _ h4]
  congr 1
theorem e2 (s : Nat) (hs : s < 18446744073709551616) (h4 : st2 8 s < 18446744073709551616) : IntKind.u64.wrap (bits .and .u64 ((s : Int) / 4) 3689348814741910323 + bits .and .u64 (s : Int) 3689348814741910323) = ((st2 8 s : Nat) : Int) := by
  have h1 := andN (s / 4) 3689348814741910323 (by omega) (by omega)
  have h2 := andN s 3689348814741910323 (by omega) (by omega)
  have h3 : ((s : Int) / 4) = ((s / 4 : Nat) : Int) := by omega
  rw [h3]
  unfold st2 at h4 ⊢
  rw [mk33] at h4 ⊢
  simp only [Int.cast_ofNat_Int] at h1 h2
  rw [h1, h2, ← wrapN _ h4]
  congr 1
theorem e3 (s : Nat) (hs : s < 9223372036854775808) : bits .and .u64 (IntKind.u64.wrap ((s : Int) / 16 + (s : Int))) 1085102592571150095 = ((st3 8 s : Nat) : Int) := by
  have h3 : ((s : Int) / 16 + (s : Int)) = ((s / 16 + s : Nat) : Int) := by omega
  rw [h3, wrapN _ (by omega)]
  have h1 := andN (s / 16 + s) 1085102592571150095 (by omega) (by omega)
  simp only [Int.cast_ofNat_Int] at h1
  rw [h1]
  unfold st3
  rw [mk0f]
theorem and127 (u : Nat) (hu : u < 9223372036854775808) : bits .and .i64 (wrap64 (u : Int)) 127 = ((u % 128 : Nat) : Int) := by
  have h0 : wrap64 (u : Int) = (u : Int) := by unfold wrap64; omega
  rw [h0]
  have h1 : bits .and .i64 (u : Int) 127 = IntKind.i64.wrap (((BitVec.ofInt 64 (u : Int) &&& BitVec.ofInt 64 127 : BitVec 64).toNat : Nat) : Int) := rfl
  have h2 : BitVec.ofInt 64 (u : Int) = BitVec.ofNat 64 u := by simp
  have h3 : (BitVec.ofInt 64 127 : BitVec 64).toNat = 127 := by decide
  have h4 : (BitVec.ofNat 64 u).toNat = u := by rw [BitVec.toNat_ofNat]; exact Nat.mod_eq_of_lt (by omega)
  rw [h1, h2, BitVec.toNat_and, h3, h4, show (127 : Nat) = 2 ^ 7 - 1 from rfl, Nat.and_two_pow_sub_one_eq_mod]
  simp [IntKind.wrap, IntKind.bits, IntKind.signed]
  omega
theorem e4 (x : Nat) : bits .and .i64 (wrap64 (IntKind.u64.wrap (IntKind.u64.wrap (IntKind.u64.wrap ((st3 8 (st2 8 (st1 8 x)) : Nat) + ((st3 8 (st2 8 (st1 8 x)) : Nat) : Int) / 256) + IntKind.u64.wrap ((st3 8 (st2 8 (st1 8 x)) : Nat) + ((st3 8 (st2 8 (st1 8 x)) : Nat) : Int) / 256) / 65536) + IntKind.u64.wrap (IntKind.u64.wrap ((st3 8 (st2 8 (st1 8 x)) : Nat) + ((st3 8 (st2 8 (st1 8 x)) : Nat) : Int) / 256) + IntKind.u64.wrap ((st3 8 (st2 8 (st1 8 x)) : Nat) + ((st3 8 (st2 8 (st1 8 x)) : Nat) : Int) / 256) / 65536) / 4294967296))) 127 = (bc 64 x : Int) := by
  obtain ⟨h1, h2⟩ := pop_all x _ _ _ rfl rfl rfl
  generalize st3 8 (st2 8 (st1 8 x)) = s at h1 h2 ⊢
  have a1 : ((s : Int) + (s : Int) / 256) = ((s + s / 256 : Nat) : Int) := by omega
  rw [a1, wrapN _ (by omega)]
  generalize s + s / 256 = y at h1 h2 ⊢
  have a2 : ((y : Int) + (y : Int) / 65536) = ((y + y / 65536 : Nat) : Int) := by omega
  rw [a2, wrapN _ (by omega)]
  generalize y + y / 65536 = z at h1 h2 ⊢
  have a3 : ((z : Int) + (z : Int) / 4294967296) = ((z + z / 4294967296 : Nat) : Int) := by omega
  rw [a3, wrapN _ (by omega), and127 _ h2, h1]
set_option maxHeartbeats 400000 in
theorem ones_any (x : Nat) (w : World) (hx : (x : Int) < 18446744073709551616) :
    Calls Try.prog 22 #[.int .u64 x] w fun e w' => e = .returned (.int .i64 (bc 64 x)) ∧ w' = w := by
  have hx' : x < 18446744073709551616 := by omega
  have HX : Hid (x < 18446744073709551616) := hx'
  clear hx'
  go_enter Try.func22, Try.ntmps22
  go_wp2_with fail
  go_ret
  refine ⟨ret_int ?_, rfl⟩
  rw [e1 x HX.out, e2 _ (s1_lt x) (s2_lt x), e3 _ (s2_lt7 x)]
  exact e4 x
end Go.Proofs.Ytomeocofnbnegaa
