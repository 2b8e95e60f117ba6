import Derived.Test.YtomeocofnbnegaaBits
namespace Go.Proofs.Ytomeocofnbnegaa

def mk (c : Nat) : Nat → Nat
  | 0 => 0
  | n + 1 => 256 * mk c n + c
theorem land_split (a m r c : Nat) (hr : r < 256) (hc : c < 256) : (256 * a + r) &&& (256 * m + c) = 256 * (a &&& m) + (r &&& c) := by
  apply Nat.eq_of_testBit_eq
  intro j
  have h1 := Nat.testBit_two_pow_mul_add (i := 8) a hr j
  have h2 := Nat.testBit_two_pow_mul_add (i := 8) m hc j
  have h3 := Nat.testBit_two_pow_mul_add (i := 8) (a &&& m) (b := r &&& c) (Nat.and_lt_two_pow r hc) j
  rw [Nat.testBit_and]
  simp only [Nat.reducePow] at h1 h2 h3
  rw [h1, h2, h3]
  split <;> simp

def b1 (r : Nat) : Nat := (r / 2 &&& 0x55) + (r &&& 0x55)
def b2 (r : Nat) : Nat := (r / 4 &&& 0x33) + (r &&& 0x33)
def b3 (r : Nat) : Nat := (r / 16 + r) &&& 0x0f
def st1 (n x : Nat) : Nat := (x / 2 &&& mk 0x55 n) + (x &&& mk 0x55 n)
def st2 (n x : Nat) : Nat := (x / 4 &&& mk 0x33 n) + (x &&& mk 0x33 n)
def st3 (n x : Nat) : Nat := (x / 16 + x) &&& mk 0x0f n

theorem fin1 : ∀ r : Fin 256, ((128 + r.val / 2) &&& 0x55) = (r.val / 2 &&& 0x55) := by decide +kernel
theorem fin2 : ∀ q : Fin 4, ∀ r : Fin 256, ((64 * q.val + r.val / 4) &&& 0x33) = (r.val / 4 &&& 0x33) := by decide +kernel

theorem st1_rec (n q r : Nat) (hr : r < 256) : st1 (n + 1) (256 * q + r) = 256 * st1 n q + b1 r := by
  unfold st1 b1
  have e : (256 * q + r) / 2 = 256 * (q / 2) + (128 * (q % 2) + r / 2) := by omega
  have f := fin1 ⟨r, hr⟩
  have g : (128 * (q % 2) + r / 2) &&& 0x55 = r / 2 &&& 0x55 := by
    rcases Nat.mod_two_eq_zero_or_one q with h | h
    · rw [h]; simp
    · rw [h]; exact f
  rw [e, mk, land_split _ _ _ _ (by omega) (by omega), land_split _ _ _ _ hr (by omega), g]
  omega
theorem st2_rec (n q r : Nat) (hr : r < 256) : st2 (n + 1) (256 * q + r) = 256 * st2 n q + b2 r := by
  unfold st2 b2
  have e : (256 * q + r) / 4 = 256 * (q / 4) + (64 * (q % 4) + r / 4) := by omega
  have g := fin2 ⟨q % 4, by omega⟩ ⟨r, hr⟩
  simp only at g
  rw [e, mk, land_split _ _ _ _ (by omega) (by omega), land_split _ _ _ _ hr (by omega), g]
  omega
theorem st3_rec (n q r : Nat) (hr : r < 128) (hq : q % 16 ≤ 4) : st3 (n + 1) (256 * q + r) = 256 * st3 n q + b3 r := by
  unfold st3 b3
  have e : (256 * q + r) / 16 + (256 * q + r) = 256 * (q / 16 + q) + (16 * (q % 16) + r / 16 + r) := by omega
  have g : (16 * (q % 16) + r / 16 + r) &&& 15 = (r / 16 + r) &&& 15 := by
    rw [show (15 : Nat) = 2 ^ 4 - 1 from rfl, Nat.and_two_pow_sub_one_eq_mod, Nat.and_two_pow_sub_one_eq_mod]
    omega
  rw [e, mk, land_split _ _ _ _ (by omega) (by omega), g]

/-- f at each of the n lowest bytes of x. -/
def dg (f : Nat → Nat) : Nat → Nat → Nat
  | 0, _ => 0
  | n + 1, x => 256 * dg f n (x / 256) + f (x % 256)

theorem st1_dg (n x : Nat) : st1 n x = dg b1 n x := by
  induction n generalizing x with
  | zero => simp [st1, mk, dg]
  | succ n ih =>
    have e : x = 256 * (x / 256) + x % 256 := by omega
    conv => lhs; rw [e]
    rw [st1_rec _ _ _ (by omega), ih, dg]
theorem st2_dg (f : Nat → Nat) (hf : ∀ r, r < 256 → f r < 256) (n x : Nat) : st2 n (dg f n x) = dg (fun r => b2 (f r)) n x := by
  induction n generalizing x with
  | zero => simp [st2, mk, dg]
  | succ n ih => rw [dg, st2_rec _ _ _ (hf _ (by omega)), ih, dg]
theorem st3_dg (f : Nat → Nat) (hf : ∀ r, r < 256 → f r < 128 ∧ f r % 16 ≤ 4) (n x : Nat) : st3 n (dg f n x) = dg (fun r => b3 (f r)) n x := by
  induction n generalizing x with
  | zero => simp [st3, mk, dg]
  | succ n ih =>
    have hq : dg f n (x / 256) % 16 ≤ 4 := by
      cases n with
      | zero => simp [dg]
      | succ n => have := (hf (x / 256 % 256) (by omega)).2; rw [dg]; omega
    rw [dg, st3_rec _ _ _ (hf _ (by omega)).1 hq, ih, dg]

/-- How many of the n lowest bits of x are 1. -/
def bc : Nat → Nat → Nat
  | 0, _ => 0
  | n + 1, x => x % 2 + bc n (x / 2)
theorem bc_add (m n x : Nat) : bc (m + n) x = bc m x + bc n (x / 2 ^ m) := by
  induction m generalizing x with
  | zero => simp [bc]
  | succ m ih =>
    rw [show m + 1 + n = (m + n) + 1 from by omega, bc, ih, bc, Nat.div_div_eq_div_mul, ← Nat.pow_succ', Nat.succ_eq_add_one]
    omega
theorem bc8 (x : Nat) : bc 8 (x % 256) = bc 8 x := by
  simp only [bc]; omega
theorem fin3 : ∀ r : Fin 256, b1 r.val < 256 ∧ b2 (b1 r.val) < 128 ∧ b2 (b1 r.val) % 16 ≤ 4 ∧ b3 (b2 (b1 r.val)) = bc 8 r.val ∧ bc 8 r.val ≤ 8 := by decide +kernel
theorem three (x : Nat) : st3 8 (st2 8 (st1 8 x)) = dg (bc 8) 8 x := by
  rw [st1_dg, st2_dg _ (fun r hr => (fin3 ⟨r, hr⟩).1), st3_dg _ (fun r hr => ⟨(fin3 ⟨r, hr⟩).2.1, (fin3 ⟨r, hr⟩).2.2.1⟩)]
  have h : ∀ n x, dg (fun r => b3 (b2 (b1 r))) n x = dg (bc 8) n x := by
    intro n
    induction n with
    | zero => intro x; rfl
    | succ n ih => intro x; rw [dg, dg, ih]; rw [(fin3 ⟨x % 256, by omega⟩).2.2.2.1]
  exact h 8 x
theorem bc64 (x : Nat) : bc 64 x = bc 8 x + (bc 8 (x / 256) + (bc 8 (x / 256 / 256) + (bc 8 (x / 256 / 256 / 256) + (bc 8 (x / 256 / 256 / 256 / 256) + (bc 8 (x / 256 / 256 / 256 / 256 / 256) + (bc 8 (x / 256 / 256 / 256 / 256 / 256 / 256) + bc 8 (x / 256 / 256 / 256 / 256 / 256 / 256 / 256))))))) := by
  have h1 := bc_add 8 56 x
  have h2 := bc_add 8 48 (x / 256)
  have h3 := bc_add 8 40 (x / 256 / 256)
  have h4 := bc_add 8 32 (x / 256 / 256 / 256)
  have h5 := bc_add 8 24 (x / 256 / 256 / 256 / 256)
  have h6 := bc_add 8 16 (x / 256 / 256 / 256 / 256 / 256)
  have h7 := bc_add 8 8 (x / 256 / 256 / 256 / 256 / 256 / 256)
  simp only [Nat.reducePow, Nat.reduceAdd] at h1 h2 h3 h4 h5 h6 h7
  rw [h1, h2, h3, h4, h5, h6, h7]
theorem up1 (x X1 d0 : Nat) (h0 : d0 ≤ 8) (hx : x = 256 * X1 + d0) : x / 256 = X1 := by omega
theorem up2 (x X1 X2 X3 d0 d1 d2 : Nat) (h0 : d0 ≤ 8) (h1 : d1 ≤ 8) (h2 : d2 ≤ 8) (hx : x = 256 * X1 + d0) (hx1 : X1 = 256 * X2 + d1) (hx2 : X2 = 256 * X3 + d2) : (x + X1) / 65536 = X2 + X3 := by omega
theorem up3 (x X1 X2 X3 X4 X5 X6 d0 d1 d2 d3 d4 d5 d6 d7 : Nat) (h0 : d0 ≤ 8) (h1 : d1 ≤ 8) (h2 : d2 ≤ 8) (h3 : d3 ≤ 8) (h4 : d4 ≤ 8) (h5 : d5 ≤ 8) (h6 : d6 ≤ 8)
    (hx : x = 256 * X1 + d0) (hx1 : X1 = 256 * X2 + d1) (hx2 : X2 = 256 * X3 + d2) (hx3 : X3 = 256 * X4 + d3) (hx4 : X4 = 256 * X5 + d4) (hx5 : X5 = 256 * X6 + d5) (hx6 : X6 = 256 * d7 + d6) :
    (x + X1 + (X2 + X3)) / 4294967296 = X4 + X5 + X6 + d7 := by
  have e : x + X1 + (X2 + X3) = 4294967296 * (X4 + X5 + X6 + d7) + (16777216 * (d3 + d4 + d5 + d6) + 65536 * (d2 + d3 + d4 + d5) + 256 * (d1 + d2 + d3 + d4) + (d0 + d1 + d2 + d3)) := by
    subst hx hx1 hx2 hx3 hx4 hx5 hx6; omega
  rw [e]
  omega
theorem sum_up (d0 d1 d2 d3 d4 d5 d6 d7 x y z u : Nat) (h0 : d0 ≤ 8) (h1 : d1 ≤ 8) (h2 : d2 ≤ 8) (h3 : d3 ≤ 8) (h4 : d4 ≤ 8) (h5 : d5 ≤ 8) (h6 : d6 ≤ 8) (h7 : d7 ≤ 8)
    (hx : x = 256 * (256 * (256 * (256 * (256 * (256 * (256 * d7 + d6) + d5) + d4) + d3) + d2) + d1) + d0)
    (hy : y = x + x / 256) (hz : z = y + y / 65536) (hu : u = z + z / 4294967296) : u % 128 = d0 + (d1 + (d2 + (d3 + (d4 + (d5 + (d6 + d7)))))) ∧ u < 9223372036854775808 := by
  generalize hX6 : 256 * d7 + d6 = X6 at hx
  generalize hX5 : 256 * X6 + d5 = X5 at hx
  generalize hX4 : 256 * X5 + d4 = X4 at hx
  generalize hX3 : 256 * X4 + d3 = X3 at hx
  generalize hX2 : 256 * X3 + d2 = X2 at hx
  generalize hX1 : 256 * X2 + d1 = X1 at hx
  rw [up1 x X1 d0 h0 hx] at hy
  rw [hy, up2 x X1 X2 X3 d0 d1 d2 h0 h1 h2 hx hX1.symm hX2.symm] at hz
  rw [hz, up3 x X1 X2 X3 X4 X5 X6 d0 d1 d2 d3 d4 d5 d6 d7 h0 h1 h2 h3 h4 h5 h6 hx hX1.symm hX2.symm hX3.symm hX4.symm hX5.symm hX6.symm] at hu
  have e : u = 128 * (2 * (X1 + X2 + X3 + X4 + X5 + X6 + d7)) + (d0 + (d1 + (d2 + (d3 + (d4 + (d5 + (d6 + d7))))))) := by omega
  refine ⟨by rw [e]; omega, ?_⟩
  have l6 : X6 ≤ 2056 := by omega
  have l5 : X5 ≤ 526344 := by omega
  have l4 : X4 ≤ 134744072 := by omega
  have l3 : X3 ≤ 34494482440 := by omega
  have l2 : X2 ≤ 8830587504648 := by omega
  have l1 : X1 ≤ 2260630401189896 := by omega
  omega
theorem dg8 (f : Nat → Nat) (x : Nat) : dg f 8 x = 256 * (256 * (256 * (256 * (256 * (256 * (256 * f (x / 256 / 256 / 256 / 256 / 256 / 256 / 256 % 256) + f (x / 256 / 256 / 256 / 256 / 256 / 256 % 256)) + f (x / 256 / 256 / 256 / 256 / 256 % 256)) + f (x / 256 / 256 / 256 / 256 % 256)) + f (x / 256 / 256 / 256 % 256)) + f (x / 256 / 256 % 256)) + f (x / 256 % 256)) + f (x % 256) := by
  simp only [dg, Nat.mul_zero, Nat.zero_add]
theorem bc8_le (x : Nat) : bc 8 (x % 256) ≤ 8 := (fin3 ⟨x % 256, by omega⟩).2.2.2.2
theorem pop_all (x y z u : Nat) (hy : y = st3 8 (st2 8 (st1 8 x)) + st3 8 (st2 8 (st1 8 x)) / 256) (hz : z = y + y / 65536) (hu : u = z + z / 4294967296) : u % 128 = bc 64 x ∧ u < 9223372036854775808 := by
  rw [three, dg8] at hy
  have h := sum_up _ _ _ _ _ _ _ _ _ y z u (bc8_le x) (bc8_le (x / 256)) (bc8_le (x / 256 / 256)) (bc8_le (x / 256 / 256 / 256)) (bc8_le (x / 256 / 256 / 256 / 256)) (bc8_le (x / 256 / 256 / 256 / 256 / 256)) (bc8_le (x / 256 / 256 / 256 / 256 / 256 / 256)) (bc8_le (x / 256 / 256 / 256 / 256 / 256 / 256 / 256)) rfl hy hz hu
  refine ⟨?_, h.2⟩
  rw [h.1, bc64]
  simp only [bc8]
end Go.Proofs.Ytomeocofnbnegaa
