import Derived.Lib.ItoaMem
namespace Go.Proofs.YtediipndkejnkaaDoor
open Go Go.Lib

/-- A byte that is a digit. -/
def isD (b : UInt8) : Bool := decide (48 ≤ b.toNat) && decide (b.toNat ≤ 57)
/-- The number that digits say. -/
def val (l : List UInt8) : Nat := l.foldl (fun n b => 10 * n + (b.toNat - 48)) 0
theorem val_snoc (l : List UInt8) (c : UInt8) : val (l ++ [c]) = 10 * val l + (c.toNat - 48) := by simp [val]
theorem isD_iff (c : UInt8) : isD c = true ↔ 48 ≤ c.toNat ∧ c.toNat ≤ 57 := by simp [isD]
theorem val_lt_rev (l : List UInt8) (h : l.reverse.all isD = true) : val l.reverse < 10 ^ l.length := by
  induction l with
  | nil => simp [val]
  | cons c l ih =>
    simp only [List.reverse_cons, List.all_append, Bool.and_eq_true, List.all_cons, List.all_nil, Bool.and_true] at h
    have h1 := ih h.1
    have h2 := (isD_iff c).1 h.2
    rw [List.reverse_cons, val_snoc, List.length_cons, Nat.pow_succ]
    omega
theorem val_lt (l : List UInt8) (h : l.all isD = true) : val l < 10 ^ l.length := by
  have := val_lt_rev l.reverse (by simpa using h)
  simpa using this
theorem val_lt9 (l : List UInt8) (h : l.all isD = true) (hl : l.length ≤ 9) : val l < 1000000000 :=
  Nat.lt_of_lt_of_le (val_lt l h) (Nat.le_trans (Nat.pow_le_pow_right (by decide) hl) (by decide))

/-- A text that is a number: one to nine digits, no nought ahead but of 0 alone. -/
def isN (l : List UInt8) : Bool := decide (l.length ≠ 0) && decide (l.length ≤ 9) && (decide (l.headD 0 ≠ 48) || decide (l.length ≤ 1)) && l.all isD
def undN (l : List UInt8) : Int := if isN l then (val l : Int) else 0
def undE (l : List UInt8) : Int := if isN l then 0 else 3

theorem isN_iff (l : List UInt8) : isN l = true ↔ l.length ≠ 0 ∧ l.length ≤ 9 ∧ (l.headD 0 ≠ 48 ∨ l.length ≤ 1) ∧ l.all isD = true := by
  simp [isN, and_assoc]

/-- What decimal digits say. -/
theorem dec_all (u : Nat) : (decDigits u).all isD = true := by
  induction u using Nat.strongRecOn with
  | _ u ih =>
    rw [decDigits]
    by_cases h : u < 10
    · rw [dif_pos h]
      simp [isD]
      omega
    · rw [dif_neg h, List.all_append, ih (u / 10) (by omega)]
      simp [isD]
      omega
theorem dec_val (u : Nat) : val (decDigits u) = u := by
  induction u using Nat.strongRecOn with
  | _ u ih =>
    rw [decDigits]
    by_cases h : u < 10
    · rw [dif_pos h]
      simp [val]
      omega
    · rw [dif_neg h, val_snoc, ih (u / 10) (by omega)]
      simp
      omega
theorem dec_ne (u : Nat) : decDigits u ≠ [] := by
  rw [decDigits]
  by_cases h : u < 10
  · rw [dif_pos h]; simp
  · rw [dif_neg h]; simp
theorem dec_len_pos (u : Nat) : 0 < (decDigits u).length := by
  have := dec_ne u
  cases h : decDigits u with
  | nil => exact absurd h this
  | cons a l => simp
/-- No nought stands ahead of a number from 1 on. -/
theorem dec_head (u : Nat) (h0 : u ≠ 0) : (decDigits u).headD 0 ≠ 48 := by
  induction u using Nat.strongRecOn with
  | _ u ih =>
    rw [decDigits]
    by_cases h : u < 10
    · rw [dif_pos h]
      simp only [List.headD_cons]
      intro e
      have := congrArg UInt8.toNat e
      simp at this
      omega
    · rw [dif_neg h]
      have := ih (u / 10) (by omega) (by omega)
      cases hd : decDigits (u / 10) with
      | nil => exact absurd hd (dec_ne _)
      | cons a l => rw [hd] at this; simpa using this
theorem dec_len_le (u k : Nat) (hk : 1 ≤ k) (h : u < 10 ^ k) : (decDigits u).length ≤ k := by
  induction k generalizing u with
  | zero => omega
  | succ k ih =>
    rw [decDigits]
    by_cases hu : u < 10
    · rw [dif_pos hu]; simp
    · rw [dif_neg hu, List.length_append, List.length_singleton]
      have h1 : 1 ≤ k := by
        rcases Nat.eq_zero_or_pos k with h0 | h0
        · subst h0; simp at h; omega
        · exact h0
      have := ih (u / 10) h1 (by rw [Nat.pow_succ] at h; omega)
      omega
theorem dec_lt (u : Nat) : u < 10 ^ (decDigits u).length := by
  have := val_lt _ (dec_all u)
  rwa [dec_val] at this
theorem dec_inj (u v : Nat) (h : decDigits u = decDigits v) : u = v := by
  rw [← dec_val u, ← dec_val v, h]
theorem dec_len_mono (u v : Nat) (h : (decDigits u).length < (decDigits v).length) : u < v := by
  rcases Nat.lt_or_ge u v with h1 | h1
  · exact h1
  · exfalso
    have h2 := dec_lt u
    have := dec_len_le v (decDigits u).length (dec_len_pos u) (by omega)
    omega
/-- A number from 0 to 999999999 is read as it was. -/
theorem isN_dec (u : Nat) (h : u < 1000000000) : isN (decDigits u) = true := by
  rw [isN_iff]
  refine ⟨by have := dec_len_pos u; omega, dec_len_le u 9 (by omega) (by omega), ?_, dec_all u⟩
  by_cases h0 : u = 0
  · right; subst h0; rw [decDigits, dif_pos (by omega)]; simp
  · left; exact dec_head u h0
theorem isN_dec_big (u : Nat) (h : 1000000000 ≤ u) : isN (decDigits u) = false := by
  rw [Bool.eq_false_iff]
  intro hn
  have h1 := ((isN_iff _).1 hn).2.1
  have h2 := dec_lt u
  have h3 := Nat.pow_le_pow_right (show 0 < 10 by omega) h1
  omega
theorem isN_minus (l : List UInt8) : isN (45 :: l) = false := by
  rw [Bool.eq_false_iff]
  intro hn
  have := ((isN_iff _).1 hn).2.2.2
  simp [isD] at this
theorem und_in (a : Int) (h0 : 0 ≤ a) (h1 : a < 1000000000) : undN (itoa a) = a ∧ undE (itoa a) = 0 := by
  obtain ⟨u, rfl⟩ := Int.eq_ofNat_of_zero_le h0
  rw [itoa_nonneg, undN, undE, if_pos (isN_dec u (by omega)), if_pos (isN_dec u (by omega)), dec_val]
  exact ⟨rfl, rfl⟩
theorem und_out (a : Int) (h : a < 0 ∨ 999999999 < a) : undN (itoa a) = 0 ∧ undE (itoa a) = 3 := by
  have hn : isN (itoa a) = false := by
    rcases h with h | h
    · unfold itoa; rw [if_pos h]; exact isN_minus _
    · unfold itoa; rw [if_neg (by omega)]; exact isN_dec_big _ (by omega)
  rw [undN, undE, hn]
  exact ⟨rfl, rfl⟩
theorem itoa_inj (a b : Int) (h : itoa a = itoa b) : a = b := by
  unfold itoa at h
  have hd : ∀ u : Nat, ∀ l, decDigits u ≠ 45 :: l := by
    intro u l e
    have := dec_all u
    rw [e] at this
    simp [isD] at this
  by_cases ha : a < 0 <;> by_cases hb : b < 0
  · rw [if_pos ha, if_pos hb] at h
    have := dec_inj _ _ (List.cons.inj h).2
    omega
  · rw [if_pos ha, if_neg hb] at h; exact absurd h.symm (hd _ _)
  · rw [if_neg ha, if_pos hb] at h; exact absurd h (hd _ _)
  · rw [if_neg ha, if_neg hb] at h
    have := dec_inj _ _ h
    omega
theorem itoa_len_lt (a b : Int) (ha : 0 ≤ a) (hb : 0 ≤ b) (h : (itoa a).length < (itoa b).length) : a < b := by
  unfold itoa at h
  rw [if_neg (by omega), if_neg (by omega)] at h
  have := dec_len_mono _ _ h
  omega
end Go.Proofs.YtediipndkejnkaaDoor
