import Derived.WalkKit
namespace Go.Proofs.YtomeocofnbnegaaDoor

def isC (b : UInt8) : Bool := b.toNat / 64 == 2
/-- How many bytes a rune has that begins with b; 1 too where none does. -/
def kind (b : UInt8) : Nat := if b.toNat < 0x80 then 1 else if b.toNat / 32 == 6 then 2 else if b.toNat / 16 == 14 then 3 else if b.toNat / 8 == 30 then 4 else 1
def ok2 (b0 b1 : UInt8) : Bool := isC b1 && decide (b0.toNat % 32 * 64 + b1.toNat % 64 ≥ 0x80)
def c3 (b0 b1 b2 : UInt8) : Nat := b0.toNat % 16 * 4096 + b1.toNat % 64 * 64 + b2.toNat % 64
def c4 (b0 b1 b2 b3 : UInt8) : Nat := b0.toNat % 8 * 262144 + b1.toNat % 64 * 4096 + b2.toNat % 64 * 64 + b3.toNat % 64
def ok3 (b0 b1 b2 : UInt8) : Bool := isC b1 && isC b2 && (decide (c3 b0 b1 b2 ≥ 0x800) && Utf8.valid (c3 b0 b1 b2))
def ok4 (b0 b1 b2 b3 : UInt8) : Bool := isC b1 && isC b2 && isC b3 && (decide (c4 b0 b1 b2 b3 ≥ 0x10000) && Utf8.valid (c4 b0 b1 b2 b3))
/-- How many bytes the first sign of a text has whose first byte is of kind n. -/
def widK (n : Nat) (b0 : UInt8) (t : List UInt8) : Nat :=
  if n = 2 then (match t with | b1 :: _ => if ok2 b0 b1 then 2 else 1 | [] => 1)
  else if n = 3 then (match t with | b1 :: b2 :: _ => if ok3 b0 b1 b2 then 3 else 1 | _ => 1)
  else if n = 4 then (match t with | b1 :: b2 :: b3 :: _ => if ok4 b0 b1 b2 b3 then 4 else 1 | _ => 1)
  else 1
def wid : List UInt8 → Nat
  | [] => 0
  | b0 :: t => widK (kind b0) b0 t

theorem widK_pos (n : Nat) (b : UInt8) (t : List UInt8) : 1 ≤ widK n b t := by
  unfold widK
  repeat' split
  all_goals exact Nat.le_of_ble_eq_true rfl
theorem wid_pos (b : UInt8) (t : List UInt8) : 1 ≤ wid (b :: t) := widK_pos _ _ _
theorem wid_le (b : UInt8) (t : List UInt8) : wid (b :: t) ≤ t.length + 1 := by
  show widK (kind b) b t ≤ _
  generalize kind b = n
  unfold widK
  repeat' split
  all_goals simp_all
theorem isC_ten : isC 10 = false := by decide
theorem ok2_ten (a : UInt8) : ok2 a 10 = false := by simp [ok2, isC_ten]
theorem ok3_ten1 (a b : UInt8) : ok3 a 10 b = false := by simp [ok3, isC_ten]
theorem ok3_ten2 (a b : UInt8) : ok3 a b 10 = false := by simp [ok3, isC_ten]
theorem ok4_ten1 (a b c : UInt8) : ok4 a 10 b c = false := by simp [ok4, isC_ten]
theorem ok4_ten2 (a b c : UInt8) : ok4 a b 10 c = false := by simp [ok4, isC_ten]
theorem ok4_ten3 (a b c : UInt8) : ok4 a b c 10 = false := by simp [ok4, isC_ten]
/-- What stands behind a line's end makes no difference. -/
theorem wid_line (b : UInt8) (t r : List UInt8) : wid (b :: (t ++ 10 :: r)) = wid (b :: t) := by
  show widK (kind b) b _ = widK (kind b) b t
  generalize kind b = n
  unfold widK
  match t with
  | [] => cases r with
    | nil => simp [ok2_ten]
    | cons c r => cases r <;> simp [ok2_ten, ok3_ten1, ok4_ten1]
  | [b1] => cases r <;> simp [ok3_ten2, ok4_ten2]
  | [b1, b2] => simp [ok4_ten3]
  | b1 :: b2 :: b3 :: t => simp
theorem wid_ten (r : List UInt8) : wid (10 :: r) = 1 := by
  show widK (kind 10) 10 r = 1
  rw [show kind 10 = 1 from by decide]
  simp [widK]
/-- The first sign is the same where the text ends behind it. -/
theorem wid_take (b : UInt8) (t : List UInt8) (m : Nat) (h : wid (b :: t) ≤ m + 1) : wid (b :: t.take m) = wid (b :: t) := by
  revert h
  show widK (kind b) b t ≤ m + 1 → widK (kind b) b (t.take m) = widK (kind b) b t
  generalize kind b = n
  unfold widK
  match t with
  | [] => simp
  | [b1] => match m with
    | 0 => simp; repeat' split
           all_goals simp_all
    | m + 1 => simp
  | [b1, b2] => match m with
    | 0 => simp; repeat' split
           all_goals simp_all
    | 1 => simp; repeat' split
           all_goals simp_all
    | m + 2 => simp
  | b1 :: b2 :: b3 :: t => match m with
    | 0 => simp; repeat' split
           all_goals simp_all
    | 1 => simp; repeat' split
           all_goals simp_all
    | 2 => simp; repeat' split
           all_goals simp_all
    | m + 3 => simp
theorem get_of_drop (s : ByteArray) (i k : Nat) (b : UInt8) (h : (s.data.toList.drop i)[k]? = some b) : s.get! (i + k) = b ∧ i + k < s.size := by
  rw [List.getElem?_drop] at h
  obtain ⟨h1, h2⟩ := List.getElem?_eq_some_iff.1 h
  have h3 : i + k < s.data.size := by simpa using h1
  refine ⟨?_, h3⟩
  rw [← h2]
  show s.data[i + k]! = _
  rw [getElem!_pos s.data (i + k) h3]
  rfl
theorem size_of_drop (s : ByteArray) (i : Nat) : (s.data.toList.drop i).length = s.size - i := by
  rw [List.length_drop]; rfl
theorem snd_ite {α : Type} (p : Bool) (a b : α) (c d : Nat) : (if p = true then (a, c) else (b, d)).2 = if p = true then c else d := by cases p <;> rfl
/-- The model's own step over a text is by signs. -/
theorem decode_wid (s : ByteArray) (i : Nat) (h : i < s.size) : (Utf8.decode s i).2 = wid (s.data.toList.drop i) := by
  have hl := size_of_drop s i
  match hd : s.data.toList.drop i with
  | [] => rw [hd] at hl; simp at hl; omega
  | b0 :: t =>
    rw [hd] at hl
    have g0 := get_of_drop s i 0 b0 (by rw [hd]; rfl)
    show _ = widK (kind b0) b0 t
    have e0 : s.get! (i + 0) = b0 := g0.1
    unfold Utf8.decode
    simp only [e0]
    by_cases k1 : b0.toNat < 0x80
    · rw [if_pos k1]; simp [kind, k1, widK]
    rw [if_neg k1]
    by_cases k2 : (b0.toNat / 32 == 6) = true
    · have hk : kind b0 = 2 := by unfold kind; rw [if_neg k1, if_pos k2]
      have k3 : (b0.toNat / 16 == 14) = false := by simp at k2 ⊢; omega
      have k4 : (b0.toNat / 8 == 30) = false := by simp at k2 ⊢; omega
      rw [hk]
      match t, hl, hd with
      | [], hl, hd =>
        have n1 : ¬ (i + 1 < s.size) := by simp at hl; omega
        simp [k2, k3, k4, n1, widK]
      | b1 :: r, hl, hd =>
        have g1 := get_of_drop s i 1 b1 (by rw [hd]; rfl)
        simp only [k2, k3, k4, g1.1, g1.2, widK, ok2, isC]
        by_cases c1 : (b1.toNat / 64 == 2) = true
        · simp only [c1]; by_cases c2 : b0.toNat % 32 * 64 + b1.toNat % 64 ≥ 0x80 <;> simp [c2]
        · simp [c1]
    by_cases k3 : (b0.toNat / 16 == 14) = true
    · have hk : kind b0 = 3 := by unfold kind; rw [if_neg k1, if_neg k2, if_pos k3]
      have k4 : (b0.toNat / 8 == 30) = false := by simp at k3 ⊢; omega
      have k2' : (b0.toNat / 32 == 6) = false := by simpa using k2
      rw [hk]
      match t, hl, hd with
      | [], hl, hd =>
        have n1 : ¬ (i + 1 < s.size) := by simp at hl; omega
        simp [k2', k3, k4, n1, widK]
      | [b1], hl, hd =>
        have n1 : ¬ (i + 2 < s.size) := by simp at hl; omega
        simp [k2', k3, k4, n1, widK]
      | b1 :: b2 :: r, hl, hd =>
        have g1 := get_of_drop s i 1 b1 (by rw [hd]; rfl)
        have g2 := get_of_drop s i 2 b2 (by rw [hd]; rfl)
        simp only [k2', k3, k4, g1.1, g1.2, g2.1, g2.2, widK, ok3, isC, c3]
        by_cases c1 : (b1.toNat / 64 == 2) = true
        · by_cases c2 : (b2.toNat / 64 == 2) = true
          · simp only [c1, c2]
            simp only [Bool.true_and, Bool.false_and, decide_true, if_true, if_false, Bool.false_eq_true]
            exact snd_ite _ _ _ _ _
          · simp [c2]
        · simp [c1]
    by_cases k4 : (b0.toNat / 8 == 30) = true
    · have hk : kind b0 = 4 := by unfold kind; rw [if_neg k1, if_neg k2, if_neg k3, if_pos k4]
      have k2' : (b0.toNat / 32 == 6) = false := by simpa using k2
      have k3' : (b0.toNat / 16 == 14) = false := by simpa using k3
      rw [hk]
      match t, hl, hd with
      | [], hl, hd =>
        have n1 : ¬ (i + 1 < s.size) := by simp at hl; omega
        simp [k2', k3', k4, n1, widK]
      | [b1], hl, hd =>
        have n1 : ¬ (i + 2 < s.size) := by simp at hl; omega
        simp [k2', k3', k4, n1, widK]
      | [b1, b2], hl, hd =>
        have n1 : ¬ (i + 3 < s.size) := by simp at hl; omega
        simp [k2', k3', k4, n1, widK]
      | b1 :: b2 :: b3 :: r, hl, hd =>
        have g1 := get_of_drop s i 1 b1 (by rw [hd]; rfl)
        have g2 := get_of_drop s i 2 b2 (by rw [hd]; rfl)
        have g3 := get_of_drop s i 3 b3 (by rw [hd]; rfl)
        simp only [k2', k3', k4, g1.1, g1.2, g2.1, g2.2, g3.1, g3.2, widK, ok4, isC, c4]
        by_cases c1 : (b1.toNat / 64 == 2) = true
        · by_cases c2 : (b2.toNat / 64 == 2) = true
          · by_cases c3 : (b3.toNat / 64 == 2) = true
            · simp only [c1, c2, c3]
              simp only [Bool.true_and, Bool.false_and, decide_true, if_true, if_false, Bool.false_eq_true]
              exact snd_ite _ _ _ _ _
            · simp [c3]
          · simp [c2]
        · simp [c1]
    · have hk : kind b0 = 1 := by unfold kind; rw [if_neg k1, if_neg k2, if_neg k3, if_neg k4]
      have k2' : (b0.toNat / 32 == 6) = false := by simpa using k2
      have k3' : (b0.toNat / 16 == 14) = false := by simpa using k3
      have k4' : (b0.toNat / 8 == 30) = false := by simpa using k4
      rw [hk]
      simp [k2', k3', k4', widK]
end Go.Proofs.YtomeocofnbnegaaDoor
