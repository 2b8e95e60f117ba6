import Derived.Test.YtediipndkejnkaaUnclass
namespace Go.Proofs.Ytediipndkejnkaa
open Go.RowKit
/-- Pairs of numbers as cells. -/
def pcs (l : List (Nat × Nat)) : List Value := l.flatMap fun x => [.int .i64 (x.1 : Int), .int .i64 (x.2 : Int)]
theorem pcs_app (l m : List (Nat × Nat)) : pcs (l ++ m) = pcs l ++ pcs m := by simp [pcs]
theorem pcs_len (l : List (Nat × Nat)) : (pcs l).length = l.length * 2 := by
  induction l with
  | nil => rfl
  | cons a l ih => rw [show pcs (a :: l) = [.int .i64 (a.1 : Int), .int .i64 (a.2 : Int)] ++ pcs l from rfl, List.length_append, ih]; simp; omega
/-- A byte lies in one of the pairs. -/
def hit (l : List (Nat × Nat)) (b : Nat) : Bool := l.any fun x => decide (x.1 ≤ b) && decide (b ≤ x.2)
/-- The set of the pairs. -/
def setOf (l : List (Nat × Nat)) : BitVec 256 := upto (hit l) 256
theorem setOf_nil : setOf [] = 0#256 := by
  apply set_ext; intro i hi
  unfold setOf; rw [getLsbD_upto _ _ _ hi]; simp [hit]
theorem setOf_snoc (l : List (Nat × Nat)) (a b : Nat) : setOf (l ++ [(a, b)]) = setOf l ||| rng a b := by
  apply set_ext; intro i hi
  rw [BitVec.getLsbD_or, rng_bit _ _ i hi]
  unfold setOf
  rw [getLsbD_upto _ _ _ hi, getLsbD_upto _ _ _ hi]
  simp [hit, hi]
theorem setOf_ne (l : List (Nat × Nat)) (n : Bool) : upto (fun b => hit l b != n) 256 = if n then ~~~(setOf l) else setOf l := by
  apply set_ext; intro i hi
  rw [getLsbD_upto _ _ _ hi]
  cases n
  · simp only [Bool.false_eq_true, if_false]
    unfold setOf; rw [getLsbD_upto _ _ _ hi]; simp [hi]
  · simp only [if_true]
    rw [BitVec.getLsbD_not]
    unfold setOf; rw [getLsbD_upto _ _ _ hi]; simp [hi]
end Go.Proofs.Ytediipndkejnkaa
