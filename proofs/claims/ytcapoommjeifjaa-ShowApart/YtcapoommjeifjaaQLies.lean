import Derived.Test.YtcapoommjeifjaaQWords
import Derived.Test.YtcapoommjeifjaaQHas
import Derived.WalkKit
import Derived.WalkSpells
import Derived.WalkLawsBesides
import Derived.Deep.RegionWith
import Derived.BigRegion
namespace Go.Proofs.Ytcapoommjeifjaa
open Go.RowKit
attribute [local go_sem] setCell_drewN alloc_drewN
/-- Block number N is an array of cells of a set, and may be written. -/
def Lies (w : World) (N : Nat) (A : Array Value) : Prop := w.heap[N]? = some (.cells A 24 (0, 0))
theorem Lies.cell {w : World} {N : Nat} {A : Array Value} (h : Lies w N A) (o : Nat) : w.cell? ⟨N, o, none⟩ = A[o]? := by
  unfold Lies at h
  simp [World.cell?, h]
theorem Lies.frozen {w : World} {N : Nat} {A : Array Value} (h : Lies w N A) (o : Nat) : w.frozen? ⟨N, o, none⟩ = false := by
  unfold Lies at h
  simp [World.frozen?, h]
theorem Lies.lt {w : World} {N : Nat} {A : Array Value} (h : Lies w N A) : N < w.heap.size := by
  unfold Lies at h
  rcases Nat.lt_or_ge N w.heap.size with h1 | h1
  · exact h1
  · rw [Array.getElem?_eq_none h1] at h; cases h
theorem Lies.set {w : World} {N : Nat} {A : Array Value} (h : Lies w N A) (i : Nat) (v : Value) : Lies (w.setCell ⟨N, i, none⟩ v) N (A.setIfInBounds i v) := by
  unfold Lies at h ⊢
  simp [World.setCell, Array.getElem?_modify, h]
theorem Lies.other {w : World} {N M : Nat} {A : Array Value} (h : Lies w N A) (i : Nat) (v : Value) (hne : N ≠ M) : Lies (w.setCell ⟨M, i, none⟩ v) N A := by
  unfold Lies at h ⊢
  rw [Below.heap_setCell _ _ _ _ (by simpa using hne)]; exact h
theorem Lies.below {W w' : World} {N B : Nat} {A : Array Value} (h : Lies W N A) (hb : Below B W w') (hN : N < B) : Lies w' N A := by
  unfold Lies at h ⊢
  rw [hb.block N hN]; exact h
theorem Lies.alloc {w : World} {N : Nat} {A : Array Value} (h : Lies w N A) (o : Obj) : Lies (w.alloc o) N A := by
  have := h.lt
  unfold Lies at h ⊢
  rw [Below.heap_alloc _ _ _ this]; exact h
theorem Lies.drew {w : World} {N : Nat} {A : Array Value} (h : Lies w N A) : Lies w.drew N A := h
theorem Lies.drewN {w : World} {N : Nat} {A : Array Value} (h : Lies w N A) (n : Nat) : Lies (w.drewN n) N A := h
theorem Lies.new (w : World) (A : Array Value) : Lies (w.alloc (.cells A 24)) w.heap.size A := by
  show (w.heap.push _)[w.heap.size]? = _
  simp

theorem wrap_mod (x : Int) : IntKind.u64.wrap x = x % 18446744073709551616 := by
  simp [IntKind.wrap, IntKind.bits, IntKind.signed]
theorem wd_add_two (S : BitVec 256) (k : Nat) (hk : k < 256) (h : S.getLsbD k = false) : IntKind.u64.wrap (wd S (k / 64) + IntKind.u64.wrap (2 ^ (k % 64))) = wd (S ||| BitVec.twoPow 256 k) (k / 64) := by
  rw [← wd_or_two_same S k hk, wrap_two _ (by omega)]
  unfold wd
  rw [bits_or_bv]
  generalize hv : S.extractLsb' (64 * (k / 64)) 64 = v
  have hz : v.getLsbD (k % 64) = false := by
    rw [← hv, BitVec.getLsbD_extractLsb', show 64 * (k / 64) + k % 64 = k from by omega, h]; simp
  have ha : v &&& BitVec.twoPow 64 (k % 64) = 0#64 := by
    apply BitVec.eq_of_getLsbD_eq; intro i hi
    rw [BitVec.getLsbD_and, BitVec.getLsbD_twoPow]
    by_cases e : k % 64 = i
    · rw [← e, hz]; simp
    · simp [e]
  rw [← BitVec.add_eq_or_of_and_eq_zero _ _ ha, BitVec.toNat_add, wrap_mod]
  omega
theorem upto_step_yes (p : Nat → Bool) (k : Nat) (h : p k = true) : upto p k ||| BitVec.twoPow 256 k = upto p (k + 1) := by
  conv => rhs; unfold upto
  rw [if_pos h]
theorem upto_step_no (p : Nat → Bool) (k : Nat) (h : p k = false) : upto p k = upto p (k + 1) := by
  conv => rhs; unfold upto
  rw [if_neg (by simp [h])]
end Go.Proofs.Ytcapoommjeifjaa
