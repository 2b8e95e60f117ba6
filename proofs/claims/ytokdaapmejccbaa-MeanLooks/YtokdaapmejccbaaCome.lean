import Derived.Test.YtokdaapmejccbaaRch
import Derived.Lib.BufferMore
import Derived.Lib.BufferWrite
namespace Go.Proofs.Ytokdaapmejccbaa
open Go.RowKit
set_option linter.unusedVariables false
theorem gr_refl (B : Nat) (w : World) : w.grownBy w (some B) := ⟨rfl, rfl, rfl, Nat.le_refl _, fun _ _ _ => rfl⟩
theorem gr_trans {B : Nat} {w w1 w2 : World} (h : w.grownBy w1 (some B)) (h2 : w1.grownBy w2 (some B)) : w.grownBy w2 (some B) :=
  ⟨h2.os.trans h.os, h2.tape.trans h.tape, h2.output.trans h.output, Nat.le_trans h.size h2.size, fun k hk hne => (h2.block k (Nat.lt_of_lt_of_le hk h.size) hne).trans (h.block k hk hne)⟩
theorem gr_alloc {B : Nat} {w w1 : World} (h : w.grownBy w1 (some B)) (o : Obj) : w.grownBy (w1.alloc o) (some B) :=
  ⟨h.os, h.tape, h.output, Nat.le_trans h.size (by simp), fun k hk hne => (Below.heap_alloc w1 o k (Nat.lt_of_lt_of_le hk h.size)).trans (h.block k hk hne)⟩
theorem gr_below {B : Nat} {w w1 w2 : World} (h : w.grownBy w1 (some B)) (hb : Below w1.heap.size w1 w2) : w.grownBy w2 (some B) :=
  ⟨hb.os.trans h.os, hb.tape.trans h.tape, hb.output.trans h.output, Nat.le_trans h.size hb.size, fun k hk hne => (hb.block k (Nat.lt_of_lt_of_le hk h.size)).trans (h.block k hk hne)⟩
/-- Marks in memory. -/
def mcs (m : List Bool) : Array Value := (m.map Value.bool).toArray
def Mk (W : World) (B : Nat) (m : List Bool) : Prop := BoxN W B 4 (mcs m)
theorem Mk.cell {W : World} {B : Nat} {m : List Bool} (h : Mk W B m) {i : Nat} {b : Bool} (hb : m[i]? = some b) : W.cell? ⟨B, i, none⟩ = some (.bool b) := by
  rw [BoxN.cell h]; simp [mcs, hb]
theorem Mk.frozen {W : World} {B : Nat} {m : List Bool} (h : Mk W B m) (i : Nat) : W.frozen? ⟨B, i, none⟩ = false := by
  simp [World.frozen?, show W.heap[B]? = _ from h]
theorem Mk.set {W : World} {B : Nat} {m : List Bool} (h : Mk W B m) (i : Nat) : Mk (W.setCell ⟨B, i, none⟩ (.bool true)) B (m.set i true) := by
  have := Go.Lib.heap_setCell_same (w := W) (b := B) (i := i) h (.bool true)
  unfold Mk BoxN
  rw [this]
  rw [show (mcs m).setIfInBounds i (.bool true) = mcs (m.set i true) from by unfold mcs; simp [List.map_set]]
/-- The grammar's blocks stay, B apart. -/
theorem Gr.In.gr {n B : Nat} {A W : World} {g : Gr} (h : g.In n A) (hg : A.grownBy W (some B)) (hn : n ≤ A.heap.size) (hB : n ≤ B) : g.In n W :=
  h.below ⟨hg.os, hg.tape, hg.output, hg.size, fun k hk => hg.block k (Nat.lt_of_lt_of_le hk hn) (fun e => by cases e; omega)⟩
theorem Mk.lt {W : World} {B : Nat} {m : List Bool} (h : Mk W B m) : B < W.heap.size := BoxN.lt h
theorem bool_of {m : List Bool} {i : Nat} (h : i < m.length) : ∃ b, m[i]? = some b := ⟨_, List.getElem?_eq_getElem h⟩
end Go.Proofs.Ytokdaapmejccbaa
