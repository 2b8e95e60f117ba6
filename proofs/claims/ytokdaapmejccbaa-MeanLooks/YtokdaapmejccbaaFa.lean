import Derived.Test.YtokdaapmejccbaaMay
import Derived.WalkKit
import Derived.Below
import Derived.Deep.QuietTactic
import Derived.BigQuiet
import Derived.BigRegion
import Derived.Test.YtokdaapmejccbaaQLast
namespace Go.Proofs.Ytokdaapmejccbaa
open Go.RowKit
set_option linter.unusedVariables false
set_option linter.unusedSimpArgs false
theorem suc_any (a b c : Bool) (w : World) : Calls Try.prog 111 #[.agg #[.bool a, .bool b, .bool c]] w fun r W' => r = .returned (.bool (a || b)) ∧ Below w.heap.size w W' := by
  have hA := (Below.refl w.heap.size w).alloc (Nat.le_refl _) (.cells #[.bool a, .bool b, .bool c] 61)
  cases a <;> cases b
  all_goals
    go_enter Try.func111, Try.ntmps111
    go_wp2_with fail
    go_ret
    exact ⟨rfl, hA⟩
theorem again_any (f : Fa) (w : World) : Calls Try.prog 110 #[fval f] w fun r W' => r = .returned (fval (againF f)) ∧ Below w.heap.size w W' := by
  have hA := ((Below.refl w.heap.size w).alloc (Nat.le_refl _) (.cells #[.bool f.1, .bool f.2.1, .bool f.2.2] 61)).alloc (by simp) (.cells #[.bool f.2.2, .bool f.2.1, .bool false] 61)
  obtain ⟨a, b, c⟩ := f
  rw [fval_eq]
  go_enter Try.func110, Try.ntmps110
  go_wp2_with fail
  exact bodyPost_ret (v := fval (againF (a, b, c))) (by simp [results, Try.results110, go_sem, againF, fval_eq]) rfl ⟨rfl, hA⟩
/-- What a cell holds, whatever it be. -/
def cvl (W : World) (a : Addr) : Value := (W.cell? a).getD undef
/-- A box of three cells. -/
def Sl (W : World) (B : Nat) : Prop := ∃ cs : Array Value, BoxN W B 61 cs ∧ cs.size = 3
theorem Sl.c {W : World} {B : Nat} (h : Sl W B) (j : Nat) (hj : j < 3) : W.cell? ⟨B, j, none⟩ = some (cvl W ⟨B, j, none⟩) := by
  obtain ⟨cs, h1, h2⟩ := h
  unfold cvl
  rw [h1.cell j, Array.getElem?_eq_getElem (by omega)]; rfl
theorem Sl.f {W : World} {B : Nat} (h : Sl W B) (j : Nat) : W.frozen? ⟨B, j, none⟩ = false := by
  obtain ⟨cs, h1, h2⟩ := h
  simp [World.frozen?, show W.heap[B]? = _ from h1]
theorem Sl.set {W : World} {B : Nat} (h : Sl W B) (j : Nat) (v : Value) : Sl (W.setCell ⟨B, j, none⟩ v) B := by
  obtain ⟨cs, h1, h2⟩ := h
  exact ⟨cs.setIfInBounds j v, Go.Lib.heap_setCell_same (w := W) (b := B) (i := j) h1 v, by simp [h2]⟩
theorem Sl.below {n : Nat} {W W' : World} {B : Nat} (h : Sl W B) (hb : Below n W W') (hB : B < n) : Sl W' B := by
  obtain ⟨cs, h1, h2⟩ := h
  exact ⟨cs, h1.below hb hB, h2⟩
theorem Sl.lt {W : World} {B : Nat} (h : Sl W B) : B < W.heap.size := by obtain ⟨cs, h1, h2⟩ := h; exact h1.lt
/-- Two boxes of facts, and one for the answer. -/
structure Kff (w : World) (N : Nat) (a b c d e f : Bool) (W : World) : Prop where
  bel : Below w.heap.size w W
  le : w.heap.size ≤ N
  b1 : BoxN W N 61 #[.bool a, .bool b, .bool c]
  b2 : BoxN W (N + 1) 61 #[.bool d, .bool e, .bool f]
  b3 : Sl W (N + 1 + 1)
def KffC (w : World) (N : Nat) (a b c d e f : Bool) (W : World) : Prop :=
  Kff w N a b c d e f W ∧ W.cell? ⟨N, 0, none⟩ = some (.bool a) ∧ W.cell? ⟨N, 1, none⟩ = some (.bool b) ∧ W.cell? ⟨N, 2, none⟩ = some (.bool c) ∧ W.cell? ⟨N + 1, 0, none⟩ = some (.bool d) ∧ W.cell? ⟨N + 1, 1, none⟩ = some (.bool e) ∧ W.cell? ⟨N + 1, 2, none⟩ = some (.bool f)
    ∧ W.cell? ⟨N + 1 + 1, 0, none⟩ = some (cvl W ⟨N + 1 + 1, 0, none⟩) ∧ W.cell? ⟨N + 1 + 1, 1, none⟩ = some (cvl W ⟨N + 1 + 1, 1, none⟩) ∧ W.cell? ⟨N + 1 + 1, 2, none⟩ = some (cvl W ⟨N + 1 + 1, 2, none⟩)
    ∧ W.frozen? ⟨N + 1 + 1, 0, none⟩ = false ∧ W.frozen? ⟨N + 1 + 1, 1, none⟩ = false ∧ W.frozen? ⟨N + 1 + 1, 2, none⟩ = false
theorem Kff.all {w : World} {N : Nat} {a b c d e f : Bool} {W : World} (h : Kff w N a b c d e f W) : KffC w N a b c d e f W := ⟨h, h.b1.cell 0, h.b1.cell 1, h.b1.cell 2, h.b2.cell 0, h.b2.cell 1, h.b2.cell 2, h.b3.c 0 (by omega), h.b3.c 1 (by omega), h.b3.c 2 (by omega), h.b3.f 0, h.b3.f 1, h.b3.f 2⟩
theorem Kff.step {w : World} {N : Nat} {a b c d e f : Bool} {W W' : World} (h : KffC w N a b c d e f W) (hb : Below W.heap.size W W') : KffC w N a b c d e f W' :=
  Kff.all ⟨h.1.bel.trans (hb.mono h.1.bel.size), h.1.le, h.1.b1.below hb h.1.b1.lt, h.1.b2.below hb h.1.b2.lt, h.1.b3.below hb h.1.b3.lt⟩
theorem Kff.put {w : World} {N : Nat} {a b c d e f : Bool} {W : World} (h : Kff w N a b c d e f W) (j : Nat) (v : Value) : Kff w N a b c d e f (W.setCell ⟨N + 1 + 1, j, none⟩ v) :=
  ⟨h.bel.setCell (by have := h.le; simp; omega) v, h.le, h.b1.kept (Go.Lib.grownBy_setCell _ _ _ _) (by simp; omega), h.b2.kept (Go.Lib.grownBy_setCell _ _ _ _) (by simp), h.b3.set j v⟩
theorem Kff.store {w : World} {N : Nat} {a b c d e f : Bool} {W : World} (h : KffC w N a b c d e f W) (u v x : Value) : KffC w N a b c d e f (((W.setCell ⟨N + 1 + 1, 0, none⟩ u).setCell ⟨N + 1 + 1, 1, none⟩ v).setCell ⟨N + 1 + 1, 2, none⟩ x) :=
  Kff.all (((h.1.put 0 u).put 1 v).put 2 x)
theorem Sl.last {W : World} {B : Nat} (h : Sl W B) (u v x : Value) : (((W.setCell ⟨B, 0, none⟩ u).setCell ⟨B, 1, none⟩ v).setCell ⟨B, 2, none⟩ x).cell? ⟨B, 0, none⟩ = some u ∧ (((W.setCell ⟨B, 0, none⟩ u).setCell ⟨B, 1, none⟩ v).setCell ⟨B, 2, none⟩ x).cell? ⟨B, 1, none⟩ = some v ∧ (((W.setCell ⟨B, 0, none⟩ u).setCell ⟨B, 1, none⟩ v).setCell ⟨B, 2, none⟩ x).cell? ⟨B, 2, none⟩ = some x := by
  obtain ⟨cs, h1, h2⟩ := h
  have h3 : BoxN _ B 61 _ := Go.Lib.heap_setCell_same (w := W) (b := B) (i := 0) h1 u
  have h4 : BoxN _ B 61 _ := Go.Lib.heap_setCell_same (b := B) (i := 1) h3 v
  have h5 : BoxN _ B 61 _ := Go.Lib.heap_setCell_same (b := B) (i := 2) h4 x
  refine ⟨?_, ?_, ?_⟩ <;> rw [h5.cell] <;> simp [Array.getElem?_setIfInBounds, h2]
theorem Kff.drew {w : World} {N : Nat} {a b c d e f : Bool} {W : World} (h : KffC w N a b c d e f W) : KffC w N a b c d e f W.drew := Kff.step h (Below.refl _ W).drew
theorem Kff.new (w : World) (a b c d e f : Bool) : KffC w w.heap.size a b c d e f (((w.alloc (.cells #[.bool a, .bool b, .bool c] 61)).alloc (.cells #[.bool d, .bool e, .bool f] 61)).alloc (.cells #[.bool false, .bool false, .bool false] 61)) := by
  have h2 := BoxN.new (w.alloc (.cells #[.bool a, .bool b, .bool c] 61)) 61 #[.bool d, .bool e, .bool f]
  have h3 := BoxN.new ((w.alloc (.cells #[.bool a, .bool b, .bool c] 61)).alloc (.cells #[.bool d, .bool e, .bool f] 61)) 61 #[.bool false, .bool false, .bool false]
  rw [World.size_alloc] at h2
  rw [World.size_alloc, World.size_alloc] at h3
  exact Kff.all ⟨(((Below.refl _ w).alloc (Nat.le_refl _) _).alloc (by simp) _).alloc (by simp; omega) _, Nat.le_refl _, ((BoxN.new w 61 #[.bool a, .bool b, .bool c]).alloc _).alloc _, h2.alloc _, ⟨_, h3, rfl⟩⟩
def thenOr (f : Fa → Fa → Fa) : Fa → Fa → Fa := f
end Go.Proofs.Ytokdaapmejccbaa
