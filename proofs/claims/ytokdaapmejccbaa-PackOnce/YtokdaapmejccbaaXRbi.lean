import Derived.Test.YtokdaapmejccbaaXLat
import Derived.WalkKit
import Derived.Below
import Derived.Deep.QuietTactic
import Derived.BigQuiet
import Derived.BigRegion
import Derived.Test.YtokdaapmejccbaaXQLast
import Derived.Lib.BufferMore
import Derived.Lib.BufferWrite
namespace Go.Proofs.Ytokdaapmejccbaa
open Go.RowKit
set_option linter.unusedVariables false
set_option linter.unusedSimpArgs false
theorem suc_any (a b c : Bool) (w : World) : Calls Try.prog 111 #[.agg #[.bool a, .bool b, .bool c]] w fun r W' => r = .returned (.bool (a || b)) ∧ Below w.heap.size w W' := by
  have hA := (Below.refl w.heap.size w).alloc (Nat.le_refl _) (.cells #[.bool a, .bool b, .bool c] 61)
  cases a <;> cases b
  all_goals
    go_enter Try.func111, Try.ntmps111
    go_wp2_with fail
    go_ret
    exact ⟨rfl, hA⟩
theorem again_any (f : Fa) (w : World) : Calls Try.prog 110 #[fval f] w fun r W' => r = .returned (fval (againF f)) ∧ Below w.heap.size w W' := by
  have hA := ((Below.refl w.heap.size w).alloc (Nat.le_refl _) (.cells #[.bool f.1, .bool f.2.1, .bool f.2.2] 61)).alloc (by simp) (.cells #[.bool f.2.2, .bool f.2.1, .bool false] 61)
  obtain ⟨a, b, c⟩ := f
  rw [fval_eq]
  go_enter Try.func110, Try.ntmps110
  go_wp2_with fail
  exact bodyPost_ret (v := fval (againF (a, b, c))) (by simp [results, Try.results110, go_sem, againF, fval_eq]) rfl ⟨rfl, hA⟩
/-- What a cell holds, whatever it be. -/
def cvl (W : World) (a : Addr) : Value := (W.cell? a).getD undef
/-- A box of three cells. -/
def Sl (W : World) (B : Nat) : Prop := ∃ cs : Array Value, BoxN W B 61 cs ∧ cs.size = 3
theorem Sl.c {W : World} {B : Nat} (h : Sl W B) (j : Nat) (hj : j < 3) : W.cell? ⟨B, j, none⟩ = some (cvl W ⟨B, j, none⟩) := by
  obtain ⟨cs, h1, h2⟩ := h
  unfold cvl
  rw [h1.cell j, Array.getElem?_eq_getElem (by omega)]; rfl
theorem Sl.f {W : World} {B : Nat} (h : Sl W B) (j : Nat) : W.frozen? ⟨B, j, none⟩ = false := by
  obtain ⟨cs, h1, h2⟩ := h
  simp [World.frozen?, show W.heap[B]? = _ from h1]
theorem Sl.set {W : World} {B : Nat} (h : Sl W B) (j : Nat) (v : Value) : Sl (W.setCell ⟨B, j, none⟩ v) B := by
  obtain ⟨cs, h1, h2⟩ := h
  exact ⟨cs.setIfInBounds j v, Go.Lib.heap_setCell_same (w := W) (b := B) (i := j) h1 v, by simp [h2]⟩
theorem Sl.below {n : Nat} {W W' : World} {B : Nat} (h : Sl W B) (hb : Below n W W') (hB : B < n) : Sl W' B := by
  obtain ⟨cs, h1, h2⟩ := h
  exact ⟨cs, h1.below hb hB, h2⟩
theorem Sl.lt {W : World} {B : Nat} (h : Sl W B) : B < W.heap.size := by obtain ⟨cs, h1, h2⟩ := h; exact h1.lt
/-- Two boxes of facts, and one for the answer. -/
structure Kff (w : World) (N : Nat) (a b c d e f : Bool) (W : World) : Prop where
  bel : Below w.heap.size w W
  le : w.heap.size ≤ N
  b1 : BoxN W N 61 #[.bool a, .bool b, .bool c]
  b2 : BoxN W (N + 1) 61 #[.bool d, .bool e, .bool f]
  b3 : Sl W (N + 1 + 1)
def KffC (w : World) (N : Nat) (a b c d e f : Bool) (W : World) : Prop :=
  Kff w N a b c d e f W ∧ W.cell? ⟨N, 0, none⟩ = some (.bool a) ∧ W.cell? ⟨N, 1, none⟩ = some (.bool b) ∧ W.cell? ⟨N, 2, none⟩ = some (.bool c) ∧ W.cell? ⟨N + 1, 0, none⟩ = some (.bool d) ∧ W.cell? ⟨N + 1, 1, none⟩ = some (.bool e) ∧ W.cell? ⟨N + 1, 2, none⟩ = some (.bool f)
    ∧ W.cell? ⟨N + 1 + 1, 0, none⟩ = some (cvl W ⟨N + 1 + 1, 0, none⟩) ∧ W.cell? ⟨N + 1 + 1, 1, none⟩ = some (cvl W ⟨N + 1 + 1, 1, none⟩) ∧ W.cell? ⟨N + 1 + 1, 2, none⟩ = some (cvl W ⟨N + 1 + 1, 2, none⟩)
    ∧ W.frozen? ⟨N + 1 + 1, 0, none⟩ = false ∧ W.frozen? ⟨N + 1 + 1, 1, none⟩ = false ∧ W.frozen? ⟨N + 1 + 1, 2, none⟩ = false
theorem Kff.all {w : World} {N : Nat} {a b c d e f : Bool} {W : World} (h : Kff w N a b c d e f W) : KffC w N a b c d e f W := ⟨h, h.b1.cell 0, h.b1.cell 1, h.b1.cell 2, h.b2.cell 0, h.b2.cell 1, h.b2.cell 2, h.b3.c 0 (by omega), h.b3.c 1 (by omega), h.b3.c 2 (by omega), h.b3.f 0, h.b3.f 1, h.b3.f 2⟩
theorem Kff.step {w : World} {N : Nat} {a b c d e f : Bool} {W W' : World} (h : KffC w N a b c d e f W) (hb : Below W.heap.size W W') : KffC w N a b c d e f W' :=
  Kff.all ⟨h.1.bel.trans (hb.mono h.1.bel.size), h.1.le, h.1.b1.below hb h.1.b1.lt, h.1.b2.below hb h.1.b2.lt, h.1.b3.below hb h.1.b3.lt⟩
theorem Kff.put {w : World} {N : Nat} {a b c d e f : Bool} {W : World} (h : Kff w N a b c d e f W) (j : Nat) (v : Value) : Kff w N a b c d e f (W.setCell ⟨N + 1 + 1, j, none⟩ v) :=
  ⟨h.bel.setCell (by have := h.le; simp; omega) v, h.le, h.b1.kept (Go.Lib.grownBy_setCell _ _ _ _) (by simp; omega), h.b2.kept (Go.Lib.grownBy_setCell _ _ _ _) (by simp), h.b3.set j v⟩
theorem Kff.store {w : World} {N : Nat} {a b c d e f : Bool} {W : World} (h : KffC w N a b c d e f W) (u v x : Value) : KffC w N a b c d e f (((W.setCell ⟨N + 1 + 1, 0, none⟩ u).setCell ⟨N + 1 + 1, 1, none⟩ v).setCell ⟨N + 1 + 1, 2, none⟩ x) :=
  Kff.all (((h.1.put 0 u).put 1 v).put 2 x)
theorem Sl.last {W : World} {B : Nat} (h : Sl W B) (u v x : Value) : (((W.setCell ⟨B, 0, none⟩ u).setCell ⟨B, 1, none⟩ v).setCell ⟨B, 2, none⟩ x).cell? ⟨B, 0, none⟩ = some u ∧ (((W.setCell ⟨B, 0, none⟩ u).setCell ⟨B, 1, none⟩ v).setCell ⟨B, 2, none⟩ x).cell? ⟨B, 1, none⟩ = some v ∧ (((W.setCell ⟨B, 0, none⟩ u).setCell ⟨B, 1, none⟩ v).setCell ⟨B, 2, none⟩ x).cell? ⟨B, 2, none⟩ = some x := by
  obtain ⟨cs, h1, h2⟩ := h
  have h3 : BoxN _ B 61 _ := Go.Lib.heap_setCell_same (w := W) (b := B) (i := 0) h1 u
  have h4 : BoxN _ B 61 _ := Go.Lib.heap_setCell_same (b := B) (i := 1) h3 v
  have h5 : BoxN _ B 61 _ := Go.Lib.heap_setCell_same (b := B) (i := 2) h4 x
  refine ⟨?_, ?_, ?_⟩ <;> rw [h5.cell] <;> simp [Array.getElem?_setIfInBounds, h2]
theorem Kff.drew {w : World} {N : Nat} {a b c d e f : Bool} {W : World} (h : KffC w N a b c d e f W) : KffC w N a b c d e f W.drew := Kff.step h (Below.refl _ W).drew
theorem Kff.new (w : World) (a b c d e f : Bool) : KffC w w.heap.size a b c d e f (((w.alloc (.cells #[.bool a, .bool b, .bool c] 61)).alloc (.cells #[.bool d, .bool e, .bool f] 61)).alloc (.cells #[.bool false, .bool false, .bool false] 61)) := by
  have h2 := BoxN.new (w.alloc (.cells #[.bool a, .bool b, .bool c] 61)) 61 #[.bool d, .bool e, .bool f]
  have h3 := BoxN.new ((w.alloc (.cells #[.bool a, .bool b, .bool c] 61)).alloc (.cells #[.bool d, .bool e, .bool f] 61)) 61 #[.bool false, .bool false, .bool false]
  rw [World.size_alloc] at h2
  rw [World.size_alloc, World.size_alloc] at h3
  exact Kff.all ⟨(((Below.refl _ w).alloc (Nat.le_refl _) _).alloc (by simp) _).alloc (by simp; omega) _, Nat.le_refl _, ((BoxN.new w 61 #[.bool a, .bool b, .bool c]).alloc _).alloc _, h2.alloc _, ⟨_, h3, rfl⟩⟩
def thenOr (f : Fa → Fa → Fa) : Fa → Fa → Fa := f
end Go.Proofs.Ytokdaapmejccbaa
namespace Go.Proofs.Ytokdaapmejccbaa
open Go.RowKit
set_option linter.unusedVariables false
set_option linter.unusedSimpArgs false
/-- Facts in memory, from a cell on. -/
def FAt (W : World) (B o : Nat) (l : List Fa) : Prop := ∀ (j : Nat) f, l[j]? = some f → W.cell? ⟨B, o + j * 3, none⟩ = some (.bool f.1) ∧ W.cell? ⟨B, o + j * 3 + 1, none⟩ = some (.bool f.2.1) ∧ W.cell? ⟨B, o + j * 3 + 2, none⟩ = some (.bool f.2.2)
theorem FAt.below {n : Nat} {W W' : World} {B o : Nat} {l : List Fa} (h : FAt W B o l) (hb : Below n W W') (hB : B < n) : FAt W' B o l := fun j f hf => by
  have := h j f hf
  exact ⟨(hb.cell (p := ⟨B, _, none⟩) hB).trans this.1, (hb.cell (p := ⟨B, _, none⟩) hB).trans this.2.1, (hb.cell (p := ⟨B, _, none⟩) hB).trans this.2.2⟩
theorem FAt.tail {W : World} {B o : Nat} {a : Fa} {l : List Fa} (h : FAt W B o (a :: l)) : FAt W B (o + 3) l := fun j f hf => by
  have := h (j + 1) f (by simpa using hf)
  rw [show o + (j + 1) * 3 = o + 3 + j * 3 from by omega] at this
  exact this
theorem FAt.lt {W : World} {B o : Nat} {a : Fa} {l : List Fa} (h : FAt W B o (a :: l)) : B < W.heap.size := World.block_lt_of_cell? W _ (h 0 a rfl).1
theorem fval_eta (a : Fa) : fval a = .agg #[.bool a.1, .bool a.2.1, .bool a.2.2] := rfl
end Go.Proofs.Ytokdaapmejccbaa
namespace Go.Proofs.Ytokdaapmejccbaa
open Go.RowKit
set_option linter.unusedVariables false
set_option linter.unusedSimpArgs false
set_option maxRecDepth 20000 in
set_option maxHeartbeats 4000000 in
theorem orElse_0 (d e f : Bool) (w : World) : Calls Try.prog 109 #[fval (true, true, true), fval (d, e, f)] w fun r W' => r = .returned (fval (orF (true, true, true) (d, e, f))) ∧ Below w.heap.size w W' := by
  have hA := (((Below.refl w.heap.size w).alloc (Nat.le_refl _) (.cells #[.bool true, .bool true, .bool true] 61)).alloc (by simp) (.cells #[.bool d, .bool e, .bool f] 61)).alloc (by simp; omega) (.cells #[.bool (orF (true, true, true) (d, e, f)).1, .bool (orF (true, true, true) (d, e, f)).2.1, .bool (orF (true, true, true) (d, e, f)).2.2] 61)
  simp only [orF, sucF, Bool.true_and, Bool.false_and, Bool.true_or, Bool.false_or, Bool.or_true, Bool.or_false, Bool.and_true, Bool.and_false, Bool.or_self, Bool.and_self] at hA
  rw [fval_eq, fval_eq]
  go_enter Try.func109, Try.ntmps109
  go_wp2_with fail
  exact bodyPost_ret (v := fval (orF (true, true, true) (d, e, f))) (by simp [results, Try.results109, go_sem, orF, sucF, fval_eq]) rfl ⟨rfl, hA⟩
set_option maxRecDepth 20000 in
set_option maxHeartbeats 4000000 in
theorem orElse_1 (d e f : Bool) (w : World) : Calls Try.prog 109 #[fval (true, false, true), fval (d, e, f)] w fun r W' => r = .returned (fval (orF (true, false, true) (d, e, f))) ∧ Below w.heap.size w W' := by
  have hA := (((Below.refl w.heap.size w).alloc (Nat.le_refl _) (.cells #[.bool true, .bool false, .bool true] 61)).alloc (by simp) (.cells #[.bool d, .bool e, .bool f] 61)).alloc (by simp; omega) (.cells #[.bool (orF (true, false, true) (d, e, f)).1, .bool (orF (true, false, true) (d, e, f)).2.1, .bool (orF (true, false, true) (d, e, f)).2.2] 61)
  simp only [orF, sucF, Bool.true_and, Bool.false_and, Bool.true_or, Bool.false_or, Bool.or_true, Bool.or_false, Bool.and_true, Bool.and_false, Bool.or_self, Bool.and_self] at hA
  rw [fval_eq, fval_eq]
  go_enter Try.func109, Try.ntmps109
  go_wp2_with fail
  exact bodyPost_ret (v := fval (orF (true, false, true) (d, e, f))) (by simp [results, Try.results109, go_sem, orF, sucF, fval_eq]) rfl ⟨rfl, hA⟩
set_option maxRecDepth 20000 in
set_option maxHeartbeats 4000000 in
theorem orElse_2 (d e f : Bool) (w : World) : Calls Try.prog 109 #[fval (true, true, false), fval (d, e, f)] w fun r W' => r = .returned (fval (orF (true, true, false) (d, e, f))) ∧ Below w.heap.size w W' := by
  have hA := (((Below.refl w.heap.size w).alloc (Nat.le_refl _) (.cells #[.bool true, .bool true, .bool false] 61)).alloc (by simp) (.cells #[.bool d, .bool e, .bool f] 61)).alloc (by simp; omega) (.cells #[.bool (orF (true, true, false) (d, e, f)).1, .bool (orF (true, true, false) (d, e, f)).2.1, .bool (orF (true, true, false) (d, e, f)).2.2] 61)
  simp only [orF, sucF, Bool.true_and, Bool.false_and, Bool.true_or, Bool.false_or, Bool.or_true, Bool.or_false, Bool.and_true, Bool.and_false, Bool.or_self, Bool.and_self] at hA
  rw [fval_eq, fval_eq]
  go_enter Try.func109, Try.ntmps109
  go_wp2_with fail
  exact bodyPost_ret (v := fval (orF (true, true, false) (d, e, f))) (by simp [results, Try.results109, go_sem, orF, sucF, fval_eq]) rfl ⟨rfl, hA⟩
set_option maxRecDepth 20000 in
set_option maxHeartbeats 4000000 in
theorem orElse_3 (d e f : Bool) (w : World) : Calls Try.prog 109 #[fval (true, false, false), fval (d, e, f)] w fun r W' => r = .returned (fval (orF (true, false, false) (d, e, f))) ∧ Below w.heap.size w W' := by
  have hA := (((Below.refl w.heap.size w).alloc (Nat.le_refl _) (.cells #[.bool true, .bool false, .bool false] 61)).alloc (by simp) (.cells #[.bool d, .bool e, .bool f] 61)).alloc (by simp; omega) (.cells #[.bool (orF (true, false, false) (d, e, f)).1, .bool (orF (true, false, false) (d, e, f)).2.1, .bool (orF (true, false, false) (d, e, f)).2.2] 61)
  simp only [orF, sucF, Bool.true_and, Bool.false_and, Bool.true_or, Bool.false_or, Bool.or_true, Bool.or_false, Bool.and_true, Bool.and_false, Bool.or_self, Bool.and_self] at hA
  rw [fval_eq, fval_eq]
  go_enter Try.func109, Try.ntmps109
  go_wp2_with fail
  exact bodyPost_ret (v := fval (orF (true, false, false) (d, e, f))) (by simp [results, Try.results109, go_sem, orF, sucF, fval_eq]) rfl ⟨rfl, hA⟩
set_option maxRecDepth 20000 in
set_option maxHeartbeats 4000000 in
theorem orElse_4 (d e f : Bool) (w : World) : Calls Try.prog 109 #[fval (false, true, true), fval (d, e, f)] w fun r W' => r = .returned (fval (orF (false, true, true) (d, e, f))) ∧ Below w.heap.size w W' := by
  have hA := (((Below.refl w.heap.size w).alloc (Nat.le_refl _) (.cells #[.bool false, .bool true, .bool true] 61)).alloc (by simp) (.cells #[.bool d, .bool e, .bool f] 61)).alloc (by simp; omega) (.cells #[.bool (orF (false, true, true) (d, e, f)).1, .bool (orF (false, true, true) (d, e, f)).2.1, .bool (orF (false, true, true) (d, e, f)).2.2] 61)
  simp only [orF, sucF, Bool.true_and, Bool.false_and, Bool.true_or, Bool.false_or, Bool.or_true, Bool.or_false, Bool.and_true, Bool.and_false, Bool.or_self, Bool.and_self] at hA
  rw [fval_eq, fval_eq]
  go_enter Try.func109, Try.ntmps109
  go_wp2_with fail
  exact bodyPost_ret (v := fval (orF (false, true, true) (d, e, f))) (by simp [results, Try.results109, go_sem, orF, sucF, fval_eq]) rfl ⟨rfl, hA⟩
set_option maxRecDepth 20000 in
set_option maxHeartbeats 4000000 in
theorem orElse_5 (d e f : Bool) (w : World) : Calls Try.prog 109 #[fval (false, false, true), fval (d, e, f)] w fun r W' => r = .returned (fval (orF (false, false, true) (d, e, f))) ∧ Below w.heap.size w W' := by
  have hA := (((Below.refl w.heap.size w).alloc (Nat.le_refl _) (.cells #[.bool false, .bool false, .bool true] 61)).alloc (by simp) (.cells #[.bool d, .bool e, .bool f] 61)).alloc (by simp; omega) (.cells #[.bool (orF (false, false, true) (d, e, f)).1, .bool (orF (false, false, true) (d, e, f)).2.1, .bool (orF (false, false, true) (d, e, f)).2.2] 61)
  simp only [orF, sucF, Bool.true_and, Bool.false_and, Bool.true_or, Bool.false_or, Bool.or_true, Bool.or_false, Bool.and_true, Bool.and_false, Bool.or_self, Bool.and_self] at hA
  rw [fval_eq, fval_eq]
  go_enter Try.func109, Try.ntmps109
  go_wp2_with fail
  exact bodyPost_ret (v := fval (orF (false, false, true) (d, e, f))) (by simp [results, Try.results109, go_sem, orF, sucF, fval_eq]) rfl ⟨rfl, hA⟩
set_option maxRecDepth 20000 in
set_option maxHeartbeats 4000000 in
theorem orElse_6 (d e f : Bool) (w : World) : Calls Try.prog 109 #[fval (false, true, false), fval (d, e, f)] w fun r W' => r = .returned (fval (orF (false, true, false) (d, e, f))) ∧ Below w.heap.size w W' := by
  have hA := (((Below.refl w.heap.size w).alloc (Nat.le_refl _) (.cells #[.bool false, .bool true, .bool false] 61)).alloc (by simp) (.cells #[.bool d, .bool e, .bool f] 61)).alloc (by simp; omega) (.cells #[.bool (orF (false, true, false) (d, e, f)).1, .bool (orF (false, true, false) (d, e, f)).2.1, .bool (orF (false, true, false) (d, e, f)).2.2] 61)
  simp only [orF, sucF, Bool.true_and, Bool.false_and, Bool.true_or, Bool.false_or, Bool.or_true, Bool.or_false, Bool.and_true, Bool.and_false, Bool.or_self, Bool.and_self] at hA
  rw [fval_eq, fval_eq]
  go_enter Try.func109, Try.ntmps109
  go_wp2_with fail
  exact bodyPost_ret (v := fval (orF (false, true, false) (d, e, f))) (by simp [results, Try.results109, go_sem, orF, sucF, fval_eq]) rfl ⟨rfl, hA⟩
set_option maxRecDepth 20000 in
set_option maxHeartbeats 4000000 in
theorem orElse_7 (d e f : Bool) (w : World) : Calls Try.prog 109 #[fval (false, false, false), fval (d, e, f)] w fun r W' => r = .returned (fval (orF (false, false, false) (d, e, f))) ∧ Below w.heap.size w W' := by
  have hA := (((Below.refl w.heap.size w).alloc (Nat.le_refl _) (.cells #[.bool false, .bool false, .bool false] 61)).alloc (by simp) (.cells #[.bool d, .bool e, .bool f] 61)).alloc (by simp; omega) (.cells #[.bool (orF (false, false, false) (d, e, f)).1, .bool (orF (false, false, false) (d, e, f)).2.1, .bool (orF (false, false, false) (d, e, f)).2.2] 61)
  simp only [orF, sucF, Bool.true_and, Bool.false_and, Bool.true_or, Bool.false_or, Bool.or_true, Bool.or_false, Bool.and_true, Bool.and_false, Bool.or_self, Bool.and_self] at hA
  rw [fval_eq, fval_eq]
  go_enter Try.func109, Try.ntmps109
  go_wp2_with fail
  exact bodyPost_ret (v := fval (orF (false, false, false) (d, e, f))) (by simp [results, Try.results109, go_sem, orF, sucF, fval_eq]) rfl ⟨rfl, hA⟩
theorem orElse_any (f g : Fa) (w : World) : Calls Try.prog 109 #[fval f, fval g] w fun r W' => r = .returned (fval (orF f g)) ∧ Below w.heap.size w W' :=
  match f, g with
  | (true, true, true), (d, e, f) => orElse_0 d e f w
  | (true, false, true), (d, e, f) => orElse_1 d e f w
  | (true, true, false), (d, e, f) => orElse_2 d e f w
  | (true, false, false), (d, e, f) => orElse_3 d e f w
  | (false, true, true), (d, e, f) => orElse_4 d e f w
  | (false, false, true), (d, e, f) => orElse_5 d e f w
  | (false, true, false), (d, e, f) => orElse_6 d e f w
  | (false, false, false), (d, e, f) => orElse_7 d e f w
end Go.Proofs.Ytokdaapmejccbaa
namespace Go.Proofs.Ytokdaapmejccbaa
open Go.RowKit
set_option linter.unusedVariables false
theorem gr_refl (B : Nat) (w : World) : w.grownBy w (some B) := ⟨rfl, rfl, rfl, Nat.le_refl _, fun _ _ _ => rfl⟩
theorem gr_trans {B : Nat} {w w1 w2 : World} (h : w.grownBy w1 (some B)) (h2 : w1.grownBy w2 (some B)) : w.grownBy w2 (some B) :=
  ⟨h2.os.trans h.os, h2.tape.trans h.tape, h2.output.trans h.output, Nat.le_trans h.size h2.size, fun k hk hne => (h2.block k (Nat.lt_of_lt_of_le hk h.size) hne).trans (h.block k hk hne)⟩
theorem gr_alloc {B : Nat} {w w1 : World} (h : w.grownBy w1 (some B)) (o : Obj) : w.grownBy (w1.alloc o) (some B) :=
  ⟨h.os, h.tape, h.output, Nat.le_trans h.size (by simp), fun k hk hne => (Below.heap_alloc w1 o k (Nat.lt_of_lt_of_le hk h.size)).trans (h.block k hk hne)⟩
theorem gr_below {B : Nat} {w w1 w2 : World} (h : w.grownBy w1 (some B)) (hb : Below w1.heap.size w1 w2) : w.grownBy w2 (some B) :=
  ⟨hb.os.trans h.os, hb.tape.trans h.tape, hb.output.trans h.output, Nat.le_trans h.size hb.size, fun k hk hne => (hb.block k (Nat.lt_of_lt_of_le hk h.size)).trans (h.block k hk hne)⟩
/-- Marks in memory. -/
def mcs (m : List Bool) : Array Value := (m.map Value.bool).toArray
def Mk (W : World) (B : Nat) (m : List Bool) : Prop := BoxN W B 4 (mcs m)
theorem Mk.cell {W : World} {B : Nat} {m : List Bool} (h : Mk W B m) {i : Nat} {b : Bool} (hb : m[i]? = some b) : W.cell? ⟨B, i, none⟩ = some (.bool b) := by
  rw [BoxN.cell h]; simp [mcs, hb]
theorem Mk.frozen {W : World} {B : Nat} {m : List Bool} (h : Mk W B m) (i : Nat) : W.frozen? ⟨B, i, none⟩ = false := by
  simp [World.frozen?, show W.heap[B]? = _ from h]
theorem Mk.set {W : World} {B : Nat} {m : List Bool} (h : Mk W B m) (i : Nat) : Mk (W.setCell ⟨B, i, none⟩ (.bool true)) B (m.set i true) := by
  have := Go.Lib.heap_setCell_same (w := W) (b := B) (i := i) h (.bool true)
  unfold Mk BoxN
  rw [this]
  rw [show (mcs m).setIfInBounds i (.bool true) = mcs (m.set i true) from by unfold mcs; simp [List.map_set]]
/-- The grammar's blocks stay, B apart. -/
theorem Gr.In.gr {n B : Nat} {A W : World} {g : Gr} (h : g.In n A) (hg : A.grownBy W (some B)) (hn : n ≤ A.heap.size) (hB : n ≤ B) : g.In n W :=
  h.below ⟨hg.os, hg.tape, hg.output, hg.size, fun k hk => hg.block k (Nat.lt_of_lt_of_le hk hn) (fun e => by cases e; omega)⟩
theorem Mk.lt {W : World} {B : Nat} {m : List Bool} (h : Mk W B m) : B < W.heap.size := BoxN.lt h
theorem bool_of {m : List Bool} {i : Nat} (h : i < m.length) : ∃ b, m[i]? = some b := ⟨_, List.getElem?_eq_getElem h⟩
end Go.Proofs.Ytokdaapmejccbaa
namespace Go.Proofs.Ytokdaapmejccbaa
open Go.RowKit
/-- A name that is a rule's. -/
def IsRule (g : Gr) (s : ByteArray) : Prop := ∃ k : Nat, fnd g.rules s = (k : Int) ∧ k < g.rules.length
end Go.Proofs.Ytokdaapmejccbaa
namespace Go.Proofs.Ytokdaapmejccbaa
open Go.RowKit
set_option linter.unusedVariables false
set_option linter.unusedSimpArgs false
def bi (b : Bool) (n : Int) : Int := if b then n else 0
/-- The reference's bits. -/
def encF (f : Fa) : Int := bi f.1 1 + bi f.2.1 2 + bi f.2.2 4
def FI (W : World) (B o : Nat) (l : List Fa) : Prop := ∀ (j : Nat) f, l[j]? = some f → W.cell? ⟨B, o + j, none⟩ = some (.int .i64 (encF f))
theorem FI.below {n : Nat} {W W' : World} {B o : Nat} {l : List Fa} (h : FI W B o l) (hb : Below n W W') (hB : B < n) : FI W' B o l := fun j f hf => (hb.cell (p := ⟨B, _, none⟩) hB).trans (h j f hf)
theorem FI.tail {W : World} {B o : Nat} {a : Fa} {l : List Fa} (h : FI W B o (a :: l)) : FI W B (o + 1) l := fun j f hf => by
  have := h (j + 1) f (by simpa using hf)
  rwa [show o + (j + 1) = o + 1 + j from by omega] at this
theorem FI.lt {W : World} {B o : Nat} {a : Fa} {l : List Fa} (h : FI W B o (a :: l)) : B < W.heap.size := World.block_lt_of_cell? W _ (h 0 a rfl)
theorem below_drew1 {n : Nat} {w W : World} (h : Below n w W) : Below n w W.drew := h.trans ⟨rfl, rfl, rfl, Nat.le_refl _, fun _ _ => rfl⟩
set_option maxRecDepth 20000 in
set_option maxHeartbeats 4000000 in
theorem mayAll1 (a : Fa) (B o c : Nat) (w : World) (h : FI w B o [a]) :
    Calls Try.prog 101 #[.slice (some ⟨B, o, none⟩) 1 c] w fun r W' => r = .returned (.int .i64 (encF a)) ∧ Below w.heap.size w W' := by
  have c0 := h 0 a rfl
  rw [Nat.add_zero] at c0
  go_enter Try.func101, Try.ntmps101
  go_wp2_with fail
  go_ret
  exact ⟨rfl, Below.refl _ _⟩
set_option maxRecDepth 20000 in
set_option maxHeartbeats 4000000 in
theorem mayOne1 (a : Fa) (B o c : Nat) (w : World) (h : FI w B o [a]) :
    Calls Try.prog 102 #[.slice (some ⟨B, o, none⟩) 1 c] w fun r W' => r = .returned (.int .i64 (encF a)) ∧ Below w.heap.size w W' := by
  have c0 := h 0 a rfl
  rw [Nat.add_zero] at c0
  go_enter Try.func102, Try.ntmps102
  go_wp2_with fail
  go_ret
  exact ⟨rfl, Below.refl _ _⟩
end Go.Proofs.Ytokdaapmejccbaa
