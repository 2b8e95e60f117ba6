import Derived.Test.YtokdaapmejccbaaFa
import Derived.WalkKit
import Derived.Below
import Derived.Deep.QuietTactic
import Derived.BigQuiet
import Derived.BigRegion
namespace Go.Proofs.Ytokdaapmejccbaa
open Go.RowKit
set_option linter.unusedVariables false
set_option linter.unusedSimpArgs false
/-- Facts in memory, from a cell on. -/
def FAt (W : World) (B o : Nat) (l : List Fa) : Prop := ∀ (j : Nat) f, l[j]? = some f → W.cell? ⟨B, o + j * 3, none⟩ = some (.bool f.1) ∧ W.cell? ⟨B, o + j * 3 + 1, none⟩ = some (.bool f.2.1) ∧ W.cell? ⟨B, o + j * 3 + 2, none⟩ = some (.bool f.2.2)
theorem FAt.below {n : Nat} {W W' : World} {B o : Nat} {l : List Fa} (h : FAt W B o l) (hb : Below n W W') (hB : B < n) : FAt W' B o l := fun j f hf => by
  have := h j f hf
  exact ⟨(hb.cell (p := ⟨B, _, none⟩) hB).trans this.1, (hb.cell (p := ⟨B, _, none⟩) hB).trans this.2.1, (hb.cell (p := ⟨B, _, none⟩) hB).trans this.2.2⟩
theorem FAt.tail {W : World} {B o : Nat} {a : Fa} {l : List Fa} (h : FAt W B o (a :: l)) : FAt W B (o + 3) l := fun j f hf => by
  have := h (j + 1) f (by simpa using hf)
  rw [show o + (j + 1) * 3 = o + 3 + j * 3 from by omega] at this
  exact this
theorem FAt.lt {W : World} {B o : Nat} {a : Fa} {l : List Fa} (h : FAt W B o (a :: l)) : B < W.heap.size := World.block_lt_of_cell? W _ (h 0 a rfl).1
theorem fval_eta (a : Fa) : fval a = .agg #[.bool a.1, .bool a.2.1, .bool a.2.2] := rfl
end Go.Proofs.Ytokdaapmejccbaa
