import Derived.Test.YtokdaapmejccbaaMay
import Derived.Test.YtokdaapmejccbaaFa
import Derived.WalkKit
import Derived.Below
import Derived.Deep.QuietTactic
import Derived.BigQuiet
import Derived.BigRegion
namespace Go.Proofs.Ytokdaapmejccbaa
open Go.RowKit
set_option linter.unusedVariables false
set_option linter.unusedSimpArgs false
def bi (b : Bool) (n : Int) : Int := if b then n else 0
/-- The reference's bits. -/
def encF (f : Fa) : Int := bi f.1 1 + bi f.2.1 2 + bi f.2.2 4
def FI (W : World) (B o : Nat) (l : List Fa) : Prop := ∀ (j : Nat) f, l[j]? = some f → W.cell? ⟨B, o + j, none⟩ = some (.int .i64 (encF f))
theorem FI.below {n : Nat} {W W' : World} {B o : Nat} {l : List Fa} (h : FI W B o l) (hb : Below n W W') (hB : B < n) : FI W' B o l := fun j f hf => (hb.cell (p := ⟨B, _, none⟩) hB).trans (h j f hf)
theorem FI.tail {W : World} {B o : Nat} {a : Fa} {l : List Fa} (h : FI W B o (a :: l)) : FI W B (o + 1) l := fun j f hf => by
  have := h (j + 1) f (by simpa using hf)
  rwa [show o + (j + 1) = o + 1 + j from by omega] at this
theorem FI.lt {W : World} {B o : Nat} {a : Fa} {l : List Fa} (h : FI W B o (a :: l)) : B < W.heap.size := World.block_lt_of_cell? W _ (h 0 a rfl)
theorem below_drew1 {n : Nat} {w W : World} (h : Below n w W) : Below n w W.drew := h.trans ⟨rfl, rfl, rfl, Nat.le_refl _, fun _ _ => rfl⟩
set_option maxRecDepth 20000 in
set_option maxHeartbeats 4000000 in
theorem mayAll1 (a : Fa) (B o c : Nat) (w : World) (h : FI w B o [a]) :
    Calls Try.prog 101 #[.slice (some ⟨B, o, none⟩) 1 c] w fun r W' => r = .returned (.int .i64 (encF a)) ∧ Below w.heap.size w W' := by
  have c0 := h 0 a rfl
  rw [Nat.add_zero] at c0
  go_enter Try.func101, Try.ntmps101
  go_wp2_with fail
  go_ret
  exact ⟨rfl, Below.refl _ _⟩
set_option maxRecDepth 20000 in
set_option maxHeartbeats 4000000 in
theorem mayOne1 (a : Fa) (B o c : Nat) (w : World) (h : FI w B o [a]) :
    Calls Try.prog 102 #[.slice (some ⟨B, o, none⟩) 1 c] w fun r W' => r = .returned (.int .i64 (encF a)) ∧ Below w.heap.size w W' := by
  have c0 := h 0 a rfl
  rw [Nat.add_zero] at c0
  go_enter Try.func102, Try.ntmps102
  go_wp2_with fail
  go_ret
  exact ⟨rfl, Below.refl _ _⟩
end Go.Proofs.Ytokdaapmejccbaa
