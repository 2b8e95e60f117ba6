import Derived.Test.YtokdaapmejccbaaRexpr
import Derived.Deep.RegionHeld3
namespace Go.Proofs.Ytokdaapmejccbaa
open Go.RowKit
set_option linter.unusedVariables false
/-- The expression's box is as it was. -/
def KeepE (w : World) (N : Nat) (e : Ex) (w' : World) : Prop := Below w.heap.size w w' ∧ BoxN w' N 57 e.cells ∧ w'.cell? ⟨N, 0, none⟩ = some (.int .i64 e.k) ∧ w'.cell? ⟨N, 1, none⟩ = some (.int .u64 (wd e.S 0)) ∧ w'.cell? ⟨N, 2, none⟩ = some (.int .u64 (wd e.S 1)) ∧ w'.cell? ⟨N, 3, none⟩ = some (.int .u64 (wd e.S 2)) ∧ w'.cell? ⟨N, 4, none⟩ = some (.int .u64 (wd e.S 3)) ∧ w'.cell? ⟨N, 5, none⟩ = some (.string e.t) ∧ w'.cell? ⟨N, 6, none⟩ = some (.slice e.a e.kids.length e.c)
theorem keepE_of {w w' : World} {N : Nat} {e : Ex} (hB : Below w.heap.size w w') (hE : BoxN w' N 57 e.cells) : KeepE w N e w' :=
  ⟨hB, hE, by rw [hE.cell]; rfl, by rw [hE.cell]; rfl, by rw [hE.cell]; rfl, by rw [hE.cell]; rfl, by rw [hE.cell]; rfl, by rw [hE.cell]; rfl, by rw [hE.cell]; rfl⟩
theorem keepE_call {w W w' : World} {N : Nat} {e : Ex} (h : KeepE w N e W) (hb : Below W.heap.size W w') : KeepE w N e w' := keepE_of (h.1.trans (hb.mono h.1.size)) (h.2.1.below hb h.2.1.lt)
theorem keepE_drew {w w' : World} {N : Nat} {e : Ex} (h : KeepE w N e w') : KeepE w N e w'.drew := keepE_of h.1.drew h.2.1
theorem check_val (e : Ex) (w : World) (hin : e.In w.heap.size w) : ∀ W, KeepE w w.heap.size e W → Calls Try.prog 86 #[.agg #[.int .i64 e.k, .int .u64 (wd e.S 0), .int .u64 (wd e.S 1), .int .u64 (wd e.S 2), .int .u64 (wd e.S 3), .string e.t, .slice e.a e.kids.length e.c]] W fun r W' => r = .returned (.int .i64 (check e)) ∧ Below W.heap.size W W' :=
  fun W h => check_any e W (hin.grow h.1)
theorem rexpr_val (e : Ex) (w : World) (hin : e.In w.heap.size w) : ∀ W, KeepE w w.heap.size e W → Calls Try.prog 98 #[.agg #[.int .i64 e.k, .int .u64 (wd e.S 0), .int .u64 (wd e.S 1), .int .u64 (wd e.S 2), .int .u64 (wd e.S 3), .string e.t, .slice e.a e.kids.length e.c]] W fun r W' => r = .returned (.int .i64 (check e)) ∧ Below W.heap.size W W' :=
  fun W h => rexpr_any e W (hin.grow h.1)
end Go.Proofs.Ytokdaapmejccbaa
