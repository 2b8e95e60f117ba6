import Derived.Test.YtcapoommjeifjaaRexpr
import Derived.Deep.RegionHeld3
namespace Go.Proofs.Ytcapoommjeifjaa
open Go.RowKit
set_option linter.unusedVariables false
/-- The expression's box is as it was. -/
def KeepE (w : World) (N : Nat) (e : Ex) (w' : World) : Prop := Below w.heap.size w w' ∧ BoxN w' N 27 e.cells ∧ w'.cell? ⟨N, 0, none⟩ = some (.int .i64 e.k) ∧ w'.cell? ⟨N, 1, none⟩ = some (.int .u64 (wd e.S 0)) ∧ w'.cell? ⟨N, 2, none⟩ = some (.int .u64 (wd e.S 1)) ∧ w'.cell? ⟨N, 3, none⟩ = some (.int .u64 (wd e.S 2)) ∧ w'.cell? ⟨N, 4, none⟩ = some (.int .u64 (wd e.S 3)) ∧ w'.cell? ⟨N, 5, none⟩ = some (.string e.t) ∧ w'.cell? ⟨N, 6, none⟩ = some (.slice e.a e.kids.length e.c)
theorem keepE_of {w w' : World} {N : Nat} {e : Ex} (hB : Below w.heap.size w w') (hE : BoxN w' N 27 e.cells) : KeepE w N e w' :=
  ⟨hB, hE, by rw [hE.cell]; rfl, by rw [hE.cell]; rfl, by rw [hE.cell]; rfl, by rw [hE.cell]; rfl, by rw [hE.cell]; rfl, by rw [hE.cell]; rfl, by rw [hE.cell]; rfl⟩
theorem keepE_call {w W w' : World} {N : Nat} {e : Ex} (h : KeepE w N e W) (hb : Below W.heap.size W w') : KeepE w N e w' := keepE_of (h.1.trans (hb.mono h.1.size)) (h.2.1.below hb h.2.1.lt)
theorem keepE_drew {w w' : World} {N : Nat} {e : Ex} (h : KeepE w N e w') : KeepE w N e w'.drew := keepE_of h.1.drew h.2.1
theorem check_val (e : Ex) (w : World) (hin : e.In w.heap.size w) : ∀ W, KeepE w w.heap.size e W → Calls Try.prog 10 #[.agg #[.int .i64 e.k, .int .u64 (wd e.S 0), .int .u64 (wd e.S 1), .int .u64 (wd e.S 2), .int .u64 (wd e.S 3), .string e.t, .slice e.a e.kids.length e.c]] W fun r W' => r = .returned (.int .i64 (check e)) ∧ Below W.heap.size W W' :=
  fun W h => check_any e W (hin.grow h.1)
theorem rexpr_val (e : Ex) (w : World) (hin : e.In w.heap.size w) : ∀ W, KeepE w w.heap.size e W → Calls Try.prog 11 #[.agg #[.int .i64 e.k, .int .u64 (wd e.S 0), .int .u64 (wd e.S 1), .int .u64 (wd e.S 2), .int .u64 (wd e.S 3), .string e.t, .slice e.a e.kids.length e.c]] W fun r W' => r = .returned (.int .i64 (check e)) ∧ Below W.heap.size W W' :=
  fun W h => rexpr_any e W (hin.grow h.1)
set_option maxRecDepth 20000 in
set_option maxHeartbeats 4000000 in
theorem checks_any (e : Ex) (s : ByteArray) (w : World) (hin : e.In w.heap.size w) (hs : s.size ≤ 140737488355328) :
    Calls Try.prog 3 #[e.val, .string s] w fun r W' => r = .returned (.bool true) ∧ Below w.heap.size w W' := by
  have hA := (Below.refl w.heap.size w).alloc (Nat.le_refl _) (.cells e.cells 27)
  have hK : KeepE w w.heap.size e (w.alloc (.cells e.cells 27)) := keepE_of hA (BoxN.new w 27 e.cells)
  have hck := check_val e w hin
  have hrx := rexpr_val e w hin
  have hn8 : ∀ w', Calls Try.prog 8 #[.string s] w' fun r W' => r = .returned (.bool (isName s.data.toList)) ∧ Below w'.heap.size w' W' := fun w' => (name_any s w').mono fun r W' ⟨h1, h2⟩ => ⟨h1, by rw [h2]; exact Below.refl _ _⟩
  have hn9 : ∀ w', Calls Try.prog 9 #[.string s] w' fun r W' => r = .returned (.bool (isName s.data.toList)) ∧ Below w'.heap.size w' W' := fun w' => (rname_any s w' hs).mono fun r W' ⟨h1, h2⟩ => ⟨h1, by rw [h2]; exact Below.refl _ _⟩
  generalize isName s.data.toList = nm at *
  generalize check e = C at *
  have hnm : (nm == nm) = true := by simp
  have hCC : (C == C) = true := by simp
  rw [val_eq]
  clear hA
  go_enter Try.func3, Try.ntmps3
  go_wp2_with fail
  rw [← cells_eq]
  generalize w.alloc (.cells e.cells 27) = w1 at *
  unfold KeepE at hK
  go_region_held3 (fun w' => Below w.heap.size w w' ∧ BoxN w' w.heap.size 27 e.cells ∧ w'.cell? ⟨w.heap.size, 0, none⟩ = some (.int .i64 e.k) ∧ w'.cell? ⟨w.heap.size, 1, none⟩ = some (.int .u64 (wd e.S 0)) ∧ w'.cell? ⟨w.heap.size, 2, none⟩ = some (.int .u64 (wd e.S 1)) ∧ w'.cell? ⟨w.heap.size, 3, none⟩ = some (.int .u64 (wd e.S 2)) ∧ w'.cell? ⟨w.heap.size, 4, none⟩ = some (.int .u64 (wd e.S 3)) ∧ w'.cell? ⟨w.heap.size, 5, none⟩ = some (.string e.t) ∧ w'.cell? ⟨w.heap.size, 6, none⟩ = some (.slice e.a e.kids.length e.c))
    (first | exact keepE_call (w := w) (N := w.heap.size) (e := e) (by assumption) hb | exact keepE_drew (w := w) (N := w.heap.size) (e := e) hK) (first
    | (go_at_call 8; refine (hn8 _).mono ?_; rintro e w5 ⟨rfl, hb⟩)
    | (go_at_call 9; refine (hn9 _).mono ?_; rintro e w5 ⟨rfl, hb⟩)
    | (go_at_call 10; refine (hck _ (by assumption)).mono ?_; rintro e w5 ⟨rfl, hb⟩)
    | (go_at_call 11; refine (hrx _ (by assumption)).mono ?_; rintro e w5 ⟨rfl, hb⟩))
  have hK2 : KeepE w w.heap.size e w5 := by assumption
  clear hK
  go_wp2_with fail
  go_ret
  exact ⟨rfl, hK2.1⟩
end Go.Proofs.Ytcapoommjeifjaa
