import Derived.Test.YtokdaapmejccbaaFa
import Derived.WalkKit
import Derived.Below
import Derived.Deep.QuietTactic
import Derived.BigQuiet
import Derived.BigRegion
namespace Go.Proofs.Ytokdaapmejccbaa
open Go.RowKit
set_option linter.unusedVariables false
set_option linter.unusedSimpArgs false
set_option maxRecDepth 20000 in
set_option maxHeartbeats 4000000 in
theorem orElse_0 (d e f : Bool) (w : World) : Calls Try.prog 109 #[fval (true, true, true), fval (d, e, f)] w fun r W' => r = .returned (fval (orF (true, true, true) (d, e, f))) ∧ Below w.heap.size w W' := by
  have hA := (((Below.refl w.heap.size w).alloc (Nat.le_refl _) (.cells #[.bool true, .bool true, .bool true] 61)).alloc (by simp) (.cells #[.bool d, .bool e, .bool f] 61)).alloc (by simp; omega) (.cells #[.bool (orF (true, true, true) (d, e, f)).1, .bool (orF (true, true, true) (d, e, f)).2.1, .bool (orF (true, true, true) (d, e, f)).2.2] 61)
  simp only [orF, sucF, Bool.true_and, Bool.false_and, Bool.true_or, Bool.false_or, Bool.or_true, Bool.or_false, Bool.and_true, Bool.and_false, Bool.or_self, Bool.and_self] at hA
  rw [fval_eq, fval_eq]
  go_enter Try.func109, Try.ntmps109
  go_wp2_with fail
  exact bodyPost_ret (v := fval (orF (true, true, true) (d, e, f))) (by simp [results, Try.results109, go_sem, orF, sucF, fval_eq]) rfl ⟨rfl, hA⟩
set_option maxRecDepth 20000 in
set_option maxHeartbeats 4000000 in
theorem orElse_1 (d e f : Bool) (w : World) : Calls Try.prog 109 #[fval (true, false, true), fval (d, e, f)] w fun r W' => r = .returned (fval (orF (true, false, true) (d, e, f))) ∧ Below w.heap.size w W' := by
  have hA := (((Below.refl w.heap.size w).alloc (Nat.le_refl _) (.cells #[.bool true, .bool false, .bool true] 61)).alloc (by simp) (.cells #[.bool d, .bool e, .bool f] 61)).alloc (by simp; omega) (.cells #[.bool (orF (true, false, true) (d, e, f)).1, .bool (orF (true, false, true) (d, e, f)).2.1, .bool (orF (true, false, true) (d, e, f)).2.2] 61)
  simp only [orF, sucF, Bool.true_and, Bool.false_and, Bool.true_or, Bool.false_or, Bool.or_true, Bool.or_false, Bool.and_true, Bool.and_false, Bool.or_self, Bool.and_self] at hA
  rw [fval_eq, fval_eq]
  go_enter Try.func109, Try.ntmps109
  go_wp2_with fail
  exact bodyPost_ret (v := fval (orF (true, false, true) (d, e, f))) (by simp [results, Try.results109, go_sem, orF, sucF, fval_eq]) rfl ⟨rfl, hA⟩
set_option maxRecDepth 20000 in
set_option maxHeartbeats 4000000 in
theorem orElse_2 (d e f : Bool) (w : World) : Calls Try.prog 109 #[fval (true, true, false), fval (d, e, f)] w fun r W' => r = .returned (fval (orF (true, true, false) (d, e, f))) ∧ Below w.heap.size w W' := by
  have hA := (((Below.refl w.heap.size w).alloc (Nat.le_refl _) (.cells #[.bool true, .bool true, .bool false] 61)).alloc (by simp) (.cells #[.bool d, .bool e, .bool f] 61)).alloc (by simp; omega) (.cells #[.bool (orF (true, true, false) (d, e, f)).1, .bool (orF (true, true, false) (d, e, f)).2.1, .bool (orF (true, true, false) (d, e, f)).2.2] 61)
  simp only [orF, sucF, Bool.true_and, Bool.false_and, Bool.true_or, Bool.false_or, Bool.or_true, Bool.or_false, Bool.and_true, Bool.and_false, Bool.or_self, Bool.and_self] at hA
  rw [fval_eq, fval_eq]
  go_enter Try.func109, Try.ntmps109
  go_wp2_with fail
  exact bodyPost_ret (v := fval (orF (true, true, false) (d, e, f))) (by simp [results, Try.results109, go_sem, orF, sucF, fval_eq]) rfl ⟨rfl, hA⟩
set_option maxRecDepth 20000 in
set_option maxHeartbeats 4000000 in
theorem orElse_3 (d e f : Bool) (w : World) : Calls Try.prog 109 #[fval (true, false, false), fval (d, e, f)] w fun r W' => r = .returned (fval (orF (true, false, false) (d, e, f))) ∧ Below w.heap.size w W' := by
  have hA := (((Below.refl w.heap.size w).alloc (Nat.le_refl _) (.cells #[.bool true, .bool false, .bool false] 61)).alloc (by simp) (.cells #[.bool d, .bool e, .bool f] 61)).alloc (by simp; omega) (.cells #[.bool (orF (true, false, false) (d, e, f)).1, .bool (orF (true, false, false) (d, e, f)).2.1, .bool (orF (true, false, false) (d, e, f)).2.2] 61)
  simp only [orF, sucF, Bool.true_and, Bool.false_and, Bool.true_or, Bool.false_or, Bool.or_true, Bool.or_false, Bool.and_true, Bool.and_false, Bool.or_self, Bool.and_self] at hA
  rw [fval_eq, fval_eq]
  go_enter Try.func109, Try.ntmps109
  go_wp2_with fail
  exact bodyPost_ret (v := fval (orF (true, false, false) (d, e, f))) (by simp [results, Try.results109, go_sem, orF, sucF, fval_eq]) rfl ⟨rfl, hA⟩
set_option maxRecDepth 20000 in
set_option maxHeartbeats 4000000 in
theorem orElse_4 (d e f : Bool) (w : World) : Calls Try.prog 109 #[fval (false, true, true), fval (d, e, f)] w fun r W' => r = .returned (fval (orF (false, true, true) (d, e, f))) ∧ Below w.heap.size w W' := by
  have hA := (((Below.refl w.heap.size w).alloc (Nat.le_refl _) (.cells #[.bool false, .bool true, .bool true] 61)).alloc (by simp) (.cells #[.bool d, .bool e, .bool f] 61)).alloc (by simp; omega) (.cells #[.bool (orF (false, true, true) (d, e, f)).1, .bool (orF (false, true, true) (d, e, f)).2.1, .bool (orF (false, true, true) (d, e, f)).2.2] 61)
  simp only [orF, sucF, Bool.true_and, Bool.false_and, Bool.true_or, Bool.false_or, Bool.or_true, Bool.or_false, Bool.and_true, Bool.and_false, Bool.or_self, Bool.and_self] at hA
  rw [fval_eq, fval_eq]
  go_enter Try.func109, Try.ntmps109
  go_wp2_with fail
  exact bodyPost_ret (v := fval (orF (false, true, true) (d, e, f))) (by simp [results, Try.results109, go_sem, orF, sucF, fval_eq]) rfl ⟨rfl, hA⟩
set_option maxRecDepth 20000 in
set_option maxHeartbeats 4000000 in
theorem orElse_5 (d e f : Bool) (w : World) : Calls Try.prog 109 #[fval (false, false, true), fval (d, e, f)] w fun r W' => r = .returned (fval (orF (false, false, true) (d, e, f))) ∧ Below w.heap.size w W' := by
  have hA := (((Below.refl w.heap.size w).alloc (Nat.le_refl _) (.cells #[.bool false, .bool false, .bool true] 61)).alloc (by simp) (.cells #[.bool d, .bool e, .bool f] 61)).alloc (by simp; omega) (.cells #[.bool (orF (false, false, true) (d, e, f)).1, .bool (orF (false, false, true) (d, e, f)).2.1, .bool (orF (false, false, true) (d, e, f)).2.2] 61)
  simp only [orF, sucF, Bool.true_and, Bool.false_and, Bool.true_or, Bool.false_or, Bool.or_true, Bool.or_false, Bool.and_true, Bool.and_false, Bool.or_self, Bool.and_self] at hA
  rw [fval_eq, fval_eq]
  go_enter Try.func109, Try.ntmps109
  go_wp2_with fail
  exact bodyPost_ret (v := fval (orF (false, false, true) (d, e, f))) (by simp [results, Try.results109, go_sem, orF, sucF, fval_eq]) rfl ⟨rfl, hA⟩
set_option maxRecDepth 20000 in
set_option maxHeartbeats 4000000 in
theorem orElse_6 (d e f : Bool) (w : World) : Calls Try.prog 109 #[fval (false, true, false), fval (d, e, f)] w fun r W' => r = .returned (fval (orF (false, true, false) (d, e, f))) ∧ Below w.heap.size w W' := by
  have hA := (((Below.refl w.heap.size w).alloc (Nat.le_refl _) (.cells #[.bool false, .bool true, .bool false] 61)).alloc (by simp) (.cells #[.bool d, .bool e, .bool f] 61)).alloc (by simp; omega) (.cells #[.bool (orF (false, true, false) (d, e, f)).1, .bool (orF (false, true, false) (d, e, f)).2.1, .bool (orF (false, true, false) (d, e, f)).2.2] 61)
  simp only [orF, sucF, Bool.true_and, Bool.false_and, Bool.true_or, Bool.false_or, Bool.or_true, Bool.or_false, Bool.and_true, Bool.and_false, Bool.or_self, Bool.and_self] at hA
  rw [fval_eq, fval_eq]
  go_enter Try.func109, Try.ntmps109
  go_wp2_with fail
  exact bodyPost_ret (v := fval (orF (false, true, false) (d, e, f))) (by simp [results, Try.results109, go_sem, orF, sucF, fval_eq]) rfl ⟨rfl, hA⟩
set_option maxRecDepth 20000 in
set_option maxHeartbeats 4000000 in
theorem orElse_7 (d e f : Bool) (w : World) : Calls Try.prog 109 #[fval (false, false, false), fval (d, e, f)] w fun r W' => r = .returned (fval (orF (false, false, false) (d, e, f))) ∧ Below w.heap.size w W' := by
  have hA := (((Below.refl w.heap.size w).alloc (Nat.le_refl _) (.cells #[.bool false, .bool false, .bool false] 61)).alloc (by simp) (.cells #[.bool d, .bool e, .bool f] 61)).alloc (by simp; omega) (.cells #[.bool (orF (false, false, false) (d, e, f)).1, .bool (orF (false, false, false) (d, e, f)).2.1, .bool (orF (false, false, false) (d, e, f)).2.2] 61)
  simp only [orF, sucF, Bool.true_and, Bool.false_and, Bool.true_or, Bool.false_or, Bool.or_true, Bool.or_false, Bool.and_true, Bool.and_false, Bool.or_self, Bool.and_self] at hA
  rw [fval_eq, fval_eq]
  go_enter Try.func109, Try.ntmps109
  go_wp2_with fail
  exact bodyPost_ret (v := fval (orF (false, false, false) (d, e, f))) (by simp [results, Try.results109, go_sem, orF, sucF, fval_eq]) rfl ⟨rfl, hA⟩
theorem orElse_any (f g : Fa) (w : World) : Calls Try.prog 109 #[fval f, fval g] w fun r W' => r = .returned (fval (orF f g)) ∧ Below w.heap.size w W' :=
  match f, g with
  | (true, true, true), (d, e, f) => orElse_0 d e f w
  | (true, false, true), (d, e, f) => orElse_1 d e f w
  | (true, true, false), (d, e, f) => orElse_2 d e f w
  | (true, false, false), (d, e, f) => orElse_3 d e f w
  | (false, true, true), (d, e, f) => orElse_4 d e f w
  | (false, false, true), (d, e, f) => orElse_5 d e f w
  | (false, true, false), (d, e, f) => orElse_6 d e f w
  | (false, false, false), (d, e, f) => orElse_7 d e f w
end Go.Proofs.Ytokdaapmejccbaa
