import Derived.Test.YtokdaapmejccbaaXRbi
import Derived.WalkKit
import Derived.Below
import Derived.Deep.QuietTactic
import Derived.BigQuiet
import Derived.BigRegion
namespace Go.Proofs.Ytokdaapmejccbaa
open Go.RowKit
set_option linter.unusedVariables false
set_option linter.unusedSimpArgs false
set_option maxRecDepth 20000 in
set_option maxHeartbeats 4000000 in
theorem then_0 (d f : Bool) (w : World) : Calls Try.prog 108 #[fval (true, true, true), fval (d, true, f)] w fun r W' => r = .returned (fval (thenF (true, true, true) (d, true, f))) ∧ Below w.heap.size w W' := by
  rw [fval_eq, fval_eq]
  have h56 := suc_any
  have hK := Kff.new w true true true d true f
  go_enter Try.func108, Try.ntmps108
  go_wp2_with fail
  generalize ((w.alloc (.cells #[.bool true, .bool true, .bool true] 61)).alloc (.cells #[.bool d, .bool true, .bool f] 61)).alloc (.cells #[.bool false, .bool false, .bool false] 61) = w1 at *
  refine wp_region_lit (KffC w w.heap.size true true true d true f) _ _ (by kernel_rfl) rfl (by kernel_rfl) (by kernel_rfl) (Kff.drew hK) ?_
  dsimp only [List.dropLast]
  repeat (first
    | go_big_quiet_skip
    | (go_big_quiet_want
       apply Exists.intro
       refine ⟨fun W hW => ?_, ?_⟩
       · obtain ⟨hKf, c0, c1, c2, d0, d1, d2, e0, e1, e2, f0, f1, f2⟩ := id hW
         unfold Oper.quietAt
         go_simp
         first
           | exact rfl
           | exact ⟨rfl, rfl⟩
           | (refine (h56 _ _ _ _).mono ?_
              rintro e W1 ⟨rfl, hb⟩
              exact ⟨rfl, Kff.step hW hb⟩)
       go_big_quiet_on
       simp only [Act.put, List.setIfInBounds_toArray, List.set_cons_zero, List.set_cons_succ]))
  refine wpQuiet_nil ?_
  intro W hW
  obtain ⟨hKf, c0, c1, c2, d0, d1, d2, e0, e1, e2, f0, f1, f2⟩ := id hW
  rw [if_pos (by rfl)]
  go_simp
  have hS := (Kff.store hW (.bool (thenOr thenF (true, true, true) (d, true, f)).1) (.bool (thenOr thenF (true, true, true) (d, true, f)).2.1) (.bool (thenOr thenF (true, true, true) (d, true, f)).2.2)).1.bel
  obtain ⟨z0, z1, z2⟩ := hKf.b3.last (.bool (thenOr thenF (true, true, true) (d, true, f)).1) (.bool (thenOr thenF (true, true, true) (d, true, f)).2.1) (.bool (thenOr thenF (true, true, true) (d, true, f)).2.2)
  simp only [thenOr, thenF, sucF, Bool.true_and, Bool.false_and, Bool.true_or, Bool.false_or, Bool.or_true, Bool.or_false, Bool.and_true, Bool.and_false, Bool.or_self, Bool.and_self] at hS z0 z1 z2
  clear c0 c1 c2 d0 d1 d2 e0 e1 e2 f0 f1 f2 hW hKf hK
  go_wp2_with fail
  exact bodyPost_ret (v := fval (thenF (true, true, true) (d, true, f))) (by simp [results, Try.results108, go_sem, z0, z1, z2, thenF, sucF, fval_eq]) rfl ⟨rfl, hS⟩
set_option maxRecDepth 20000 in
set_option maxHeartbeats 4000000 in
theorem then_3 (d f : Bool) (w : World) : Calls Try.prog 108 #[fval (true, false, true), fval (d, true, f)] w fun r W' => r = .returned (fval (thenF (true, false, true) (d, true, f))) ∧ Below w.heap.size w W' := by
  rw [fval_eq, fval_eq]
  have h56 := suc_any
  have hK := Kff.new w true false true d true f
  go_enter Try.func108, Try.ntmps108
  go_wp2_with fail
  generalize ((w.alloc (.cells #[.bool true, .bool false, .bool true] 61)).alloc (.cells #[.bool d, .bool true, .bool f] 61)).alloc (.cells #[.bool false, .bool false, .bool false] 61) = w1 at *
  refine wp_region_lit (KffC w w.heap.size true false true d true f) _ _ (by kernel_rfl) rfl (by kernel_rfl) (by kernel_rfl) (Kff.drew hK) ?_
  dsimp only [List.dropLast]
  repeat (first
    | go_big_quiet_skip
    | (go_big_quiet_want
       apply Exists.intro
       refine ⟨fun W hW => ?_, ?_⟩
       · obtain ⟨hKf, c0, c1, c2, d0, d1, d2, e0, e1, e2, f0, f1, f2⟩ := id hW
         unfold Oper.quietAt
         go_simp
         first
           | exact rfl
           | exact ⟨rfl, rfl⟩
           | (refine (h56 _ _ _ _).mono ?_
              rintro e W1 ⟨rfl, hb⟩
              exact ⟨rfl, Kff.step hW hb⟩)
       go_big_quiet_on
       simp only [Act.put, List.setIfInBounds_toArray, List.set_cons_zero, List.set_cons_succ]))
  refine wpQuiet_nil ?_
  intro W hW
  obtain ⟨hKf, c0, c1, c2, d0, d1, d2, e0, e1, e2, f0, f1, f2⟩ := id hW
  rw [if_pos (by rfl)]
  go_simp
  have hS := (Kff.store hW (.bool (thenOr thenF (true, false, true) (d, true, f)).1) (.bool (thenOr thenF (true, false, true) (d, true, f)).2.1) (.bool (thenOr thenF (true, false, true) (d, true, f)).2.2)).1.bel
  obtain ⟨z0, z1, z2⟩ := hKf.b3.last (.bool (thenOr thenF (true, false, true) (d, true, f)).1) (.bool (thenOr thenF (true, false, true) (d, true, f)).2.1) (.bool (thenOr thenF (true, false, true) (d, true, f)).2.2)
  simp only [thenOr, thenF, sucF, Bool.true_and, Bool.false_and, Bool.true_or, Bool.false_or, Bool.or_true, Bool.or_false, Bool.and_true, Bool.and_false, Bool.or_self, Bool.and_self] at hS z0 z1 z2
  clear c0 c1 c2 d0 d1 d2 e0 e1 e2 f0 f1 f2 hW hKf hK
  go_wp2_with fail
  exact bodyPost_ret (v := fval (thenF (true, false, true) (d, true, f))) (by simp [results, Try.results108, go_sem, z0, z1, z2, thenF, sucF, fval_eq]) rfl ⟨rfl, hS⟩
set_option maxRecDepth 20000 in
set_option maxHeartbeats 4000000 in
theorem then_6 (f : Bool) (w : World) : Calls Try.prog 108 #[fval (true, true, false), fval (true, false, f)] w fun r W' => r = .returned (fval (thenF (true, true, false) (true, false, f))) ∧ Below w.heap.size w W' := by
  rw [fval_eq, fval_eq]
  have h56 := suc_any
  have hK := Kff.new w true true false true false f
  go_enter Try.func108, Try.ntmps108
  go_wp2_with fail
  generalize ((w.alloc (.cells #[.bool true, .bool true, .bool false] 61)).alloc (.cells #[.bool true, .bool false, .bool f] 61)).alloc (.cells #[.bool false, .bool false, .bool false] 61) = w1 at *
  refine wp_region_lit (KffC w w.heap.size true true false true false f) _ _ (by kernel_rfl) rfl (by kernel_rfl) (by kernel_rfl) (Kff.drew hK) ?_
  dsimp only [List.dropLast]
  repeat (first
    | go_big_quiet_skip
    | (go_big_quiet_want
       apply Exists.intro
       refine ⟨fun W hW => ?_, ?_⟩
       · obtain ⟨hKf, c0, c1, c2, d0, d1, d2, e0, e1, e2, f0, f1, f2⟩ := id hW
         unfold Oper.quietAt
         go_simp
         first
           | exact rfl
           | exact ⟨rfl, rfl⟩
           | (refine (h56 _ _ _ _).mono ?_
              rintro e W1 ⟨rfl, hb⟩
              exact ⟨rfl, Kff.step hW hb⟩)
       go_big_quiet_on
       simp only [Act.put, List.setIfInBounds_toArray, List.set_cons_zero, List.set_cons_succ]))
  refine wpQuiet_nil ?_
  intro W hW
  obtain ⟨hKf, c0, c1, c2, d0, d1, d2, e0, e1, e2, f0, f1, f2⟩ := id hW
  rw [if_pos (by rfl)]
  go_simp
  have hS := (Kff.store hW (.bool (thenOr thenF (true, true, false) (true, false, f)).1) (.bool (thenOr thenF (true, true, false) (true, false, f)).2.1) (.bool (thenOr thenF (true, true, false) (true, false, f)).2.2)).1.bel
  obtain ⟨z0, z1, z2⟩ := hKf.b3.last (.bool (thenOr thenF (true, true, false) (true, false, f)).1) (.bool (thenOr thenF (true, true, false) (true, false, f)).2.1) (.bool (thenOr thenF (true, true, false) (true, false, f)).2.2)
  simp only [thenOr, thenF, sucF, Bool.true_and, Bool.false_and, Bool.true_or, Bool.false_or, Bool.or_true, Bool.or_false, Bool.and_true, Bool.and_false, Bool.or_self, Bool.and_self] at hS z0 z1 z2
  clear c0 c1 c2 d0 d1 d2 e0 e1 e2 f0 f1 f2 hW hKf hK
  go_wp2_with fail
  exact bodyPost_ret (v := fval (thenF (true, true, false) (true, false, f))) (by simp [results, Try.results108, go_sem, z0, z1, z2, thenF, sucF, fval_eq]) rfl ⟨rfl, hS⟩
set_option maxRecDepth 20000 in
set_option maxHeartbeats 4000000 in
theorem then_9 (d f : Bool) (w : World) : Calls Try.prog 108 #[fval (true, false, false), fval (d, false, f)] w fun r W' => r = .returned (fval (thenF (true, false, false) (d, false, f))) ∧ Below w.heap.size w W' := by
  rw [fval_eq, fval_eq]
  have h56 := suc_any
  have hK := Kff.new w true false false d false f
  go_enter Try.func108, Try.ntmps108
  go_wp2_with fail
  generalize ((w.alloc (.cells #[.bool true, .bool false, .bool false] 61)).alloc (.cells #[.bool d, .bool false, .bool f] 61)).alloc (.cells #[.bool false, .bool false, .bool false] 61) = w1 at *
  refine wp_region_lit (KffC w w.heap.size true false false d false f) _ _ (by kernel_rfl) rfl (by kernel_rfl) (by kernel_rfl) (Kff.drew hK) ?_
  dsimp only [List.dropLast]
  repeat (first
    | go_big_quiet_skip
    | (go_big_quiet_want
       apply Exists.intro
       refine ⟨fun W hW => ?_, ?_⟩
       · obtain ⟨hKf, c0, c1, c2, d0, d1, d2, e0, e1, e2, f0, f1, f2⟩ := id hW
         unfold Oper.quietAt
         go_simp
         first
           | exact rfl
           | exact ⟨rfl, rfl⟩
           | (refine (h56 _ _ _ _).mono ?_
              rintro e W1 ⟨rfl, hb⟩
              exact ⟨rfl, Kff.step hW hb⟩)
       go_big_quiet_on
       simp only [Act.put, List.setIfInBounds_toArray, List.set_cons_zero, List.set_cons_succ]))
  refine wpQuiet_nil ?_
  intro W hW
  obtain ⟨hKf, c0, c1, c2, d0, d1, d2, e0, e1, e2, f0, f1, f2⟩ := id hW
  rw [if_pos (by rfl)]
  go_simp
  have hS := (Kff.store hW (.bool (thenOr thenF (true, false, false) (d, false, f)).1) (.bool (thenOr thenF (true, false, false) (d, false, f)).2.1) (.bool (thenOr thenF (true, false, false) (d, false, f)).2.2)).1.bel
  obtain ⟨z0, z1, z2⟩ := hKf.b3.last (.bool (thenOr thenF (true, false, false) (d, false, f)).1) (.bool (thenOr thenF (true, false, false) (d, false, f)).2.1) (.bool (thenOr thenF (true, false, false) (d, false, f)).2.2)
  simp only [thenOr, thenF, sucF, Bool.true_and, Bool.false_and, Bool.true_or, Bool.false_or, Bool.or_true, Bool.or_false, Bool.and_true, Bool.and_false, Bool.or_self, Bool.and_self] at hS z0 z1 z2
  clear c0 c1 c2 d0 d1 d2 e0 e1 e2 f0 f1 f2 hW hKf hK
  go_wp2_with fail
  exact bodyPost_ret (v := fval (thenF (true, false, false) (d, false, f))) (by simp [results, Try.results108, go_sem, z0, z1, z2, thenF, sucF, fval_eq]) rfl ⟨rfl, hS⟩
set_option maxRecDepth 20000 in
set_option maxHeartbeats 4000000 in
theorem then_12 (f : Bool) (w : World) : Calls Try.prog 108 #[fval (false, true, true), fval (false, false, f)] w fun r W' => r = .returned (fval (thenF (false, true, true) (false, false, f))) ∧ Below w.heap.size w W' := by
  rw [fval_eq, fval_eq]
  have h56 := suc_any
  have hK := Kff.new w false true true false false f
  go_enter Try.func108, Try.ntmps108
  go_wp2_with fail
  generalize ((w.alloc (.cells #[.bool false, .bool true, .bool true] 61)).alloc (.cells #[.bool false, .bool false, .bool f] 61)).alloc (.cells #[.bool false, .bool false, .bool false] 61) = w1 at *
  refine wp_region_lit (KffC w w.heap.size false true true false false f) _ _ (by kernel_rfl) rfl (by kernel_rfl) (by kernel_rfl) (Kff.drew hK) ?_
  dsimp only [List.dropLast]
  repeat (first
    | go_big_quiet_skip
    | (go_big_quiet_want
       apply Exists.intro
       refine ⟨fun W hW => ?_, ?_⟩
       · obtain ⟨hKf, c0, c1, c2, d0, d1, d2, e0, e1, e2, f0, f1, f2⟩ := id hW
         unfold Oper.quietAt
         go_simp
         first
           | exact rfl
           | exact ⟨rfl, rfl⟩
           | (refine (h56 _ _ _ _).mono ?_
              rintro e W1 ⟨rfl, hb⟩
              exact ⟨rfl, Kff.step hW hb⟩)
       go_big_quiet_on
       simp only [Act.put, List.setIfInBounds_toArray, List.set_cons_zero, List.set_cons_succ]))
  refine wpQuiet_nil ?_
  intro W hW
  obtain ⟨hKf, c0, c1, c2, d0, d1, d2, e0, e1, e2, f0, f1, f2⟩ := id hW
  rw [if_pos (by rfl)]
  go_simp
  have hS := (Kff.store hW (.bool (thenOr thenF (false, true, true) (false, false, f)).1) (.bool (thenOr thenF (false, true, true) (false, false, f)).2.1) (.bool (thenOr thenF (false, true, true) (false, false, f)).2.2)).1.bel
  obtain ⟨z0, z1, z2⟩ := hKf.b3.last (.bool (thenOr thenF (false, true, true) (false, false, f)).1) (.bool (thenOr thenF (false, true, true) (false, false, f)).2.1) (.bool (thenOr thenF (false, true, true) (false, false, f)).2.2)
  simp only [thenOr, thenF, sucF, Bool.true_and, Bool.false_and, Bool.true_or, Bool.false_or, Bool.or_true, Bool.or_false, Bool.and_true, Bool.and_false, Bool.or_self, Bool.and_self] at hS z0 z1 z2
  clear c0 c1 c2 d0 d1 d2 e0 e1 e2 f0 f1 f2 hW hKf hK
  go_wp2_with fail
  exact bodyPost_ret (v := fval (thenF (false, true, true) (false, false, f))) (by simp [results, Try.results108, go_sem, z0, z1, z2, thenF, sucF, fval_eq]) rfl ⟨rfl, hS⟩
set_option maxRecDepth 20000 in
set_option maxHeartbeats 4000000 in
theorem then_15 (d f : Bool) (w : World) : Calls Try.prog 108 #[fval (false, true, false), fval (d, true, f)] w fun r W' => r = .returned (fval (thenF (false, true, false) (d, true, f))) ∧ Below w.heap.size w W' := by
  rw [fval_eq, fval_eq]
  have h56 := suc_any
  have hK := Kff.new w false true false d true f
  go_enter Try.func108, Try.ntmps108
  go_wp2_with fail
  generalize ((w.alloc (.cells #[.bool false, .bool true, .bool false] 61)).alloc (.cells #[.bool d, .bool true, .bool f] 61)).alloc (.cells #[.bool false, .bool false, .bool false] 61) = w1 at *
  refine wp_region_lit (KffC w w.heap.size false true false d true f) _ _ (by kernel_rfl) rfl (by kernel_rfl) (by kernel_rfl) (Kff.drew hK) ?_
  dsimp only [List.dropLast]
  repeat (first
    | go_big_quiet_skip
    | (go_big_quiet_want
       apply Exists.intro
       refine ⟨fun W hW => ?_, ?_⟩
       · obtain ⟨hKf, c0, c1, c2, d0, d1, d2, e0, e1, e2, f0, f1, f2⟩ := id hW
         unfold Oper.quietAt
         go_simp
         first
           | exact rfl
           | exact ⟨rfl, rfl⟩
           | (refine (h56 _ _ _ _).mono ?_
              rintro e W1 ⟨rfl, hb⟩
              exact ⟨rfl, Kff.step hW hb⟩)
       go_big_quiet_on
       simp only [Act.put, List.setIfInBounds_toArray, List.set_cons_zero, List.set_cons_succ]))
  refine wpQuiet_nil ?_
  intro W hW
  obtain ⟨hKf, c0, c1, c2, d0, d1, d2, e0, e1, e2, f0, f1, f2⟩ := id hW
  rw [if_pos (by rfl)]
  go_simp
  have hS := (Kff.store hW (.bool (thenOr thenF (false, true, false) (d, true, f)).1) (.bool (thenOr thenF (false, true, false) (d, true, f)).2.1) (.bool (thenOr thenF (false, true, false) (d, true, f)).2.2)).1.bel
  obtain ⟨z0, z1, z2⟩ := hKf.b3.last (.bool (thenOr thenF (false, true, false) (d, true, f)).1) (.bool (thenOr thenF (false, true, false) (d, true, f)).2.1) (.bool (thenOr thenF (false, true, false) (d, true, f)).2.2)
  simp only [thenOr, thenF, sucF, Bool.true_and, Bool.false_and, Bool.true_or, Bool.false_or, Bool.or_true, Bool.or_false, Bool.and_true, Bool.and_false, Bool.or_self, Bool.and_self] at hS z0 z1 z2
  clear c0 c1 c2 d0 d1 d2 e0 e1 e2 f0 f1 f2 hW hKf hK
  go_wp2_with fail
  exact bodyPost_ret (v := fval (thenF (false, true, false) (d, true, f))) (by simp [results, Try.results108, go_sem, z0, z1, z2, thenF, sucF, fval_eq]) rfl ⟨rfl, hS⟩
set_option maxRecDepth 20000 in
set_option maxHeartbeats 4000000 in
theorem then_18 (d f : Bool) (w : World) : Calls Try.prog 108 #[fval (false, false, false), fval (d, true, f)] w fun r W' => r = .returned (fval (thenF (false, false, false) (d, true, f))) ∧ Below w.heap.size w W' := by
  rw [fval_eq, fval_eq]
  have h56 := suc_any
  have hK := Kff.new w false false false d true f
  go_enter Try.func108, Try.ntmps108
  go_wp2_with fail
  generalize ((w.alloc (.cells #[.bool false, .bool false, .bool false] 61)).alloc (.cells #[.bool d, .bool true, .bool f] 61)).alloc (.cells #[.bool false, .bool false, .bool false] 61) = w1 at *
  refine wp_region_lit (KffC w w.heap.size false false false d true f) _ _ (by kernel_rfl) rfl (by kernel_rfl) (by kernel_rfl) (Kff.drew hK) ?_
  dsimp only [List.dropLast]
  repeat (first
    | go_big_quiet_skip
    | (go_big_quiet_want
       apply Exists.intro
       refine ⟨fun W hW => ?_, ?_⟩
       · obtain ⟨hKf, c0, c1, c2, d0, d1, d2, e0, e1, e2, f0, f1, f2⟩ := id hW
         unfold Oper.quietAt
         go_simp
         first
           | exact rfl
           | exact ⟨rfl, rfl⟩
           | (refine (h56 _ _ _ _).mono ?_
              rintro e W1 ⟨rfl, hb⟩
              exact ⟨rfl, Kff.step hW hb⟩)
       go_big_quiet_on
       simp only [Act.put, List.setIfInBounds_toArray, List.set_cons_zero, List.set_cons_succ]))
  refine wpQuiet_nil ?_
  intro W hW
  obtain ⟨hKf, c0, c1, c2, d0, d1, d2, e0, e1, e2, f0, f1, f2⟩ := id hW
  rw [if_pos (by rfl)]
  go_simp
  have hS := (Kff.store hW (.bool (thenOr thenF (false, false, false) (d, true, f)).1) (.bool (thenOr thenF (false, false, false) (d, true, f)).2.1) (.bool (thenOr thenF (false, false, false) (d, true, f)).2.2)).1.bel
  obtain ⟨z0, z1, z2⟩ := hKf.b3.last (.bool (thenOr thenF (false, false, false) (d, true, f)).1) (.bool (thenOr thenF (false, false, false) (d, true, f)).2.1) (.bool (thenOr thenF (false, false, false) (d, true, f)).2.2)
  simp only [thenOr, thenF, sucF, Bool.true_and, Bool.false_and, Bool.true_or, Bool.false_or, Bool.or_true, Bool.or_false, Bool.and_true, Bool.and_false, Bool.or_self, Bool.and_self] at hS z0 z1 z2
  clear c0 c1 c2 d0 d1 d2 e0 e1 e2 f0 f1 f2 hW hKf hK
  go_wp2_with fail
  exact bodyPost_ret (v := fval (thenF (false, false, false) (d, true, f))) (by simp [results, Try.results108, go_sem, z0, z1, z2, thenF, sucF, fval_eq]) rfl ⟨rfl, hS⟩
end Go.Proofs.Ytokdaapmejccbaa
namespace Go.Proofs.Ytokdaapmejccbaa
open Go.RowKit
set_option linter.unusedVariables false
set_option linter.unusedSimpArgs false
set_option maxRecDepth 20000 in
set_option maxHeartbeats 4000000 in
theorem then_1 (f : Bool) (w : World) : Calls Try.prog 108 #[fval (true, true, true), fval (true, false, f)] w fun r W' => r = .returned (fval (thenF (true, true, true) (true, false, f))) ∧ Below w.heap.size w W' := by
  rw [fval_eq, fval_eq]
  have h56 := suc_any
  have hK := Kff.new w true true true true false f
  go_enter Try.func108, Try.ntmps108
  go_wp2_with fail
  generalize ((w.alloc (.cells #[.bool true, .bool true, .bool true] 61)).alloc (.cells #[.bool true, .bool false, .bool f] 61)).alloc (.cells #[.bool false, .bool false, .bool false] 61) = w1 at *
  refine wp_region_lit (KffC w w.heap.size true true true true false f) _ _ (by kernel_rfl) rfl (by kernel_rfl) (by kernel_rfl) (Kff.drew hK) ?_
  dsimp only [List.dropLast]
  repeat (first
    | go_big_quiet_skip
    | (go_big_quiet_want
       apply Exists.intro
       refine ⟨fun W hW => ?_, ?_⟩
       · obtain ⟨hKf, c0, c1, c2, d0, d1, d2, e0, e1, e2, f0, f1, f2⟩ := id hW
         unfold Oper.quietAt
         go_simp
         first
           | exact rfl
           | exact ⟨rfl, rfl⟩
           | (refine (h56 _ _ _ _).mono ?_
              rintro e W1 ⟨rfl, hb⟩
              exact ⟨rfl, Kff.step hW hb⟩)
       go_big_quiet_on
       simp only [Act.put, List.setIfInBounds_toArray, List.set_cons_zero, List.set_cons_succ]))
  refine wpQuiet_nil ?_
  intro W hW
  obtain ⟨hKf, c0, c1, c2, d0, d1, d2, e0, e1, e2, f0, f1, f2⟩ := id hW
  rw [if_pos (by rfl)]
  go_simp
  have hS := (Kff.store hW (.bool (thenOr thenF (true, true, true) (true, false, f)).1) (.bool (thenOr thenF (true, true, true) (true, false, f)).2.1) (.bool (thenOr thenF (true, true, true) (true, false, f)).2.2)).1.bel
  obtain ⟨z0, z1, z2⟩ := hKf.b3.last (.bool (thenOr thenF (true, true, true) (true, false, f)).1) (.bool (thenOr thenF (true, true, true) (true, false, f)).2.1) (.bool (thenOr thenF (true, true, true) (true, false, f)).2.2)
  simp only [thenOr, thenF, sucF, Bool.true_and, Bool.false_and, Bool.true_or, Bool.false_or, Bool.or_true, Bool.or_false, Bool.and_true, Bool.and_false, Bool.or_self, Bool.and_self] at hS z0 z1 z2
  clear c0 c1 c2 d0 d1 d2 e0 e1 e2 f0 f1 f2 hW hKf hK
  go_wp2_with fail
  exact bodyPost_ret (v := fval (thenF (true, true, true) (true, false, f))) (by simp [results, Try.results108, go_sem, z0, z1, z2, thenF, sucF, fval_eq]) rfl ⟨rfl, hS⟩
set_option maxRecDepth 20000 in
set_option maxHeartbeats 4000000 in
theorem then_4 (d f : Bool) (w : World) : Calls Try.prog 108 #[fval (true, false, true), fval (d, false, f)] w fun r W' => r = .returned (fval (thenF (true, false, true) (d, false, f))) ∧ Below w.heap.size w W' := by
  rw [fval_eq, fval_eq]
  have h56 := suc_any
  have hK := Kff.new w true false true d false f
  go_enter Try.func108, Try.ntmps108
  go_wp2_with fail
  generalize ((w.alloc (.cells #[.bool true, .bool false, .bool true] 61)).alloc (.cells #[.bool d, .bool false, .bool f] 61)).alloc (.cells #[.bool false, .bool false, .bool false] 61) = w1 at *
  refine wp_region_lit (KffC w w.heap.size true false true d false f) _ _ (by kernel_rfl) rfl (by kernel_rfl) (by kernel_rfl) (Kff.drew hK) ?_
  dsimp only [List.dropLast]
  repeat (first
    | go_big_quiet_skip
    | (go_big_quiet_want
       apply Exists.intro
       refine ⟨fun W hW => ?_, ?_⟩
       · obtain ⟨hKf, c0, c1, c2, d0, d1, d2, e0, e1, e2, f0, f1, f2⟩ := id hW
         unfold Oper.quietAt
         go_simp
         first
           | exact rfl
           | exact ⟨rfl, rfl⟩
           | (refine (h56 _ _ _ _).mono ?_
              rintro e W1 ⟨rfl, hb⟩
              exact ⟨rfl, Kff.step hW hb⟩)
       go_big_quiet_on
       simp only [Act.put, List.setIfInBounds_toArray, List.set_cons_zero, List.set_cons_succ]))
  refine wpQuiet_nil ?_
  intro W hW
  obtain ⟨hKf, c0, c1, c2, d0, d1, d2, e0, e1, e2, f0, f1, f2⟩ := id hW
  rw [if_pos (by rfl)]
  go_simp
  have hS := (Kff.store hW (.bool (thenOr thenF (true, false, true) (d, false, f)).1) (.bool (thenOr thenF (true, false, true) (d, false, f)).2.1) (.bool (thenOr thenF (true, false, true) (d, false, f)).2.2)).1.bel
  obtain ⟨z0, z1, z2⟩ := hKf.b3.last (.bool (thenOr thenF (true, false, true) (d, false, f)).1) (.bool (thenOr thenF (true, false, true) (d, false, f)).2.1) (.bool (thenOr thenF (true, false, true) (d, false, f)).2.2)
  simp only [thenOr, thenF, sucF, Bool.true_and, Bool.false_and, Bool.true_or, Bool.false_or, Bool.or_true, Bool.or_false, Bool.and_true, Bool.and_false, Bool.or_self, Bool.and_self] at hS z0 z1 z2
  clear c0 c1 c2 d0 d1 d2 e0 e1 e2 f0 f1 f2 hW hKf hK
  go_wp2_with fail
  exact bodyPost_ret (v := fval (thenF (true, false, true) (d, false, f))) (by simp [results, Try.results108, go_sem, z0, z1, z2, thenF, sucF, fval_eq]) rfl ⟨rfl, hS⟩
set_option maxRecDepth 20000 in
set_option maxHeartbeats 4000000 in
theorem then_7 (f : Bool) (w : World) : Calls Try.prog 108 #[fval (true, true, false), fval (false, false, f)] w fun r W' => r = .returned (fval (thenF (true, true, false) (false, false, f))) ∧ Below w.heap.size w W' := by
  rw [fval_eq, fval_eq]
  have h56 := suc_any
  have hK := Kff.new w true true false false false f
  go_enter Try.func108, Try.ntmps108
  go_wp2_with fail
  generalize ((w.alloc (.cells #[.bool true, .bool true, .bool false] 61)).alloc (.cells #[.bool false, .bool false, .bool f] 61)).alloc (.cells #[.bool false, .bool false, .bool false] 61) = w1 at *
  refine wp_region_lit (KffC w w.heap.size true true false false false f) _ _ (by kernel_rfl) rfl (by kernel_rfl) (by kernel_rfl) (Kff.drew hK) ?_
  dsimp only [List.dropLast]
  repeat (first
    | go_big_quiet_skip
    | (go_big_quiet_want
       apply Exists.intro
       refine ⟨fun W hW => ?_, ?_⟩
       · obtain ⟨hKf, c0, c1, c2, d0, d1, d2, e0, e1, e2, f0, f1, f2⟩ := id hW
         unfold Oper.quietAt
         go_simp
         first
           | exact rfl
           | exact ⟨rfl, rfl⟩
           | (refine (h56 _ _ _ _).mono ?_
              rintro e W1 ⟨rfl, hb⟩
              exact ⟨rfl, Kff.step hW hb⟩)
       go_big_quiet_on
       simp only [Act.put, List.setIfInBounds_toArray, List.set_cons_zero, List.set_cons_succ]))
  refine wpQuiet_nil ?_
  intro W hW
  obtain ⟨hKf, c0, c1, c2, d0, d1, d2, e0, e1, e2, f0, f1, f2⟩ := id hW
  rw [if_pos (by rfl)]
  go_simp
  have hS := (Kff.store hW (.bool (thenOr thenF (true, true, false) (false, false, f)).1) (.bool (thenOr thenF (true, true, false) (false, false, f)).2.1) (.bool (thenOr thenF (true, true, false) (false, false, f)).2.2)).1.bel
  obtain ⟨z0, z1, z2⟩ := hKf.b3.last (.bool (thenOr thenF (true, true, false) (false, false, f)).1) (.bool (thenOr thenF (true, true, false) (false, false, f)).2.1) (.bool (thenOr thenF (true, true, false) (false, false, f)).2.2)
  simp only [thenOr, thenF, sucF, Bool.true_and, Bool.false_and, Bool.true_or, Bool.false_or, Bool.or_true, Bool.or_false, Bool.and_true, Bool.and_false, Bool.or_self, Bool.and_self] at hS z0 z1 z2
  clear c0 c1 c2 d0 d1 d2 e0 e1 e2 f0 f1 f2 hW hKf hK
  go_wp2_with fail
  exact bodyPost_ret (v := fval (thenF (true, true, false) (false, false, f))) (by simp [results, Try.results108, go_sem, z0, z1, z2, thenF, sucF, fval_eq]) rfl ⟨rfl, hS⟩
set_option maxRecDepth 20000 in
set_option maxHeartbeats 4000000 in
theorem then_10 (d f : Bool) (w : World) : Calls Try.prog 108 #[fval (false, true, true), fval (d, true, f)] w fun r W' => r = .returned (fval (thenF (false, true, true) (d, true, f))) ∧ Below w.heap.size w W' := by
  rw [fval_eq, fval_eq]
  have h56 := suc_any
  have hK := Kff.new w false true true d true f
  go_enter Try.func108, Try.ntmps108
  go_wp2_with fail
  generalize ((w.alloc (.cells #[.bool false, .bool true, .bool true] 61)).alloc (.cells #[.bool d, .bool true, .bool f] 61)).alloc (.cells #[.bool false, .bool false, .bool false] 61) = w1 at *
  refine wp_region_lit (KffC w w.heap.size false true true d true f) _ _ (by kernel_rfl) rfl (by kernel_rfl) (by kernel_rfl) (Kff.drew hK) ?_
  dsimp only [List.dropLast]
  repeat (first
    | go_big_quiet_skip
    | (go_big_quiet_want
       apply Exists.intro
       refine ⟨fun W hW => ?_, ?_⟩
       · obtain ⟨hKf, c0, c1, c2, d0, d1, d2, e0, e1, e2, f0, f1, f2⟩ := id hW
         unfold Oper.quietAt
         go_simp
         first
           | exact rfl
           | exact ⟨rfl, rfl⟩
           | (refine (h56 _ _ _ _).mono ?_
              rintro e W1 ⟨rfl, hb⟩
              exact ⟨rfl, Kff.step hW hb⟩)
       go_big_quiet_on
       simp only [Act.put, List.setIfInBounds_toArray, List.set_cons_zero, List.set_cons_succ]))
  refine wpQuiet_nil ?_
  intro W hW
  obtain ⟨hKf, c0, c1, c2, d0, d1, d2, e0, e1, e2, f0, f1, f2⟩ := id hW
  rw [if_pos (by rfl)]
  go_simp
  have hS := (Kff.store hW (.bool (thenOr thenF (false, true, true) (d, true, f)).1) (.bool (thenOr thenF (false, true, true) (d, true, f)).2.1) (.bool (thenOr thenF (false, true, true) (d, true, f)).2.2)).1.bel
  obtain ⟨z0, z1, z2⟩ := hKf.b3.last (.bool (thenOr thenF (false, true, true) (d, true, f)).1) (.bool (thenOr thenF (false, true, true) (d, true, f)).2.1) (.bool (thenOr thenF (false, true, true) (d, true, f)).2.2)
  simp only [thenOr, thenF, sucF, Bool.true_and, Bool.false_and, Bool.true_or, Bool.false_or, Bool.or_true, Bool.or_false, Bool.and_true, Bool.and_false, Bool.or_self, Bool.and_self] at hS z0 z1 z2
  clear c0 c1 c2 d0 d1 d2 e0 e1 e2 f0 f1 f2 hW hKf hK
  go_wp2_with fail
  exact bodyPost_ret (v := fval (thenF (false, true, true) (d, true, f))) (by simp [results, Try.results108, go_sem, z0, z1, z2, thenF, sucF, fval_eq]) rfl ⟨rfl, hS⟩
set_option maxRecDepth 20000 in
set_option maxHeartbeats 4000000 in
theorem then_13 (d f : Bool) (w : World) : Calls Try.prog 108 #[fval (false, false, true), fval (d, true, f)] w fun r W' => r = .returned (fval (thenF (false, false, true) (d, true, f))) ∧ Below w.heap.size w W' := by
  rw [fval_eq, fval_eq]
  have h56 := suc_any
  have hK := Kff.new w false false true d true f
  go_enter Try.func108, Try.ntmps108
  go_wp2_with fail
  generalize ((w.alloc (.cells #[.bool false, .bool false, .bool true] 61)).alloc (.cells #[.bool d, .bool true, .bool f] 61)).alloc (.cells #[.bool false, .bool false, .bool false] 61) = w1 at *
  refine wp_region_lit (KffC w w.heap.size false false true d true f) _ _ (by kernel_rfl) rfl (by kernel_rfl) (by kernel_rfl) (Kff.drew hK) ?_
  dsimp only [List.dropLast]
  repeat (first
    | go_big_quiet_skip
    | (go_big_quiet_want
       apply Exists.intro
       refine ⟨fun W hW => ?_, ?_⟩
       · obtain ⟨hKf, c0, c1, c2, d0, d1, d2, e0, e1, e2, f0, f1, f2⟩ := id hW
         unfold Oper.quietAt
         go_simp
         first
           | exact rfl
           | exact ⟨rfl, rfl⟩
           | (refine (h56 _ _ _ _).mono ?_
              rintro e W1 ⟨rfl, hb⟩
              exact ⟨rfl, Kff.step hW hb⟩)
       go_big_quiet_on
       simp only [Act.put, List.setIfInBounds_toArray, List.set_cons_zero, List.set_cons_succ]))
  refine wpQuiet_nil ?_
  intro W hW
  obtain ⟨hKf, c0, c1, c2, d0, d1, d2, e0, e1, e2, f0, f1, f2⟩ := id hW
  rw [if_pos (by rfl)]
  go_simp
  have hS := (Kff.store hW (.bool (thenOr thenF (false, false, true) (d, true, f)).1) (.bool (thenOr thenF (false, false, true) (d, true, f)).2.1) (.bool (thenOr thenF (false, false, true) (d, true, f)).2.2)).1.bel
  obtain ⟨z0, z1, z2⟩ := hKf.b3.last (.bool (thenOr thenF (false, false, true) (d, true, f)).1) (.bool (thenOr thenF (false, false, true) (d, true, f)).2.1) (.bool (thenOr thenF (false, false, true) (d, true, f)).2.2)
  simp only [thenOr, thenF, sucF, Bool.true_and, Bool.false_and, Bool.true_or, Bool.false_or, Bool.or_true, Bool.or_false, Bool.and_true, Bool.and_false, Bool.or_self, Bool.and_self] at hS z0 z1 z2
  clear c0 c1 c2 d0 d1 d2 e0 e1 e2 f0 f1 f2 hW hKf hK
  go_wp2_with fail
  exact bodyPost_ret (v := fval (thenF (false, false, true) (d, true, f))) (by simp [results, Try.results108, go_sem, z0, z1, z2, thenF, sucF, fval_eq]) rfl ⟨rfl, hS⟩
set_option maxRecDepth 20000 in
set_option maxHeartbeats 4000000 in
theorem then_16 (f : Bool) (w : World) : Calls Try.prog 108 #[fval (false, true, false), fval (true, false, f)] w fun r W' => r = .returned (fval (thenF (false, true, false) (true, false, f))) ∧ Below w.heap.size w W' := by
  rw [fval_eq, fval_eq]
  have h56 := suc_any
  have hK := Kff.new w false true false true false f
  go_enter Try.func108, Try.ntmps108
  go_wp2_with fail
  generalize ((w.alloc (.cells #[.bool false, .bool true, .bool false] 61)).alloc (.cells #[.bool true, .bool false, .bool f] 61)).alloc (.cells #[.bool false, .bool false, .bool false] 61) = w1 at *
  refine wp_region_lit (KffC w w.heap.size false true false true false f) _ _ (by kernel_rfl) rfl (by kernel_rfl) (by kernel_rfl) (Kff.drew hK) ?_
  dsimp only [List.dropLast]
  repeat (first
    | go_big_quiet_skip
    | (go_big_quiet_want
       apply Exists.intro
       refine ⟨fun W hW => ?_, ?_⟩
       · obtain ⟨hKf, c0, c1, c2, d0, d1, d2, e0, e1, e2, f0, f1, f2⟩ := id hW
         unfold Oper.quietAt
         go_simp
         first
           | exact rfl
           | exact ⟨rfl, rfl⟩
           | (refine (h56 _ _ _ _).mono ?_
              rintro e W1 ⟨rfl, hb⟩
              exact ⟨rfl, Kff.step hW hb⟩)
       go_big_quiet_on
       simp only [Act.put, List.setIfInBounds_toArray, List.set_cons_zero, List.set_cons_succ]))
  refine wpQuiet_nil ?_
  intro W hW
  obtain ⟨hKf, c0, c1, c2, d0, d1, d2, e0, e1, e2, f0, f1, f2⟩ := id hW
  rw [if_pos (by rfl)]
  go_simp
  have hS := (Kff.store hW (.bool (thenOr thenF (false, true, false) (true, false, f)).1) (.bool (thenOr thenF (false, true, false) (true, false, f)).2.1) (.bool (thenOr thenF (false, true, false) (true, false, f)).2.2)).1.bel
  obtain ⟨z0, z1, z2⟩ := hKf.b3.last (.bool (thenOr thenF (false, true, false) (true, false, f)).1) (.bool (thenOr thenF (false, true, false) (true, false, f)).2.1) (.bool (thenOr thenF (false, true, false) (true, false, f)).2.2)
  simp only [thenOr, thenF, sucF, Bool.true_and, Bool.false_and, Bool.true_or, Bool.false_or, Bool.or_true, Bool.or_false, Bool.and_true, Bool.and_false, Bool.or_self, Bool.and_self] at hS z0 z1 z2
  clear c0 c1 c2 d0 d1 d2 e0 e1 e2 f0 f1 f2 hW hKf hK
  go_wp2_with fail
  exact bodyPost_ret (v := fval (thenF (false, true, false) (true, false, f))) (by simp [results, Try.results108, go_sem, z0, z1, z2, thenF, sucF, fval_eq]) rfl ⟨rfl, hS⟩
set_option maxRecDepth 20000 in
set_option maxHeartbeats 4000000 in
theorem then_19 (d f : Bool) (w : World) : Calls Try.prog 108 #[fval (false, false, false), fval (d, false, f)] w fun r W' => r = .returned (fval (thenF (false, false, false) (d, false, f))) ∧ Below w.heap.size w W' := by
  rw [fval_eq, fval_eq]
  have h56 := suc_any
  have hK := Kff.new w false false false d false f
  go_enter Try.func108, Try.ntmps108
  go_wp2_with fail
  generalize ((w.alloc (.cells #[.bool false, .bool false, .bool false] 61)).alloc (.cells #[.bool d, .bool false, .bool f] 61)).alloc (.cells #[.bool false, .bool false, .bool false] 61) = w1 at *
  refine wp_region_lit (KffC w w.heap.size false false false d false f) _ _ (by kernel_rfl) rfl (by kernel_rfl) (by kernel_rfl) (Kff.drew hK) ?_
  dsimp only [List.dropLast]
  repeat (first
    | go_big_quiet_skip
    | (go_big_quiet_want
       apply Exists.intro
       refine ⟨fun W hW => ?_, ?_⟩
       · obtain ⟨hKf, c0, c1, c2, d0, d1, d2, e0, e1, e2, f0, f1, f2⟩ := id hW
         unfold Oper.quietAt
         go_simp
         first
           | exact rfl
           | exact ⟨rfl, rfl⟩
           | (refine (h56 _ _ _ _).mono ?_
              rintro e W1 ⟨rfl, hb⟩
              exact ⟨rfl, Kff.step hW hb⟩)
       go_big_quiet_on
       simp only [Act.put, List.setIfInBounds_toArray, List.set_cons_zero, List.set_cons_succ]))
  refine wpQuiet_nil ?_
  intro W hW
  obtain ⟨hKf, c0, c1, c2, d0, d1, d2, e0, e1, e2, f0, f1, f2⟩ := id hW
  rw [if_pos (by rfl)]
  go_simp
  have hS := (Kff.store hW (.bool (thenOr thenF (false, false, false) (d, false, f)).1) (.bool (thenOr thenF (false, false, false) (d, false, f)).2.1) (.bool (thenOr thenF (false, false, false) (d, false, f)).2.2)).1.bel
  obtain ⟨z0, z1, z2⟩ := hKf.b3.last (.bool (thenOr thenF (false, false, false) (d, false, f)).1) (.bool (thenOr thenF (false, false, false) (d, false, f)).2.1) (.bool (thenOr thenF (false, false, false) (d, false, f)).2.2)
  simp only [thenOr, thenF, sucF, Bool.true_and, Bool.false_and, Bool.true_or, Bool.false_or, Bool.or_true, Bool.or_false, Bool.and_true, Bool.and_false, Bool.or_self, Bool.and_self] at hS z0 z1 z2
  clear c0 c1 c2 d0 d1 d2 e0 e1 e2 f0 f1 f2 hW hKf hK
  go_wp2_with fail
  exact bodyPost_ret (v := fval (thenF (false, false, false) (d, false, f))) (by simp [results, Try.results108, go_sem, z0, z1, z2, thenF, sucF, fval_eq]) rfl ⟨rfl, hS⟩
end Go.Proofs.Ytokdaapmejccbaa
namespace Go.Proofs.Ytokdaapmejccbaa
open Go.RowKit
set_option linter.unusedVariables false
set_option linter.unusedSimpArgs false
set_option maxRecDepth 20000 in
set_option maxHeartbeats 4000000 in
theorem then_2 (f : Bool) (w : World) : Calls Try.prog 108 #[fval (true, true, true), fval (false, false, f)] w fun r W' => r = .returned (fval (thenF (true, true, true) (false, false, f))) ∧ Below w.heap.size w W' := by
  rw [fval_eq, fval_eq]
  have h56 := suc_any
  have hK := Kff.new w true true true false false f
  go_enter Try.func108, Try.ntmps108
  go_wp2_with fail
  generalize ((w.alloc (.cells #[.bool true, .bool true, .bool true] 61)).alloc (.cells #[.bool false, .bool false, .bool f] 61)).alloc (.cells #[.bool false, .bool false, .bool false] 61) = w1 at *
  refine wp_region_lit (KffC w w.heap.size true true true false false f) _ _ (by kernel_rfl) rfl (by kernel_rfl) (by kernel_rfl) (Kff.drew hK) ?_
  dsimp only [List.dropLast]
  repeat (first
    | go_big_quiet_skip
    | (go_big_quiet_want
       apply Exists.intro
       refine ⟨fun W hW => ?_, ?_⟩
       · obtain ⟨hKf, c0, c1, c2, d0, d1, d2, e0, e1, e2, f0, f1, f2⟩ := id hW
         unfold Oper.quietAt
         go_simp
         first
           | exact rfl
           | exact ⟨rfl, rfl⟩
           | (refine (h56 _ _ _ _).mono ?_
              rintro e W1 ⟨rfl, hb⟩
              exact ⟨rfl, Kff.step hW hb⟩)
       go_big_quiet_on
       simp only [Act.put, List.setIfInBounds_toArray, List.set_cons_zero, List.set_cons_succ]))
  refine wpQuiet_nil ?_
  intro W hW
  obtain ⟨hKf, c0, c1, c2, d0, d1, d2, e0, e1, e2, f0, f1, f2⟩ := id hW
  rw [if_pos (by rfl)]
  go_simp
  have hS := (Kff.store hW (.bool (thenOr thenF (true, true, true) (false, false, f)).1) (.bool (thenOr thenF (true, true, true) (false, false, f)).2.1) (.bool (thenOr thenF (true, true, true) (false, false, f)).2.2)).1.bel
  obtain ⟨z0, z1, z2⟩ := hKf.b3.last (.bool (thenOr thenF (true, true, true) (false, false, f)).1) (.bool (thenOr thenF (true, true, true) (false, false, f)).2.1) (.bool (thenOr thenF (true, true, true) (false, false, f)).2.2)
  simp only [thenOr, thenF, sucF, Bool.true_and, Bool.false_and, Bool.true_or, Bool.false_or, Bool.or_true, Bool.or_false, Bool.and_true, Bool.and_false, Bool.or_self, Bool.and_self] at hS z0 z1 z2
  clear c0 c1 c2 d0 d1 d2 e0 e1 e2 f0 f1 f2 hW hKf hK
  go_wp2_with fail
  exact bodyPost_ret (v := fval (thenF (true, true, true) (false, false, f))) (by simp [results, Try.results108, go_sem, z0, z1, z2, thenF, sucF, fval_eq]) rfl ⟨rfl, hS⟩
set_option maxRecDepth 20000 in
set_option maxHeartbeats 4000000 in
theorem then_5 (d f : Bool) (w : World) : Calls Try.prog 108 #[fval (true, true, false), fval (d, true, f)] w fun r W' => r = .returned (fval (thenF (true, true, false) (d, true, f))) ∧ Below w.heap.size w W' := by
  rw [fval_eq, fval_eq]
  have h56 := suc_any
  have hK := Kff.new w true true false d true f
  go_enter Try.func108, Try.ntmps108
  go_wp2_with fail
  generalize ((w.alloc (.cells #[.bool true, .bool true, .bool false] 61)).alloc (.cells #[.bool d, .bool true, .bool f] 61)).alloc (.cells #[.bool false, .bool false, .bool false] 61) = w1 at *
  refine wp_region_lit (KffC w w.heap.size true true false d true f) _ _ (by kernel_rfl) rfl (by kernel_rfl) (by kernel_rfl) (Kff.drew hK) ?_
  dsimp only [List.dropLast]
  repeat (first
    | go_big_quiet_skip
    | (go_big_quiet_want
       apply Exists.intro
       refine ⟨fun W hW => ?_, ?_⟩
       · obtain ⟨hKf, c0, c1, c2, d0, d1, d2, e0, e1, e2, f0, f1, f2⟩ := id hW
         unfold Oper.quietAt
         go_simp
         first
           | exact rfl
           | exact ⟨rfl, rfl⟩
           | (refine (h56 _ _ _ _).mono ?_
              rintro e W1 ⟨rfl, hb⟩
              exact ⟨rfl, Kff.step hW hb⟩)
       go_big_quiet_on
       simp only [Act.put, List.setIfInBounds_toArray, List.set_cons_zero, List.set_cons_succ]))
  refine wpQuiet_nil ?_
  intro W hW
  obtain ⟨hKf, c0, c1, c2, d0, d1, d2, e0, e1, e2, f0, f1, f2⟩ := id hW
  rw [if_pos (by rfl)]
  go_simp
  have hS := (Kff.store hW (.bool (thenOr thenF (true, true, false) (d, true, f)).1) (.bool (thenOr thenF (true, true, false) (d, true, f)).2.1) (.bool (thenOr thenF (true, true, false) (d, true, f)).2.2)).1.bel
  obtain ⟨z0, z1, z2⟩ := hKf.b3.last (.bool (thenOr thenF (true, true, false) (d, true, f)).1) (.bool (thenOr thenF (true, true, false) (d, true, f)).2.1) (.bool (thenOr thenF (true, true, false) (d, true, f)).2.2)
  simp only [thenOr, thenF, sucF, Bool.true_and, Bool.false_and, Bool.true_or, Bool.false_or, Bool.or_true, Bool.or_false, Bool.and_true, Bool.and_false, Bool.or_self, Bool.and_self] at hS z0 z1 z2
  clear c0 c1 c2 d0 d1 d2 e0 e1 e2 f0 f1 f2 hW hKf hK
  go_wp2_with fail
  exact bodyPost_ret (v := fval (thenF (true, true, false) (d, true, f))) (by simp [results, Try.results108, go_sem, z0, z1, z2, thenF, sucF, fval_eq]) rfl ⟨rfl, hS⟩
set_option maxRecDepth 20000 in
set_option maxHeartbeats 4000000 in
theorem then_8 (d f : Bool) (w : World) : Calls Try.prog 108 #[fval (true, false, false), fval (d, true, f)] w fun r W' => r = .returned (fval (thenF (true, false, false) (d, true, f))) ∧ Below w.heap.size w W' := by
  rw [fval_eq, fval_eq]
  have h56 := suc_any
  have hK := Kff.new w true false false d true f
  go_enter Try.func108, Try.ntmps108
  go_wp2_with fail
  generalize ((w.alloc (.cells #[.bool true, .bool false, .bool false] 61)).alloc (.cells #[.bool d, .bool true, .bool f] 61)).alloc (.cells #[.bool false, .bool false, .bool false] 61) = w1 at *
  refine wp_region_lit (KffC w w.heap.size true false false d true f) _ _ (by kernel_rfl) rfl (by kernel_rfl) (by kernel_rfl) (Kff.drew hK) ?_
  dsimp only [List.dropLast]
  repeat (first
    | go_big_quiet_skip
    | (go_big_quiet_want
       apply Exists.intro
       refine ⟨fun W hW => ?_, ?_⟩
       · obtain ⟨hKf, c0, c1, c2, d0, d1, d2, e0, e1, e2, f0, f1, f2⟩ := id hW
         unfold Oper.quietAt
         go_simp
         first
           | exact rfl
           | exact ⟨rfl, rfl⟩
           | (refine (h56 _ _ _ _).mono ?_
              rintro e W1 ⟨rfl, hb⟩
              exact ⟨rfl, Kff.step hW hb⟩)
       go_big_quiet_on
       simp only [Act.put, List.setIfInBounds_toArray, List.set_cons_zero, List.set_cons_succ]))
  refine wpQuiet_nil ?_
  intro W hW
  obtain ⟨hKf, c0, c1, c2, d0, d1, d2, e0, e1, e2, f0, f1, f2⟩ := id hW
  rw [if_pos (by rfl)]
  go_simp
  have hS := (Kff.store hW (.bool (thenOr thenF (true, false, false) (d, true, f)).1) (.bool (thenOr thenF (true, false, false) (d, true, f)).2.1) (.bool (thenOr thenF (true, false, false) (d, true, f)).2.2)).1.bel
  obtain ⟨z0, z1, z2⟩ := hKf.b3.last (.bool (thenOr thenF (true, false, false) (d, true, f)).1) (.bool (thenOr thenF (true, false, false) (d, true, f)).2.1) (.bool (thenOr thenF (true, false, false) (d, true, f)).2.2)
  simp only [thenOr, thenF, sucF, Bool.true_and, Bool.false_and, Bool.true_or, Bool.false_or, Bool.or_true, Bool.or_false, Bool.and_true, Bool.and_false, Bool.or_self, Bool.and_self] at hS z0 z1 z2
  clear c0 c1 c2 d0 d1 d2 e0 e1 e2 f0 f1 f2 hW hKf hK
  go_wp2_with fail
  exact bodyPost_ret (v := fval (thenF (true, false, false) (d, true, f))) (by simp [results, Try.results108, go_sem, z0, z1, z2, thenF, sucF, fval_eq]) rfl ⟨rfl, hS⟩
set_option maxRecDepth 20000 in
set_option maxHeartbeats 4000000 in
theorem then_11 (f : Bool) (w : World) : Calls Try.prog 108 #[fval (false, true, true), fval (true, false, f)] w fun r W' => r = .returned (fval (thenF (false, true, true) (true, false, f))) ∧ Below w.heap.size w W' := by
  rw [fval_eq, fval_eq]
  have h56 := suc_any
  have hK := Kff.new w false true true true false f
  go_enter Try.func108, Try.ntmps108
  go_wp2_with fail
  generalize ((w.alloc (.cells #[.bool false, .bool true, .bool true] 61)).alloc (.cells #[.bool true, .bool false, .bool f] 61)).alloc (.cells #[.bool false, .bool false, .bool false] 61) = w1 at *
  refine wp_region_lit (KffC w w.heap.size false true true true false f) _ _ (by kernel_rfl) rfl (by kernel_rfl) (by kernel_rfl) (Kff.drew hK) ?_
  dsimp only [List.dropLast]
  repeat (first
    | go_big_quiet_skip
    | (go_big_quiet_want
       apply Exists.intro
       refine ⟨fun W hW => ?_, ?_⟩
       · obtain ⟨hKf, c0, c1, c2, d0, d1, d2, e0, e1, e2, f0, f1, f2⟩ := id hW
         unfold Oper.quietAt
         go_simp
         first
           | exact rfl
           | exact ⟨rfl, rfl⟩
           | (refine (h56 _ _ _ _).mono ?_
              rintro e W1 ⟨rfl, hb⟩
              exact ⟨rfl, Kff.step hW hb⟩)
       go_big_quiet_on
       simp only [Act.put, List.setIfInBounds_toArray, List.set_cons_zero, List.set_cons_succ]))
  refine wpQuiet_nil ?_
  intro W hW
  obtain ⟨hKf, c0, c1, c2, d0, d1, d2, e0, e1, e2, f0, f1, f2⟩ := id hW
  rw [if_pos (by rfl)]
  go_simp
  have hS := (Kff.store hW (.bool (thenOr thenF (false, true, true) (true, false, f)).1) (.bool (thenOr thenF (false, true, true) (true, false, f)).2.1) (.bool (thenOr thenF (false, true, true) (true, false, f)).2.2)).1.bel
  obtain ⟨z0, z1, z2⟩ := hKf.b3.last (.bool (thenOr thenF (false, true, true) (true, false, f)).1) (.bool (thenOr thenF (false, true, true) (true, false, f)).2.1) (.bool (thenOr thenF (false, true, true) (true, false, f)).2.2)
  simp only [thenOr, thenF, sucF, Bool.true_and, Bool.false_and, Bool.true_or, Bool.false_or, Bool.or_true, Bool.or_false, Bool.and_true, Bool.and_false, Bool.or_self, Bool.and_self] at hS z0 z1 z2
  clear c0 c1 c2 d0 d1 d2 e0 e1 e2 f0 f1 f2 hW hKf hK
  go_wp2_with fail
  exact bodyPost_ret (v := fval (thenF (false, true, true) (true, false, f))) (by simp [results, Try.results108, go_sem, z0, z1, z2, thenF, sucF, fval_eq]) rfl ⟨rfl, hS⟩
set_option maxRecDepth 20000 in
set_option maxHeartbeats 4000000 in
theorem then_14 (d f : Bool) (w : World) : Calls Try.prog 108 #[fval (false, false, true), fval (d, false, f)] w fun r W' => r = .returned (fval (thenF (false, false, true) (d, false, f))) ∧ Below w.heap.size w W' := by
  rw [fval_eq, fval_eq]
  have h56 := suc_any
  have hK := Kff.new w false false true d false f
  go_enter Try.func108, Try.ntmps108
  go_wp2_with fail
  generalize ((w.alloc (.cells #[.bool false, .bool false, .bool true] 61)).alloc (.cells #[.bool d, .bool false, .bool f] 61)).alloc (.cells #[.bool false, .bool false, .bool false] 61) = w1 at *
  refine wp_region_lit (KffC w w.heap.size false false true d false f) _ _ (by kernel_rfl) rfl (by kernel_rfl) (by kernel_rfl) (Kff.drew hK) ?_
  dsimp only [List.dropLast]
  repeat (first
    | go_big_quiet_skip
    | (go_big_quiet_want
       apply Exists.intro
       refine ⟨fun W hW => ?_, ?_⟩
       · obtain ⟨hKf, c0, c1, c2, d0, d1, d2, e0, e1, e2, f0, f1, f2⟩ := id hW
         unfold Oper.quietAt
         go_simp
         first
           | exact rfl
           | exact ⟨rfl, rfl⟩
           | (refine (h56 _ _ _ _).mono ?_
              rintro e W1 ⟨rfl, hb⟩
              exact ⟨rfl, Kff.step hW hb⟩)
       go_big_quiet_on
       simp only [Act.put, List.setIfInBounds_toArray, List.set_cons_zero, List.set_cons_succ]))
  refine wpQuiet_nil ?_
  intro W hW
  obtain ⟨hKf, c0, c1, c2, d0, d1, d2, e0, e1, e2, f0, f1, f2⟩ := id hW
  rw [if_pos (by rfl)]
  go_simp
  have hS := (Kff.store hW (.bool (thenOr thenF (false, false, true) (d, false, f)).1) (.bool (thenOr thenF (false, false, true) (d, false, f)).2.1) (.bool (thenOr thenF (false, false, true) (d, false, f)).2.2)).1.bel
  obtain ⟨z0, z1, z2⟩ := hKf.b3.last (.bool (thenOr thenF (false, false, true) (d, false, f)).1) (.bool (thenOr thenF (false, false, true) (d, false, f)).2.1) (.bool (thenOr thenF (false, false, true) (d, false, f)).2.2)
  simp only [thenOr, thenF, sucF, Bool.true_and, Bool.false_and, Bool.true_or, Bool.false_or, Bool.or_true, Bool.or_false, Bool.and_true, Bool.and_false, Bool.or_self, Bool.and_self] at hS z0 z1 z2
  clear c0 c1 c2 d0 d1 d2 e0 e1 e2 f0 f1 f2 hW hKf hK
  go_wp2_with fail
  exact bodyPost_ret (v := fval (thenF (false, false, true) (d, false, f))) (by simp [results, Try.results108, go_sem, z0, z1, z2, thenF, sucF, fval_eq]) rfl ⟨rfl, hS⟩
set_option maxRecDepth 20000 in
set_option maxHeartbeats 4000000 in
theorem then_17 (f : Bool) (w : World) : Calls Try.prog 108 #[fval (false, true, false), fval (false, false, f)] w fun r W' => r = .returned (fval (thenF (false, true, false) (false, false, f))) ∧ Below w.heap.size w W' := by
  rw [fval_eq, fval_eq]
  have h56 := suc_any
  have hK := Kff.new w false true false false false f
  go_enter Try.func108, Try.ntmps108
  go_wp2_with fail
  generalize ((w.alloc (.cells #[.bool false, .bool true, .bool false] 61)).alloc (.cells #[.bool false, .bool false, .bool f] 61)).alloc (.cells #[.bool false, .bool false, .bool false] 61) = w1 at *
  refine wp_region_lit (KffC w w.heap.size false true false false false f) _ _ (by kernel_rfl) rfl (by kernel_rfl) (by kernel_rfl) (Kff.drew hK) ?_
  dsimp only [List.dropLast]
  repeat (first
    | go_big_quiet_skip
    | (go_big_quiet_want
       apply Exists.intro
       refine ⟨fun W hW => ?_, ?_⟩
       · obtain ⟨hKf, c0, c1, c2, d0, d1, d2, e0, e1, e2, f0, f1, f2⟩ := id hW
         unfold Oper.quietAt
         go_simp
         first
           | exact rfl
           | exact ⟨rfl, rfl⟩
           | (refine (h56 _ _ _ _).mono ?_
              rintro e W1 ⟨rfl, hb⟩
              exact ⟨rfl, Kff.step hW hb⟩)
       go_big_quiet_on
       simp only [Act.put, List.setIfInBounds_toArray, List.set_cons_zero, List.set_cons_succ]))
  refine wpQuiet_nil ?_
  intro W hW
  obtain ⟨hKf, c0, c1, c2, d0, d1, d2, e0, e1, e2, f0, f1, f2⟩ := id hW
  rw [if_pos (by rfl)]
  go_simp
  have hS := (Kff.store hW (.bool (thenOr thenF (false, true, false) (false, false, f)).1) (.bool (thenOr thenF (false, true, false) (false, false, f)).2.1) (.bool (thenOr thenF (false, true, false) (false, false, f)).2.2)).1.bel
  obtain ⟨z0, z1, z2⟩ := hKf.b3.last (.bool (thenOr thenF (false, true, false) (false, false, f)).1) (.bool (thenOr thenF (false, true, false) (false, false, f)).2.1) (.bool (thenOr thenF (false, true, false) (false, false, f)).2.2)
  simp only [thenOr, thenF, sucF, Bool.true_and, Bool.false_and, Bool.true_or, Bool.false_or, Bool.or_true, Bool.or_false, Bool.and_true, Bool.and_false, Bool.or_self, Bool.and_self] at hS z0 z1 z2
  clear c0 c1 c2 d0 d1 d2 e0 e1 e2 f0 f1 f2 hW hKf hK
  go_wp2_with fail
  exact bodyPost_ret (v := fval (thenF (false, true, false) (false, false, f))) (by simp [results, Try.results108, go_sem, z0, z1, z2, thenF, sucF, fval_eq]) rfl ⟨rfl, hS⟩
end Go.Proofs.Ytokdaapmejccbaa
namespace Go.Proofs.Ytokdaapmejccbaa
open Go.RowKit
set_option linter.unusedVariables false
set_option linter.unusedSimpArgs false
theorem then_any (f g : Fa) (w : World) : Calls Try.prog 108 #[fval f, fval g] w fun r W' => r = .returned (fval (thenF f g)) ∧ Below w.heap.size w W' :=
  match f, g with
  | (true, true, true), (d, true, f) => then_0 d f w
  | (true, true, true), (true, false, f) => then_1 f w
  | (true, true, true), (false, false, f) => then_2 f w
  | (true, false, true), (d, true, f) => then_3 d f w
  | (true, false, true), (d, false, f) => then_4 d f w
  | (true, true, false), (d, true, f) => then_5 d f w
  | (true, true, false), (true, false, f) => then_6 f w
  | (true, true, false), (false, false, f) => then_7 f w
  | (true, false, false), (d, true, f) => then_8 d f w
  | (true, false, false), (d, false, f) => then_9 d f w
  | (false, true, true), (d, true, f) => then_10 d f w
  | (false, true, true), (true, false, f) => then_11 f w
  | (false, true, true), (false, false, f) => then_12 f w
  | (false, false, true), (d, true, f) => then_13 d f w
  | (false, false, true), (d, false, f) => then_14 d f w
  | (false, true, false), (d, true, f) => then_15 d f w
  | (false, true, false), (true, false, f) => then_16 f w
  | (false, true, false), (false, false, f) => then_17 f w
  | (false, false, false), (d, true, f) => then_18 d f w
  | (false, false, false), (d, false, f) => then_19 d f w
end Go.Proofs.Ytokdaapmejccbaa
