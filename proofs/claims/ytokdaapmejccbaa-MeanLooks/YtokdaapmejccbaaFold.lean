import Derived.Test.YtokdaapmejccbaaThen
import Derived.Test.YtokdaapmejccbaaFoldA
import Derived.Test.YtokdaapmejccbaaOrElse
import Derived.WalkKit
import Derived.Below
import Derived.Deep.QuietTactic
import Derived.BigQuiet
import Derived.BigRegion
namespace Go.Proofs.Ytokdaapmejccbaa
open Go.RowKit
set_option linter.unusedVariables false
set_option linter.unusedSimpArgs false
set_option maxRecDepth 20000 in
set_option maxHeartbeats 4000000 in
theorem fold1 (g : FuncId) (a : Fa) (B o c : Nat) (w : World) (h : FAt w B o [a]) :
    Calls Try.prog 107 #[.slice (some ⟨B, o, none⟩) 1 c, .func (.func g) #[] #[]] w fun r W' => r = .returned (fval a) ∧ Below w.heap.size w W' := by
  have hA0 := (Below.refl w.heap.size w).alloc (Nat.le_refl _) (.cells #[.bool false, .bool false, .bool false] 61)
  have hA := (Below.refl w.heap.size w).alloc (Nat.le_refl _) (.cells #[.bool a.1, .bool a.2.1, .bool a.2.2] 61)
  obtain ⟨c0, c1, c2⟩ := (h.below hA0 h.lt) 0 _ rfl
  simp only [Nat.zero_mul, Nat.add_zero] at c0 c1 c2
  obtain ⟨x, y, z⟩ := a
  go_enter Try.func107, Try.ntmps107
  go_wp2_with fail
  exact bodyPost_ret (v := fval (x, y, z)) (by simp [results, Try.results107, go_sem, fval_eq]) rfl ⟨rfl, hA⟩
/-- What stays while two are made one. -/
structure Kfo (w : World) (N : Nat) (W : World) : Prop where
  bel : Below w.heap.size w W
  le : w.heap.size ≤ N
  sl : Sl W N
theorem Kfo.step {w : World} {N : Nat} {W W' : World} (h : Kfo w N W) (hb : Below W.heap.size W W') : Kfo w N W' := ⟨h.bel.trans (hb.mono h.bel.size), h.le, h.sl.below hb h.sl.lt⟩
theorem Kfo.drew {w : World} {N : Nat} {W : World} (h : Kfo w N W) : Kfo w N W.drew := h.step (Below.refl _ W).drew
theorem Kfo.put {w : World} {N : Nat} {W : World} (h : Kfo w N W) (j : Nat) (v : Value) : Kfo w N (W.setCell ⟨N, j, none⟩ v) := ⟨h.bel.setCell h.le v, h.le, h.sl.set j v⟩
theorem Kfo.new (w : World) : Kfo w w.heap.size (w.alloc (.cells #[.bool false, .bool false, .bool false] 61)) := ⟨(Below.refl _ w).alloc (Nat.le_refl _) _, Nat.le_refl _, ⟨_, BoxN.new w 61 _, rfl⟩⟩
theorem Kfo.fin {w : World} {N : Nat} {W : World} (h : Kfo w N W) (u v x : Value) : Below w.heap.size w (((W.setCell ⟨N, 0, none⟩ u).setCell ⟨N, 1, none⟩ v).setCell ⟨N, 2, none⟩ x) := (((h.put 0 u).put 1 v).put 2 x).bel
set_option maxRecDepth 20000 in
set_option maxHeartbeats 4000000 in
theorem foldT (a b : Fa) (l : List Fa) (B o c : Nat) (w : World) (h : FAt w B o (a :: b :: l)) (hl : l.length ≤ 100) (hc : l.length + 2 ≤ c)
    (hf : ∀ W, Below w.heap.size w W → Calls Try.prog 107 #[.slice (some ⟨B, o + 3, none⟩) (l.length + 1) (c - 1), .func (.func 108) #[] #[]] W fun r W' => r = .returned (fval (foldF thenF (b :: l))) ∧ Below W.heap.size W W') :
    Calls Try.prog 107 #[.slice (some ⟨B, o, none⟩) (l.length + 2) c, .func (.func 108) #[] #[]] w fun r W' => r = .returned (fval (thenF a (foldF thenF (b :: l)))) ∧ Below w.heap.size w W' := by
  have hB := h.lt
  have hFA : Hid (∀ W, Below w.heap.size w W → FAt W B o (a :: b :: l)) := fun W hb => h.below hb hB
  have hK := Kfo.new w
  have g1 : ((l.length : Int) + 2 == 1) = false := by rw [beq_eq_false_iff_ne]; omega
  have i0 : (0 : Int) < (l.length : Int) + 2 := by omega
  have i3 : ¬ c = 1 := by omega
  have i1 : (1 : Int) ≤ (l.length : Int) + 2 := by omega
  have i2 : (l.length : Int) + 2 ≤ (c : Int) := by omega
  have g1' : ((↑(l.length + 2) : Int) == 1) = false := by rw [beq_eq_false_iff_ne]; omega
  generalize foldF thenF (b :: l) = R at *
  have htw : ∀ W, Calls Try.prog 108 #[.agg #[.bool a.1, .bool a.2.1, .bool a.2.2], fval R] W fun r W' => r = .returned (fval (thenF a R)) ∧ Below W.heap.size W W' := fun W => then_any a R W
  go_enter Try.func107, Try.ntmps107
  go_wp2_with fail
  generalize w.alloc (.cells #[.bool false, .bool false, .bool false] 61) = w1 at *
  refine wp_region_lit (Kfo w w.heap.size) _ _ (by kernel_rfl) rfl (by kernel_rfl) (by kernel_rfl) (Kfo.drew hK) ?_
  dsimp only [List.dropLast]
  repeat (first
    | go_big_quiet_skip
    | (go_big_quiet_want
       apply Exists.intro
       refine ⟨fun W hW => ?_, ?_⟩
       · obtain ⟨c0, c1, c2⟩ := hFA.out W hW.bel 0 _ rfl
         simp only [Nat.zero_mul, Nat.add_zero] at c0 c1 c2
         unfold Oper.quietAt
         go_simp
         first
           | with_reducible exact rfl
           | with_reducible exact ⟨rfl, rfl⟩
           | (go_at_call 107
              refine (hf W hW.bel).mono ?_
              rintro e W1 ⟨rfl, hb⟩
              exact ⟨rfl, hW.step hb⟩)
           | (refine (htw W).mono ?_
              rintro e W1 ⟨rfl, hb⟩
              exact ⟨rfl, hW.step hb⟩)
       go_big_quiet_on
       simp only [Act.put, List.setIfInBounds_toArray, List.set_cons_zero, List.set_cons_succ]))
  refine wpQuiet_nil ?_
  intro W hW
  have hfin := hW.fin (.bool (thenF a R).1) (.bool (thenF a R).2.1) (.bool (thenF a R).2.2)
  obtain ⟨z0, z1, z2⟩ := hW.sl.last (.bool (thenF a R).1) (.bool (thenF a R).2.1) (.bool (thenF a R).2.2)
  have e0 := hW.sl.c 0 (by omega)
  have e1 := hW.sl.c 1 (by omega)
  have e2 := hW.sl.c 2 (by omega)
  have f0 := hW.sl.f 0
  have f1 := hW.sl.f 1
  have f2 := hW.sl.f 2
  rw [fval_eta (thenF a R)]
  rw [if_pos (by rfl)]
  go_simp
  go_wp2_with fail
  exact bodyPost_ret (v := fval (thenF a R)) (by simp [results, Try.results107, go_sem, z0, z1, z2, fval_eta]) rfl ⟨rfl, hfin⟩
theorem foldT_any : ∀ (l : List Fa) (a : Fa) (B o c : Nat) (w : World), FAt w B o (a :: l) → l.length ≤ 100 → l.length + 1 ≤ c →
    Calls Try.prog 107 #[.slice (some ⟨B, o, none⟩) (l.length + 1) c, .func (.func 108) #[] #[]] w fun r W' => r = .returned (fval (foldF thenF (a :: l))) ∧ Below w.heap.size w W'
  | [], a, B, o, c, w, h, _, _ => by rw [foldF, if_pos rfl]; exact fold1 108 a B o c w h
  | b :: l, a, B, o, c, w, h, hl, hc => by
    rw [foldF, if_neg (by simp)]
    have hl' : l.length ≤ 100 := by simp at hl; omega
    have hc' : l.length + 2 ≤ c := by simp at hc; omega
    exact foldT a b l B o c w h hl' hc' fun W hb => foldT_any l b B (o + 3) (c - 1) W (h.below hb h.lt).tail hl' (by omega)
set_option maxRecDepth 20000 in
set_option maxHeartbeats 4000000 in
theorem foldO (a b : Fa) (l : List Fa) (B o c : Nat) (w : World) (h : FAt w B o (a :: b :: l)) (hl : l.length ≤ 100) (hc : l.length + 2 ≤ c)
    (hf : ∀ W, Below w.heap.size w W → Calls Try.prog 107 #[.slice (some ⟨B, o + 3, none⟩) (l.length + 1) (c - 1), .func (.func 109) #[] #[]] W fun r W' => r = .returned (fval (foldF orF (b :: l))) ∧ Below W.heap.size W W') :
    Calls Try.prog 107 #[.slice (some ⟨B, o, none⟩) (l.length + 2) c, .func (.func 109) #[] #[]] w fun r W' => r = .returned (fval (orF a (foldF orF (b :: l)))) ∧ Below w.heap.size w W' := by
  have hB := h.lt
  have hFA : Hid (∀ W, Below w.heap.size w W → FAt W B o (a :: b :: l)) := fun W hb => h.below hb hB
  have hK := Kfo.new w
  have g1 : ((l.length : Int) + 2 == 1) = false := by rw [beq_eq_false_iff_ne]; omega
  have i0 : (0 : Int) < (l.length : Int) + 2 := by omega
  have i3 : ¬ c = 1 := by omega
  have i1 : (1 : Int) ≤ (l.length : Int) + 2 := by omega
  have i2 : (l.length : Int) + 2 ≤ (c : Int) := by omega
  have g1' : ((↑(l.length + 2) : Int) == 1) = false := by rw [beq_eq_false_iff_ne]; omega
  generalize foldF orF (b :: l) = R at *
  have htw : ∀ W, Calls Try.prog 109 #[.agg #[.bool a.1, .bool a.2.1, .bool a.2.2], fval R] W fun r W' => r = .returned (fval (orF a R)) ∧ Below W.heap.size W W' := fun W => orElse_any a R W
  go_enter Try.func107, Try.ntmps107
  go_wp2_with fail
  generalize w.alloc (.cells #[.bool false, .bool false, .bool false] 61) = w1 at *
  refine wp_region_lit (Kfo w w.heap.size) _ _ (by kernel_rfl) rfl (by kernel_rfl) (by kernel_rfl) (Kfo.drew hK) ?_
  dsimp only [List.dropLast]
  repeat (first
    | go_big_quiet_skip
    | (go_big_quiet_want
       apply Exists.intro
       refine ⟨fun W hW => ?_, ?_⟩
       · obtain ⟨c0, c1, c2⟩ := hFA.out W hW.bel 0 _ rfl
         simp only [Nat.zero_mul, Nat.add_zero] at c0 c1 c2
         unfold Oper.quietAt
         go_simp
         first
           | with_reducible exact rfl
           | with_reducible exact ⟨rfl, rfl⟩
           | (go_at_call 107
              refine (hf W hW.bel).mono ?_
              rintro e W1 ⟨rfl, hb⟩
              exact ⟨rfl, hW.step hb⟩)
           | (refine (htw W).mono ?_
              rintro e W1 ⟨rfl, hb⟩
              exact ⟨rfl, hW.step hb⟩)
       go_big_quiet_on
       simp only [Act.put, List.setIfInBounds_toArray, List.set_cons_zero, List.set_cons_succ]))
  refine wpQuiet_nil ?_
  intro W hW
  have hfin := hW.fin (.bool (orF a R).1) (.bool (orF a R).2.1) (.bool (orF a R).2.2)
  obtain ⟨z0, z1, z2⟩ := hW.sl.last (.bool (orF a R).1) (.bool (orF a R).2.1) (.bool (orF a R).2.2)
  have e0 := hW.sl.c 0 (by omega)
  have e1 := hW.sl.c 1 (by omega)
  have e2 := hW.sl.c 2 (by omega)
  have f0 := hW.sl.f 0
  have f1 := hW.sl.f 1
  have f2 := hW.sl.f 2
  rw [fval_eta (orF a R)]
  rw [if_pos (by rfl)]
  go_simp
  go_wp2_with fail
  exact bodyPost_ret (v := fval (orF a R)) (by simp [results, Try.results107, go_sem, z0, z1, z2, fval_eta]) rfl ⟨rfl, hfin⟩
theorem foldO_any : ∀ (l : List Fa) (a : Fa) (B o c : Nat) (w : World), FAt w B o (a :: l) → l.length ≤ 100 → l.length + 1 ≤ c →
    Calls Try.prog 107 #[.slice (some ⟨B, o, none⟩) (l.length + 1) c, .func (.func 109) #[] #[]] w fun r W' => r = .returned (fval (foldF orF (a :: l))) ∧ Below w.heap.size w W'
  | [], a, B, o, c, w, h, _, _ => by rw [foldF, if_pos rfl]; exact fold1 109 a B o c w h
  | b :: l, a, B, o, c, w, h, hl, hc => by
    rw [foldF, if_neg (by simp)]
    have hl' : l.length ≤ 100 := by simp at hl; omega
    have hc' : l.length + 2 ≤ c := by simp at hc; omega
    exact foldO a b l B o c w h hl' hc' fun W hb => foldO_any l b B (o + 3) (c - 1) W (h.below hb h.lt).tail hl' (by omega)
end Go.Proofs.Ytokdaapmejccbaa
