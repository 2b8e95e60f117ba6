import Derived.Test.YtokdaapmejccbaaXOfR
import Derived.WalkKit
import Derived.Below
import Derived.Deep.QuietTactic
import Derived.BigQuiet
import Derived.BigRegion
namespace Go.Proofs.Ytokdaapmejccbaa
open Go.RowKit
set_option linter.unusedVariables false
set_option linter.unusedSimpArgs false
/-- What stays while a kind is asked. -/
structure Kw (w : World) (N : Nat) (a : Fa) (W : World) : Prop where
  o : Kfo w N W
  b : BoxN W (N + 1) 61 #[.bool a.1, .bool a.2.1, .bool a.2.2]
theorem Kw.step {w : World} {N : Nat} {a : Fa} {W W' : World} (h : Kw w N a W) (hb : Below W.heap.size W W') : Kw w N a W' := ⟨h.o.step hb, h.b.below hb h.b.lt⟩
theorem Kw.drew {w : World} {N : Nat} {a : Fa} {W : World} (h : Kw w N a W) : Kw w N a W.drew := h.step (Below.refl _ W).drew
theorem Kw.new (w : World) (a : Fa) : Kw w w.heap.size a ((w.alloc (.cells #[.bool false, .bool false, .bool false] 61)).alloc (.cells #[.bool a.1, .bool a.2.1, .bool a.2.2] 61)) := by
  have h2 := BoxN.new (w.alloc (.cells #[.bool false, .bool false, .bool false] 61)) 61 #[.bool a.1, .bool a.2.1, .bool a.2.2]
  rw [World.size_alloc] at h2
  exact ⟨(Kfo.new w).step ((Below.refl _ _).alloc (Nat.le_refl _) _), h2⟩
set_option maxRecDepth 20000 in
set_option maxHeartbeats 4000000 in
theorem withKids_5 (a : Fa) (l : List Fa) (B c : Nat) (w : World) (h : FAt w B 0 (a :: l)) (hl : l.length ≤ 100) (hc : l.length + 1 ≤ c) :
    Calls Try.prog 82 #[.int .i64 5, .slice (some ⟨B, 0, none⟩) (l.length + 1) c] w fun r W' => r = .returned (fval (mayK 5 (a :: l))) ∧ Below w.heap.size w W' := by
  have hA0 := (Below.refl w.heap.size w).alloc (Nat.le_refl _) (.cells #[.bool false, .bool false, .bool false] 61)
  have hA1 := hA0.alloc hA0.size (.cells #[.bool a.1, .bool a.2.1, .bool a.2.2] 61)
  have hK := Kw.new w a
  have hT : ∀ W, Below w.heap.size w W → Calls Try.prog 107 #[.slice (some ⟨B, 0, none⟩) (l.length + 1) c, .func (.func 108) #[] #[]] W fun r W' => r = .returned (.agg #[.bool (foldF thenF (a :: l)).1, .bool (foldF thenF (a :: l)).2.1, .bool (foldF thenF (a :: l)).2.2]) ∧ Below W.heap.size W W' := fun W hb => foldT_any l a B 0 c W (h.below hb h.lt) hl hc
  have hO : ∀ W, Below w.heap.size w W → Calls Try.prog 107 #[.slice (some ⟨B, 0, none⟩) (l.length + 1) c, .func (.func 109) #[] #[]] W fun r W' => r = .returned (.agg #[.bool (foldF orF (a :: l)).1, .bool (foldF orF (a :: l)).2.1, .bool (foldF orF (a :: l)).2.2]) ∧ Below W.heap.size W W' := fun W hb => foldO_any l a B 0 c W (h.below hb h.lt) hl hc
  have h55 : ∀ W, Calls Try.prog 110 #[.agg #[.bool a.1, .bool a.2.1, .bool a.2.2]] W fun r W' => r = .returned (.agg #[.bool (againF a).1, .bool (againF a).2.1, .bool (againF a).2.2]) ∧ Below W.heap.size W W' := fun W => again_any a W
  have h53 : ∀ W, Calls Try.prog 108 #[.agg #[.bool a.1, .bool a.2.1, .bool a.2.2], .agg #[.bool (againF a).1, .bool (againF a).2.1, .bool (againF a).2.2]] W fun r W' => r = .returned (.agg #[.bool (thenF a (againF a)).1, .bool (thenF a (againF a)).2.1, .bool (thenF a (againF a)).2.2]) ∧ Below W.heap.size W W' := fun W => then_any a (againF a) W
  have h54 : ∀ W, Calls Try.prog 109 #[.agg #[.bool a.1, .bool a.2.1, .bool a.2.2], .agg #[.bool true, .bool false, .bool false]] W fun r W' => r = .returned (.agg #[.bool (orF a (true, false, false)).1, .bool (orF a (true, false, false)).2.1, .bool (orF a (true, false, false)).2.2]) ∧ Below W.heap.size W W' := fun W => orElse_any a (true, false, false) W
  have h56 : ∀ W, Calls Try.prog 111 #[.agg #[.bool a.1, .bool a.2.1, .bool a.2.2]] W fun r W' => r = .returned (.bool (sucF a)) ∧ Below W.heap.size W W' := fun W => suc_any a.1 a.2.1 a.2.2 W
  have i0 : (0 : Int) < (l.length : Int) + 1 := by omega
  obtain ⟨c0, c1, c2⟩ := (h.below hA0 h.lt) 0 _ rfl
  simp only [Nat.zero_mul, Nat.add_zero, Nat.zero_add] at c0 c1 c2
  rw [show mayK 5 (a :: l) = (foldF thenF (a :: l)) from rfl]
  go_enter Try.func82, Try.ntmps82
  go_wp2_with (go_at_call 107; refine (hT _ hA1).mono ?_; rintro e W1 ⟨rfl, hb⟩
               have hS := (hK.step hb).o
               have hfin := hS.fin (.bool (foldF thenF (a :: l)).1) (.bool (foldF thenF (a :: l)).2.1) (.bool (foldF thenF (a :: l)).2.2)
               obtain ⟨z0, z1, z2⟩ := hS.sl.last (.bool (foldF thenF (a :: l)).1) (.bool (foldF thenF (a :: l)).2.1) (.bool (foldF thenF (a :: l)).2.2)
               have e0 := hS.sl.c 0 (by omega)
               have e1 := hS.sl.c 1 (by omega)
               have e2 := hS.sl.c 2 (by omega)
               have f0 := hS.sl.f 0
               have f1 := hS.sl.f 1
               have f2 := hS.sl.f 2)
  exact bodyPost_ret (v := fval (foldF thenF (a :: l))) (by simp [results, Try.results82, go_sem, z0, z1, z2, fval_eta]) rfl ⟨rfl, hfin⟩
set_option maxRecDepth 20000 in
set_option maxHeartbeats 4000000 in
theorem withKids_6 (a : Fa) (l : List Fa) (B c : Nat) (w : World) (h : FAt w B 0 (a :: l)) (hl : l.length ≤ 100) (hc : l.length + 1 ≤ c) :
    Calls Try.prog 82 #[.int .i64 6, .slice (some ⟨B, 0, none⟩) (l.length + 1) c] w fun r W' => r = .returned (fval (mayK 6 (a :: l))) ∧ Below w.heap.size w W' := by
  have hA0 := (Below.refl w.heap.size w).alloc (Nat.le_refl _) (.cells #[.bool false, .bool false, .bool false] 61)
  have hA1 := hA0.alloc hA0.size (.cells #[.bool a.1, .bool a.2.1, .bool a.2.2] 61)
  have hK := Kw.new w a
  have hT : ∀ W, Below w.heap.size w W → Calls Try.prog 107 #[.slice (some ⟨B, 0, none⟩) (l.length + 1) c, .func (.func 108) #[] #[]] W fun r W' => r = .returned (.agg #[.bool (foldF thenF (a :: l)).1, .bool (foldF thenF (a :: l)).2.1, .bool (foldF thenF (a :: l)).2.2]) ∧ Below W.heap.size W W' := fun W hb => foldT_any l a B 0 c W (h.below hb h.lt) hl hc
  have hO : ∀ W, Below w.heap.size w W → Calls Try.prog 107 #[.slice (some ⟨B, 0, none⟩) (l.length + 1) c, .func (.func 109) #[] #[]] W fun r W' => r = .returned (.agg #[.bool (foldF orF (a :: l)).1, .bool (foldF orF (a :: l)).2.1, .bool (foldF orF (a :: l)).2.2]) ∧ Below W.heap.size W W' := fun W hb => foldO_any l a B 0 c W (h.below hb h.lt) hl hc
  have h55 : ∀ W, Calls Try.prog 110 #[.agg #[.bool a.1, .bool a.2.1, .bool a.2.2]] W fun r W' => r = .returned (.agg #[.bool (againF a).1, .bool (againF a).2.1, .bool (againF a).2.2]) ∧ Below W.heap.size W W' := fun W => again_any a W
  have h53 : ∀ W, Calls Try.prog 108 #[.agg #[.bool a.1, .bool a.2.1, .bool a.2.2], .agg #[.bool (againF a).1, .bool (againF a).2.1, .bool (againF a).2.2]] W fun r W' => r = .returned (.agg #[.bool (thenF a (againF a)).1, .bool (thenF a (againF a)).2.1, .bool (thenF a (againF a)).2.2]) ∧ Below W.heap.size W W' := fun W => then_any a (againF a) W
  have h54 : ∀ W, Calls Try.prog 109 #[.agg #[.bool a.1, .bool a.2.1, .bool a.2.2], .agg #[.bool true, .bool false, .bool false]] W fun r W' => r = .returned (.agg #[.bool (orF a (true, false, false)).1, .bool (orF a (true, false, false)).2.1, .bool (orF a (true, false, false)).2.2]) ∧ Below W.heap.size W W' := fun W => orElse_any a (true, false, false) W
  have h56 : ∀ W, Calls Try.prog 111 #[.agg #[.bool a.1, .bool a.2.1, .bool a.2.2]] W fun r W' => r = .returned (.bool (sucF a)) ∧ Below W.heap.size W W' := fun W => suc_any a.1 a.2.1 a.2.2 W
  have i0 : (0 : Int) < (l.length : Int) + 1 := by omega
  obtain ⟨c0, c1, c2⟩ := (h.below hA0 h.lt) 0 _ rfl
  simp only [Nat.zero_mul, Nat.add_zero, Nat.zero_add] at c0 c1 c2
  rw [show mayK 6 (a :: l) = (foldF orF (a :: l)) from rfl]
  go_enter Try.func82, Try.ntmps82
  go_wp2_with (go_at_call 107; refine (hO _ hA1).mono ?_; rintro e W1 ⟨rfl, hb⟩
               have hS := (hK.step hb).o
               have hfin := hS.fin (.bool (foldF orF (a :: l)).1) (.bool (foldF orF (a :: l)).2.1) (.bool (foldF orF (a :: l)).2.2)
               obtain ⟨z0, z1, z2⟩ := hS.sl.last (.bool (foldF orF (a :: l)).1) (.bool (foldF orF (a :: l)).2.1) (.bool (foldF orF (a :: l)).2.2)
               have e0 := hS.sl.c 0 (by omega)
               have e1 := hS.sl.c 1 (by omega)
               have e2 := hS.sl.c 2 (by omega)
               have f0 := hS.sl.f 0
               have f1 := hS.sl.f 1
               have f2 := hS.sl.f 2)
  exact bodyPost_ret (v := fval (foldF orF (a :: l))) (by simp [results, Try.results82, go_sem, z0, z1, z2, fval_eta]) rfl ⟨rfl, hfin⟩
set_option maxRecDepth 20000 in
set_option maxHeartbeats 4000000 in
theorem withKids_7 (a : Fa) (l : List Fa) (B c : Nat) (w : World) (h : FAt w B 0 (a :: l)) (hl : l.length ≤ 100) (hc : l.length + 1 ≤ c) :
    Calls Try.prog 82 #[.int .i64 7, .slice (some ⟨B, 0, none⟩) (l.length + 1) c] w fun r W' => r = .returned (fval (mayK 7 (a :: l))) ∧ Below w.heap.size w W' := by
  have hA0 := (Below.refl w.heap.size w).alloc (Nat.le_refl _) (.cells #[.bool false, .bool false, .bool false] 61)
  have hA1 := hA0.alloc hA0.size (.cells #[.bool a.1, .bool a.2.1, .bool a.2.2] 61)
  have hK := Kw.new w a
  have hT : ∀ W, Below w.heap.size w W → Calls Try.prog 107 #[.slice (some ⟨B, 0, none⟩) (l.length + 1) c, .func (.func 108) #[] #[]] W fun r W' => r = .returned (.agg #[.bool (foldF thenF (a :: l)).1, .bool (foldF thenF (a :: l)).2.1, .bool (foldF thenF (a :: l)).2.2]) ∧ Below W.heap.size W W' := fun W hb => foldT_any l a B 0 c W (h.below hb h.lt) hl hc
  have hO : ∀ W, Below w.heap.size w W → Calls Try.prog 107 #[.slice (some ⟨B, 0, none⟩) (l.length + 1) c, .func (.func 109) #[] #[]] W fun r W' => r = .returned (.agg #[.bool (foldF orF (a :: l)).1, .bool (foldF orF (a :: l)).2.1, .bool (foldF orF (a :: l)).2.2]) ∧ Below W.heap.size W W' := fun W hb => foldO_any l a B 0 c W (h.below hb h.lt) hl hc
  have h55 : ∀ W, Calls Try.prog 110 #[.agg #[.bool a.1, .bool a.2.1, .bool a.2.2]] W fun r W' => r = .returned (.agg #[.bool (againF a).1, .bool (againF a).2.1, .bool (againF a).2.2]) ∧ Below W.heap.size W W' := fun W => again_any a W
  have h53 : ∀ W, Calls Try.prog 108 #[.agg #[.bool a.1, .bool a.2.1, .bool a.2.2], .agg #[.bool (againF a).1, .bool (againF a).2.1, .bool (againF a).2.2]] W fun r W' => r = .returned (.agg #[.bool (thenF a (againF a)).1, .bool (thenF a (againF a)).2.1, .bool (thenF a (againF a)).2.2]) ∧ Below W.heap.size W W' := fun W => then_any a (againF a) W
  have h54 : ∀ W, Calls Try.prog 109 #[.agg #[.bool a.1, .bool a.2.1, .bool a.2.2], .agg #[.bool true, .bool false, .bool false]] W fun r W' => r = .returned (.agg #[.bool (orF a (true, false, false)).1, .bool (orF a (true, false, false)).2.1, .bool (orF a (true, false, false)).2.2]) ∧ Below W.heap.size W W' := fun W => orElse_any a (true, false, false) W
  have h56 : ∀ W, Calls Try.prog 111 #[.agg #[.bool a.1, .bool a.2.1, .bool a.2.2]] W fun r W' => r = .returned (.bool (sucF a)) ∧ Below W.heap.size W W' := fun W => suc_any a.1 a.2.1 a.2.2 W
  have i0 : (0 : Int) < (l.length : Int) + 1 := by omega
  obtain ⟨c0, c1, c2⟩ := (h.below hA0 h.lt) 0 _ rfl
  simp only [Nat.zero_mul, Nat.add_zero, Nat.zero_add] at c0 c1 c2
  rw [show mayK 7 (a :: l) = (againF a) from rfl]
  go_enter Try.func82, Try.ntmps82
  go_wp2_with (go_at_call 110; refine (h55 _).mono ?_; rintro e W1 ⟨rfl, hb⟩
               have hS := (hK.step hb).o
               have hfin := hS.fin (.bool (againF a).1) (.bool (againF a).2.1) (.bool (againF a).2.2)
               obtain ⟨z0, z1, z2⟩ := hS.sl.last (.bool (againF a).1) (.bool (againF a).2.1) (.bool (againF a).2.2)
               have e0 := hS.sl.c 0 (by omega)
               have e1 := hS.sl.c 1 (by omega)
               have e2 := hS.sl.c 2 (by omega)
               have f0 := hS.sl.f 0
               have f1 := hS.sl.f 1
               have f2 := hS.sl.f 2)
  exact bodyPost_ret (v := fval (againF a)) (by simp [results, Try.results82, go_sem, z0, z1, z2, fval_eta]) rfl ⟨rfl, hfin⟩
set_option maxRecDepth 20000 in
set_option maxHeartbeats 4000000 in
theorem withKids_8 (a : Fa) (l : List Fa) (B c : Nat) (w : World) (h : FAt w B 0 (a :: l)) (hl : l.length ≤ 100) (hc : l.length + 1 ≤ c) :
    Calls Try.prog 82 #[.int .i64 8, .slice (some ⟨B, 0, none⟩) (l.length + 1) c] w fun r W' => r = .returned (fval (mayK 8 (a :: l))) ∧ Below w.heap.size w W' := by
  have hA0 := (Below.refl w.heap.size w).alloc (Nat.le_refl _) (.cells #[.bool false, .bool false, .bool false] 61)
  have hA1 := hA0.alloc hA0.size (.cells #[.bool a.1, .bool a.2.1, .bool a.2.2] 61)
  have hK := Kw.new w a
  have hT : ∀ W, Below w.heap.size w W → Calls Try.prog 107 #[.slice (some ⟨B, 0, none⟩) (l.length + 1) c, .func (.func 108) #[] #[]] W fun r W' => r = .returned (.agg #[.bool (foldF thenF (a :: l)).1, .bool (foldF thenF (a :: l)).2.1, .bool (foldF thenF (a :: l)).2.2]) ∧ Below W.heap.size W W' := fun W hb => foldT_any l a B 0 c W (h.below hb h.lt) hl hc
  have hO : ∀ W, Below w.heap.size w W → Calls Try.prog 107 #[.slice (some ⟨B, 0, none⟩) (l.length + 1) c, .func (.func 109) #[] #[]] W fun r W' => r = .returned (.agg #[.bool (foldF orF (a :: l)).1, .bool (foldF orF (a :: l)).2.1, .bool (foldF orF (a :: l)).2.2]) ∧ Below W.heap.size W W' := fun W hb => foldO_any l a B 0 c W (h.below hb h.lt) hl hc
  have h55 : ∀ W, Calls Try.prog 110 #[.agg #[.bool a.1, .bool a.2.1, .bool a.2.2]] W fun r W' => r = .returned (.agg #[.bool (againF a).1, .bool (againF a).2.1, .bool (againF a).2.2]) ∧ Below W.heap.size W W' := fun W => again_any a W
  have h53 : ∀ W, Calls Try.prog 108 #[.agg #[.bool a.1, .bool a.2.1, .bool a.2.2], .agg #[.bool (againF a).1, .bool (againF a).2.1, .bool (againF a).2.2]] W fun r W' => r = .returned (.agg #[.bool (thenF a (againF a)).1, .bool (thenF a (againF a)).2.1, .bool (thenF a (againF a)).2.2]) ∧ Below W.heap.size W W' := fun W => then_any a (againF a) W
  have h54 : ∀ W, Calls Try.prog 109 #[.agg #[.bool a.1, .bool a.2.1, .bool a.2.2], .agg #[.bool true, .bool false, .bool false]] W fun r W' => r = .returned (.agg #[.bool (orF a (true, false, false)).1, .bool (orF a (true, false, false)).2.1, .bool (orF a (true, false, false)).2.2]) ∧ Below W.heap.size W W' := fun W => orElse_any a (true, false, false) W
  have h56 : ∀ W, Calls Try.prog 111 #[.agg #[.bool a.1, .bool a.2.1, .bool a.2.2]] W fun r W' => r = .returned (.bool (sucF a)) ∧ Below W.heap.size W W' := fun W => suc_any a.1 a.2.1 a.2.2 W
  have i0 : (0 : Int) < (l.length : Int) + 1 := by omega
  obtain ⟨c0, c1, c2⟩ := (h.below hA0 h.lt) 0 _ rfl
  simp only [Nat.zero_mul, Nat.add_zero, Nat.zero_add] at c0 c1 c2
  rw [show mayK 8 (a :: l) = (thenF a (againF a)) from rfl]
  go_enter Try.func82, Try.ntmps82
  go_wp2_with fail
  generalize (w.alloc (.cells #[.bool false, .bool false, .bool false] 61)).alloc (.cells #[.bool a.1, .bool a.2.1, .bool a.2.2] 61) = w1 at *
  refine wp_region_lit (Kw w w.heap.size a) _ _ (by kernel_rfl) rfl (by kernel_rfl) (by kernel_rfl) (Kw.drew hK) ?_
  dsimp only [List.dropLast]
  repeat (first
    | go_big_quiet_skip
    | (go_big_quiet_want
       apply Exists.intro
       refine ⟨fun W hW => ?_, ?_⟩
       · have q0 : W.cell? ⟨w.heap.size + 1, 0, none⟩ = some (.bool a.1) := hW.b.cell 0
         have q1 : W.cell? ⟨w.heap.size + 1, 1, none⟩ = some (.bool a.2.1) := hW.b.cell 1
         have q2 : W.cell? ⟨w.heap.size + 1, 2, none⟩ = some (.bool a.2.2) := hW.b.cell 2
         unfold Oper.quietAt
         go_simp
         first
           | with_reducible exact rfl
           | with_reducible exact ⟨rfl, rfl⟩
           | (go_at_call 110
              refine (h55 W).mono ?_
              rintro e W1 ⟨rfl, hb⟩
              exact ⟨rfl, hW.step hb⟩)
           | (go_at_call 108
              refine (h53 W).mono ?_
              rintro e W1 ⟨rfl, hb⟩
              exact ⟨rfl, hW.step hb⟩)
       go_big_quiet_on
       simp only [Act.put, List.setIfInBounds_toArray, List.set_cons_zero, List.set_cons_succ]))
  refine wpQuiet_nil ?_
  intro W hW
  have hfin := hW.o.fin (.bool (thenF a (againF a)).1) (.bool (thenF a (againF a)).2.1) (.bool (thenF a (againF a)).2.2)
  obtain ⟨z0, z1, z2⟩ := hW.o.sl.last (.bool (thenF a (againF a)).1) (.bool (thenF a (againF a)).2.1) (.bool (thenF a (againF a)).2.2)
  have e0 := hW.o.sl.c 0 (by omega)
  have e1 := hW.o.sl.c 1 (by omega)
  have e2 := hW.o.sl.c 2 (by omega)
  have f0 := hW.o.sl.f 0
  have f1 := hW.o.sl.f 1
  have f2 := hW.o.sl.f 2
  rw [if_pos (by rfl)]
  go_simp
  go_wp2_with fail
  exact bodyPost_ret (v := fval (thenF a (againF a))) (by simp [results, Try.results82, go_sem, z0, z1, z2, fval_eta]) rfl ⟨rfl, hfin⟩
set_option maxRecDepth 20000 in
set_option maxHeartbeats 4000000 in
theorem withKids_9 (a : Fa) (l : List Fa) (B c : Nat) (w : World) (h : FAt w B 0 (a :: l)) (hl : l.length ≤ 100) (hc : l.length + 1 ≤ c) :
    Calls Try.prog 82 #[.int .i64 9, .slice (some ⟨B, 0, none⟩) (l.length + 1) c] w fun r W' => r = .returned (fval (mayK 9 (a :: l))) ∧ Below w.heap.size w W' := by
  have hA0 := (Below.refl w.heap.size w).alloc (Nat.le_refl _) (.cells #[.bool false, .bool false, .bool false] 61)
  have hA1 := hA0.alloc hA0.size (.cells #[.bool a.1, .bool a.2.1, .bool a.2.2] 61)
  have hK := Kw.new w a
  have hT : ∀ W, Below w.heap.size w W → Calls Try.prog 107 #[.slice (some ⟨B, 0, none⟩) (l.length + 1) c, .func (.func 108) #[] #[]] W fun r W' => r = .returned (.agg #[.bool (foldF thenF (a :: l)).1, .bool (foldF thenF (a :: l)).2.1, .bool (foldF thenF (a :: l)).2.2]) ∧ Below W.heap.size W W' := fun W hb => foldT_any l a B 0 c W (h.below hb h.lt) hl hc
  have hO : ∀ W, Below w.heap.size w W → Calls Try.prog 107 #[.slice (some ⟨B, 0, none⟩) (l.length + 1) c, .func (.func 109) #[] #[]] W fun r W' => r = .returned (.agg #[.bool (foldF orF (a :: l)).1, .bool (foldF orF (a :: l)).2.1, .bool (foldF orF (a :: l)).2.2]) ∧ Below W.heap.size W W' := fun W hb => foldO_any l a B 0 c W (h.below hb h.lt) hl hc
  have h55 : ∀ W, Calls Try.prog 110 #[.agg #[.bool a.1, .bool a.2.1, .bool a.2.2]] W fun r W' => r = .returned (.agg #[.bool (againF a).1, .bool (againF a).2.1, .bool (againF a).2.2]) ∧ Below W.heap.size W W' := fun W => again_any a W
  have h53 : ∀ W, Calls Try.prog 108 #[.agg #[.bool a.1, .bool a.2.1, .bool a.2.2], .agg #[.bool (againF a).1, .bool (againF a).2.1, .bool (againF a).2.2]] W fun r W' => r = .returned (.agg #[.bool (thenF a (againF a)).1, .bool (thenF a (againF a)).2.1, .bool (thenF a (againF a)).2.2]) ∧ Below W.heap.size W W' := fun W => then_any a (againF a) W
  have h54 : ∀ W, Calls Try.prog 109 #[.agg #[.bool a.1, .bool a.2.1, .bool a.2.2], .agg #[.bool true, .bool false, .bool false]] W fun r W' => r = .returned (.agg #[.bool (orF a (true, false, false)).1, .bool (orF a (true, false, false)).2.1, .bool (orF a (true, false, false)).2.2]) ∧ Below W.heap.size W W' := fun W => orElse_any a (true, false, false) W
  have h56 : ∀ W, Calls Try.prog 111 #[.agg #[.bool a.1, .bool a.2.1, .bool a.2.2]] W fun r W' => r = .returned (.bool (sucF a)) ∧ Below W.heap.size W W' := fun W => suc_any a.1 a.2.1 a.2.2 W
  have i0 : (0 : Int) < (l.length : Int) + 1 := by omega
  obtain ⟨c0, c1, c2⟩ := (h.below hA0 h.lt) 0 _ rfl
  simp only [Nat.zero_mul, Nat.add_zero, Nat.zero_add] at c0 c1 c2
  rw [show mayK 9 (a :: l) = (orF a (true, false, false)) from rfl]
  go_enter Try.func82, Try.ntmps82
  go_wp2_with (go_at_call 109; refine (h54 _).mono ?_; rintro e W1 ⟨rfl, hb⟩
               have hS := (hK.step hb).o
               have hfin := hS.fin (.bool (orF a (true, false, false)).1) (.bool (orF a (true, false, false)).2.1) (.bool (orF a (true, false, false)).2.2)
               obtain ⟨z0, z1, z2⟩ := hS.sl.last (.bool (orF a (true, false, false)).1) (.bool (orF a (true, false, false)).2.1) (.bool (orF a (true, false, false)).2.2)
               have e0 := hS.sl.c 0 (by omega)
               have e1 := hS.sl.c 1 (by omega)
               have e2 := hS.sl.c 2 (by omega)
               have f0 := hS.sl.f 0
               have f1 := hS.sl.f 1
               have f2 := hS.sl.f 2)
  exact bodyPost_ret (v := fval (orF a (true, false, false))) (by simp [results, Try.results82, go_sem, z0, z1, z2, fval_eta]) rfl ⟨rfl, hfin⟩
set_option maxRecDepth 20000 in
set_option maxHeartbeats 4000000 in
theorem withKids_10 (a : Fa) (l : List Fa) (B c : Nat) (w : World) (h : FAt w B 0 (a :: l)) (hl : l.length ≤ 100) (hc : l.length + 1 ≤ c) :
    Calls Try.prog 82 #[.int .i64 10, .slice (some ⟨B, 0, none⟩) (l.length + 1) c] w fun r W' => r = .returned (fval (mayK 10 (a :: l))) ∧ Below w.heap.size w W' := by
  have hA0 := (Below.refl w.heap.size w).alloc (Nat.le_refl _) (.cells #[.bool false, .bool false, .bool false] 61)
  have hA1 := hA0.alloc hA0.size (.cells #[.bool a.1, .bool a.2.1, .bool a.2.2] 61)
  have hK := Kw.new w a
  have hT : ∀ W, Below w.heap.size w W → Calls Try.prog 107 #[.slice (some ⟨B, 0, none⟩) (l.length + 1) c, .func (.func 108) #[] #[]] W fun r W' => r = .returned (.agg #[.bool (foldF thenF (a :: l)).1, .bool (foldF thenF (a :: l)).2.1, .bool (foldF thenF (a :: l)).2.2]) ∧ Below W.heap.size W W' := fun W hb => foldT_any l a B 0 c W (h.below hb h.lt) hl hc
  have hO : ∀ W, Below w.heap.size w W → Calls Try.prog 107 #[.slice (some ⟨B, 0, none⟩) (l.length + 1) c, .func (.func 109) #[] #[]] W fun r W' => r = .returned (.agg #[.bool (foldF orF (a :: l)).1, .bool (foldF orF (a :: l)).2.1, .bool (foldF orF (a :: l)).2.2]) ∧ Below W.heap.size W W' := fun W hb => foldO_any l a B 0 c W (h.below hb h.lt) hl hc
  have h55 : ∀ W, Calls Try.prog 110 #[.agg #[.bool a.1, .bool a.2.1, .bool a.2.2]] W fun r W' => r = .returned (.agg #[.bool (againF a).1, .bool (againF a).2.1, .bool (againF a).2.2]) ∧ Below W.heap.size W W' := fun W => again_any a W
  have h53 : ∀ W, Calls Try.prog 108 #[.agg #[.bool a.1, .bool a.2.1, .bool a.2.2], .agg #[.bool (againF a).1, .bool (againF a).2.1, .bool (againF a).2.2]] W fun r W' => r = .returned (.agg #[.bool (thenF a (againF a)).1, .bool (thenF a (againF a)).2.1, .bool (thenF a (againF a)).2.2]) ∧ Below W.heap.size W W' := fun W => then_any a (againF a) W
  have h54 : ∀ W, Calls Try.prog 109 #[.agg #[.bool a.1, .bool a.2.1, .bool a.2.2], .agg #[.bool true, .bool false, .bool false]] W fun r W' => r = .returned (.agg #[.bool (orF a (true, false, false)).1, .bool (orF a (true, false, false)).2.1, .bool (orF a (true, false, false)).2.2]) ∧ Below W.heap.size W W' := fun W => orElse_any a (true, false, false) W
  have h56 : ∀ W, Calls Try.prog 111 #[.agg #[.bool a.1, .bool a.2.1, .bool a.2.2]] W fun r W' => r = .returned (.bool (sucF a)) ∧ Below W.heap.size W W' := fun W => suc_any a.1 a.2.1 a.2.2 W
  have i0 : (0 : Int) < (l.length : Int) + 1 := by omega
  obtain ⟨c0, c1, c2⟩ := (h.below hA0 h.lt) 0 _ rfl
  simp only [Nat.zero_mul, Nat.add_zero, Nat.zero_add] at c0 c1 c2
  rw [show mayK 10 (a :: l) = ((sucF a, false, a.2.2) : Fa) from rfl]
  go_enter Try.func82, Try.ntmps82
  go_wp2_with fail
  generalize (w.alloc (.cells #[.bool false, .bool false, .bool false] 61)).alloc (.cells #[.bool a.1, .bool a.2.1, .bool a.2.2] 61) = w1 at *
  refine wp_region_lit (Kw w w.heap.size a) _ _ (by kernel_rfl) rfl (by kernel_rfl) (by kernel_rfl) (Kw.drew hK) ?_
  dsimp only [List.dropLast]
  repeat (first
    | go_big_quiet_skip
    | (go_big_quiet_want
       apply Exists.intro
       refine ⟨fun W hW => ?_, ?_⟩
       · have q0 : W.cell? ⟨w.heap.size + 1, 0, none⟩ = some (.bool a.1) := hW.b.cell 0
         have q1 : W.cell? ⟨w.heap.size + 1, 1, none⟩ = some (.bool a.2.1) := hW.b.cell 1
         have q2 : W.cell? ⟨w.heap.size + 1, 2, none⟩ = some (.bool a.2.2) := hW.b.cell 2
         unfold Oper.quietAt
         go_simp
         first
           | with_reducible exact rfl
           | with_reducible exact ⟨rfl, rfl⟩
           | (go_at_call 111
              refine (h56 W).mono ?_
              rintro e W1 ⟨rfl, hb⟩
              exact ⟨rfl, hW.step hb⟩)
       go_big_quiet_on
       simp only [Act.put, List.setIfInBounds_toArray, List.set_cons_zero, List.set_cons_succ]))
  refine wpQuiet_nil ?_
  intro W hW
  have hfin := hW.o.fin (.bool ((sucF a, false, a.2.2) : Fa).1) (.bool ((sucF a, false, a.2.2) : Fa).2.1) (.bool ((sucF a, false, a.2.2) : Fa).2.2)
  obtain ⟨z0, z1, z2⟩ := hW.o.sl.last (.bool ((sucF a, false, a.2.2) : Fa).1) (.bool ((sucF a, false, a.2.2) : Fa).2.1) (.bool ((sucF a, false, a.2.2) : Fa).2.2)
  have e0 := hW.o.sl.c 0 (by omega)
  have e1 := hW.o.sl.c 1 (by omega)
  have e2 := hW.o.sl.c 2 (by omega)
  have f0 := hW.o.sl.f 0
  have f1 := hW.o.sl.f 1
  have f2 := hW.o.sl.f 2
  rw [if_pos (by rfl)]
  go_simp
  go_wp2_with fail
  exact bodyPost_ret (v := fval ((sucF a, false, a.2.2) : Fa)) (by simp [results, Try.results82, go_sem, z0, z1, z2, fval_eta]) rfl ⟨rfl, hfin⟩
set_option maxRecDepth 20000 in
set_option maxHeartbeats 4000000 in
theorem withKids_11 (a : Fa) (l : List Fa) (B c : Nat) (w : World) (h : FAt w B 0 (a :: l)) (hl : l.length ≤ 100) (hc : l.length + 1 ≤ c) :
    Calls Try.prog 82 #[.int .i64 11, .slice (some ⟨B, 0, none⟩) (l.length + 1) c] w fun r W' => r = .returned (fval (mayK 11 (a :: l))) ∧ Below w.heap.size w W' := by
  have hA0 := (Below.refl w.heap.size w).alloc (Nat.le_refl _) (.cells #[.bool false, .bool false, .bool false] 61)
  have hA1 := hA0.alloc hA0.size (.cells #[.bool a.1, .bool a.2.1, .bool a.2.2] 61)
  have hK := Kw.new w a
  have hT : ∀ W, Below w.heap.size w W → Calls Try.prog 107 #[.slice (some ⟨B, 0, none⟩) (l.length + 1) c, .func (.func 108) #[] #[]] W fun r W' => r = .returned (.agg #[.bool (foldF thenF (a :: l)).1, .bool (foldF thenF (a :: l)).2.1, .bool (foldF thenF (a :: l)).2.2]) ∧ Below W.heap.size W W' := fun W hb => foldT_any l a B 0 c W (h.below hb h.lt) hl hc
  have hO : ∀ W, Below w.heap.size w W → Calls Try.prog 107 #[.slice (some ⟨B, 0, none⟩) (l.length + 1) c, .func (.func 109) #[] #[]] W fun r W' => r = .returned (.agg #[.bool (foldF orF (a :: l)).1, .bool (foldF orF (a :: l)).2.1, .bool (foldF orF (a :: l)).2.2]) ∧ Below W.heap.size W W' := fun W hb => foldO_any l a B 0 c W (h.below hb h.lt) hl hc
  have h55 : ∀ W, Calls Try.prog 110 #[.agg #[.bool a.1, .bool a.2.1, .bool a.2.2]] W fun r W' => r = .returned (.agg #[.bool (againF a).1, .bool (againF a).2.1, .bool (againF a).2.2]) ∧ Below W.heap.size W W' := fun W => again_any a W
  have h53 : ∀ W, Calls Try.prog 108 #[.agg #[.bool a.1, .bool a.2.1, .bool a.2.2], .agg #[.bool (againF a).1, .bool (againF a).2.1, .bool (againF a).2.2]] W fun r W' => r = .returned (.agg #[.bool (thenF a (againF a)).1, .bool (thenF a (againF a)).2.1, .bool (thenF a (againF a)).2.2]) ∧ Below W.heap.size W W' := fun W => then_any a (againF a) W
  have h54 : ∀ W, Calls Try.prog 109 #[.agg #[.bool a.1, .bool a.2.1, .bool a.2.2], .agg #[.bool true, .bool false, .bool false]] W fun r W' => r = .returned (.agg #[.bool (orF a (true, false, false)).1, .bool (orF a (true, false, false)).2.1, .bool (orF a (true, false, false)).2.2]) ∧ Below W.heap.size W W' := fun W => orElse_any a (true, false, false) W
  have h56 : ∀ W, Calls Try.prog 111 #[.agg #[.bool a.1, .bool a.2.1, .bool a.2.2]] W fun r W' => r = .returned (.bool (sucF a)) ∧ Below W.heap.size W W' := fun W => suc_any a.1 a.2.1 a.2.2 W
  have i0 : (0 : Int) < (l.length : Int) + 1 := by omega
  obtain ⟨c0, c1, c2⟩ := (h.below hA0 h.lt) 0 _ rfl
  simp only [Nat.zero_mul, Nat.add_zero, Nat.zero_add] at c0 c1 c2
  rw [show mayK 11 (a :: l) = ((a.2.2, false, sucF a) : Fa) from rfl]
  go_enter Try.func82, Try.ntmps82
  go_wp2_with fail
  generalize (w.alloc (.cells #[.bool false, .bool false, .bool false] 61)).alloc (.cells #[.bool a.1, .bool a.2.1, .bool a.2.2] 61) = w1 at *
  refine wp_region_lit (Kw w w.heap.size a) _ _ (by kernel_rfl) rfl (by kernel_rfl) (by kernel_rfl) (Kw.drew hK) ?_
  dsimp only [List.dropLast]
  repeat (first
    | go_big_quiet_skip
    | (go_big_quiet_want
       apply Exists.intro
       refine ⟨fun W hW => ?_, ?_⟩
       · have q0 : W.cell? ⟨w.heap.size + 1, 0, none⟩ = some (.bool a.1) := hW.b.cell 0
         have q1 : W.cell? ⟨w.heap.size + 1, 1, none⟩ = some (.bool a.2.1) := hW.b.cell 1
         have q2 : W.cell? ⟨w.heap.size + 1, 2, none⟩ = some (.bool a.2.2) := hW.b.cell 2
         unfold Oper.quietAt
         go_simp
         first
           | with_reducible exact rfl
           | with_reducible exact ⟨rfl, rfl⟩
           | (go_at_call 111
              refine (h56 W).mono ?_
              rintro e W1 ⟨rfl, hb⟩
              exact ⟨rfl, hW.step hb⟩)
       go_big_quiet_on
       simp only [Act.put, List.setIfInBounds_toArray, List.set_cons_zero, List.set_cons_succ]))
  refine wpQuiet_nil ?_
  intro W hW
  have hfin := hW.o.fin (.bool ((a.2.2, false, sucF a) : Fa).1) (.bool ((a.2.2, false, sucF a) : Fa).2.1) (.bool ((a.2.2, false, sucF a) : Fa).2.2)
  obtain ⟨z0, z1, z2⟩ := hW.o.sl.last (.bool ((a.2.2, false, sucF a) : Fa).1) (.bool ((a.2.2, false, sucF a) : Fa).2.1) (.bool ((a.2.2, false, sucF a) : Fa).2.2)
  have e0 := hW.o.sl.c 0 (by omega)
  have e1 := hW.o.sl.c 1 (by omega)
  have e2 := hW.o.sl.c 2 (by omega)
  have f0 := hW.o.sl.f 0
  have f1 := hW.o.sl.f 1
  have f2 := hW.o.sl.f 2
  rw [if_pos (by rfl)]
  go_simp
  go_wp2_with fail
  exact bodyPost_ret (v := fval ((a.2.2, false, sucF a) : Fa)) (by simp [results, Try.results82, go_sem, z0, z1, z2, fval_eta]) rfl ⟨rfl, hfin⟩
theorem withKids_any (k : Int) (hk : 5 ≤ k ∧ k ≤ 11) (a : Fa) (l : List Fa) (B c : Nat) (w : World) (h : FAt w B 0 (a :: l)) (hl : l.length ≤ 100) (hc : l.length + 1 ≤ c) :
    Calls Try.prog 82 #[.int .i64 k, .slice (some ⟨B, 0, none⟩) (l.length + 1) c] w fun r W' => r = .returned (fval (mayK k (a :: l))) ∧ Below w.heap.size w W' := by
  have : k = 5 ∨ k = 6 ∨ k = 7 ∨ k = 8 ∨ k = 9 ∨ k = 10 ∨ k = 11 := by omega
  rcases this with e | e | e | e | e | e | e <;> rw [e]
  · exact withKids_5 a l B c w h hl hc
  · exact withKids_6 a l B c w h hl hc
  · exact withKids_7 a l B c w h hl hc
  · exact withKids_8 a l B c w h hl hc
  · exact withKids_9 a l B c w h hl hc
  · exact withKids_10 a l B c w h hl hc
  · exact withKids_11 a l B c w h hl hc
end Go.Proofs.Ytokdaapmejccbaa
