import Derived.Test.YtokdaapmejccbaaXRbi
import Derived.WalkKit
import Derived.Below
import Derived.Deep.QuietTactic
import Derived.BigQuiet
import Derived.BigRegion
namespace Go.Proofs.Ytokdaapmejccbaa
open Go.RowKit
set_option linter.unusedVariables false
set_option linter.unusedSimpArgs false
set_option maxRecDepth 20000 in
set_option maxHeartbeats 4000000 in
theorem mayAll_0_0 (n : Nat) (B o c : Nat) (w : World) (hc : n + 2 ≤ c) (hn : n ≤ 100) (c0 : w.cell? ⟨B, o, none⟩ = some (.int .i64 0))
    (hf : ∀ W, Below w.heap.size w W → Calls Try.prog 101 #[.slice (some ⟨B, o + 1, none⟩) (n + 1) (c - 1)] W fun r W' => r = .returned (.int .i64 0) ∧ Below W.heap.size W W') :
    Calls Try.prog 101 #[.slice (some ⟨B, o, none⟩) (n + 2) c] w fun r W' => r = .returned (.int .i64 0) ∧ Below w.heap.size w W' := by
  have g1 : ((n : Int) + 2 == 1) = false := by rw [beq_eq_false_iff_ne]; omega
  have i0 : (0 : Int) < (n : Int) + 2 := by omega
  have i1 : (1 : Int) ≤ (n : Int) + 2 := by omega
  have i2 : (n : Int) + 2 ≤ (c : Int) := by omega
  have i3 : ¬ c = 1 := by omega
  have hB := World.block_lt_of_cell? w _ c0
  have hc0 : Hid (∀ W, Below w.heap.size w W → W.cell? ⟨B, o, none⟩ = w.cell? ⟨B, o, none⟩) := fun W hb => hb.cell (p := ⟨B, o, none⟩) hB
  go_enter Try.func101, Try.ntmps101
  go_wp2_with fail
  refine wp_region_lit (fun W => Below w.heap.size w W) _ _ (by kernel_rfl) rfl (by kernel_rfl) (by kernel_rfl) (below_drew1 (Below.refl _ w)) ?_
  dsimp only [List.dropLast]
  repeat (first
    | go_big_quiet_skip
    | (go_big_quiet_want
       apply Exists.intro
       refine ⟨fun W hW => ?_, ?_⟩
       · have q0 := (hc0.out W hW).trans c0
         unfold Oper.quietAt
         go_simp
         first
           | with_reducible exact rfl
           | with_reducible exact ⟨rfl, rfl⟩
           | (go_at_call 101
              refine (hf W hW).mono ?_
              rintro e W1 ⟨rfl, hb⟩
              exact ⟨rfl, hW.trans (hb.mono hW.size)⟩)
       go_big_quiet_on
       simp only [Act.put, List.setIfInBounds_toArray, List.set_cons_zero, List.set_cons_succ]))
  refine wpQuiet_nil ?_
  intro W hW
  rw [if_pos (by rfl)]
  go_simp
  clear hc0 hf c0 hB
  go_wp2_with fail
  go_ret
  exact ⟨rfl, hW⟩
set_option maxRecDepth 20000 in
set_option maxHeartbeats 4000000 in
theorem mayAll_0_1 (n : Nat) (B o c : Nat) (w : World) (hc : n + 2 ≤ c) (hn : n ≤ 100) (c0 : w.cell? ⟨B, o, none⟩ = some (.int .i64 0))
    (hf : ∀ W, Below w.heap.size w W → Calls Try.prog 101 #[.slice (some ⟨B, o + 1, none⟩) (n + 1) (c - 1)] W fun r W' => r = .returned (.int .i64 1) ∧ Below W.heap.size W W') :
    Calls Try.prog 101 #[.slice (some ⟨B, o, none⟩) (n + 2) c] w fun r W' => r = .returned (.int .i64 0) ∧ Below w.heap.size w W' := by
  have g1 : ((n : Int) + 2 == 1) = false := by rw [beq_eq_false_iff_ne]; omega
  have i0 : (0 : Int) < (n : Int) + 2 := by omega
  have i1 : (1 : Int) ≤ (n : Int) + 2 := by omega
  have i2 : (n : Int) + 2 ≤ (c : Int) := by omega
  have i3 : ¬ c = 1 := by omega
  have hB := World.block_lt_of_cell? w _ c0
  have hc0 : Hid (∀ W, Below w.heap.size w W → W.cell? ⟨B, o, none⟩ = w.cell? ⟨B, o, none⟩) := fun W hb => hb.cell (p := ⟨B, o, none⟩) hB
  go_enter Try.func101, Try.ntmps101
  go_wp2_with fail
  refine wp_region_lit (fun W => Below w.heap.size w W) _ _ (by kernel_rfl) rfl (by kernel_rfl) (by kernel_rfl) (below_drew1 (Below.refl _ w)) ?_
  dsimp only [List.dropLast]
  repeat (first
    | go_big_quiet_skip
    | (go_big_quiet_want
       apply Exists.intro
       refine ⟨fun W hW => ?_, ?_⟩
       · have q0 := (hc0.out W hW).trans c0
         unfold Oper.quietAt
         go_simp
         first
           | with_reducible exact rfl
           | with_reducible exact ⟨rfl, rfl⟩
           | (go_at_call 101
              refine (hf W hW).mono ?_
              rintro e W1 ⟨rfl, hb⟩
              exact ⟨rfl, hW.trans (hb.mono hW.size)⟩)
       go_big_quiet_on
       simp only [Act.put, List.setIfInBounds_toArray, List.set_cons_zero, List.set_cons_succ]))
  refine wpQuiet_nil ?_
  intro W hW
  rw [if_pos (by rfl)]
  go_simp
  clear hc0 hf c0 hB
  go_wp2_with fail
  go_ret
  exact ⟨rfl, hW⟩
set_option maxRecDepth 20000 in
set_option maxHeartbeats 4000000 in
theorem mayAll_0_2 (n : Nat) (B o c : Nat) (w : World) (hc : n + 2 ≤ c) (hn : n ≤ 100) (c0 : w.cell? ⟨B, o, none⟩ = some (.int .i64 0))
    (hf : ∀ W, Below w.heap.size w W → Calls Try.prog 101 #[.slice (some ⟨B, o + 1, none⟩) (n + 1) (c - 1)] W fun r W' => r = .returned (.int .i64 2) ∧ Below W.heap.size W W') :
    Calls Try.prog 101 #[.slice (some ⟨B, o, none⟩) (n + 2) c] w fun r W' => r = .returned (.int .i64 0) ∧ Below w.heap.size w W' := by
  have g1 : ((n : Int) + 2 == 1) = false := by rw [beq_eq_false_iff_ne]; omega
  have i0 : (0 : Int) < (n : Int) + 2 := by omega
  have i1 : (1 : Int) ≤ (n : Int) + 2 := by omega
  have i2 : (n : Int) + 2 ≤ (c : Int) := by omega
  have i3 : ¬ c = 1 := by omega
  have hB := World.block_lt_of_cell? w _ c0
  have hc0 : Hid (∀ W, Below w.heap.size w W → W.cell? ⟨B, o, none⟩ = w.cell? ⟨B, o, none⟩) := fun W hb => hb.cell (p := ⟨B, o, none⟩) hB
  go_enter Try.func101, Try.ntmps101
  go_wp2_with fail
  refine wp_region_lit (fun W => Below w.heap.size w W) _ _ (by kernel_rfl) rfl (by kernel_rfl) (by kernel_rfl) (below_drew1 (Below.refl _ w)) ?_
  dsimp only [List.dropLast]
  repeat (first
    | go_big_quiet_skip
    | (go_big_quiet_want
       apply Exists.intro
       refine ⟨fun W hW => ?_, ?_⟩
       · have q0 := (hc0.out W hW).trans c0
         unfold Oper.quietAt
         go_simp
         first
           | with_reducible exact rfl
           | with_reducible exact ⟨rfl, rfl⟩
           | (go_at_call 101
              refine (hf W hW).mono ?_
              rintro e W1 ⟨rfl, hb⟩
              exact ⟨rfl, hW.trans (hb.mono hW.size)⟩)
       go_big_quiet_on
       simp only [Act.put, List.setIfInBounds_toArray, List.set_cons_zero, List.set_cons_succ]))
  refine wpQuiet_nil ?_
  intro W hW
  rw [if_pos (by rfl)]
  go_simp
  clear hc0 hf c0 hB
  go_wp2_with fail
  go_ret
  exact ⟨rfl, hW⟩
set_option maxRecDepth 20000 in
set_option maxHeartbeats 4000000 in
theorem mayAll_0_3 (n : Nat) (B o c : Nat) (w : World) (hc : n + 2 ≤ c) (hn : n ≤ 100) (c0 : w.cell? ⟨B, o, none⟩ = some (.int .i64 0))
    (hf : ∀ W, Below w.heap.size w W → Calls Try.prog 101 #[.slice (some ⟨B, o + 1, none⟩) (n + 1) (c - 1)] W fun r W' => r = .returned (.int .i64 3) ∧ Below W.heap.size W W') :
    Calls Try.prog 101 #[.slice (some ⟨B, o, none⟩) (n + 2) c] w fun r W' => r = .returned (.int .i64 0) ∧ Below w.heap.size w W' := by
  have g1 : ((n : Int) + 2 == 1) = false := by rw [beq_eq_false_iff_ne]; omega
  have i0 : (0 : Int) < (n : Int) + 2 := by omega
  have i1 : (1 : Int) ≤ (n : Int) + 2 := by omega
  have i2 : (n : Int) + 2 ≤ (c : Int) := by omega
  have i3 : ¬ c = 1 := by omega
  have hB := World.block_lt_of_cell? w _ c0
  have hc0 : Hid (∀ W, Below w.heap.size w W → W.cell? ⟨B, o, none⟩ = w.cell? ⟨B, o, none⟩) := fun W hb => hb.cell (p := ⟨B, o, none⟩) hB
  go_enter Try.func101, Try.ntmps101
  go_wp2_with fail
  refine wp_region_lit (fun W => Below w.heap.size w W) _ _ (by kernel_rfl) rfl (by kernel_rfl) (by kernel_rfl) (below_drew1 (Below.refl _ w)) ?_
  dsimp only [List.dropLast]
  repeat (first
    | go_big_quiet_skip
    | (go_big_quiet_want
       apply Exists.intro
       refine ⟨fun W hW => ?_, ?_⟩
       · have q0 := (hc0.out W hW).trans c0
         unfold Oper.quietAt
         go_simp
         first
           | with_reducible exact rfl
           | with_reducible exact ⟨rfl, rfl⟩
           | (go_at_call 101
              refine (hf W hW).mono ?_
              rintro e W1 ⟨rfl, hb⟩
              exact ⟨rfl, hW.trans (hb.mono hW.size)⟩)
       go_big_quiet_on
       simp only [Act.put, List.setIfInBounds_toArray, List.set_cons_zero, List.set_cons_succ]))
  refine wpQuiet_nil ?_
  intro W hW
  rw [if_pos (by rfl)]
  go_simp
  clear hc0 hf c0 hB
  go_wp2_with fail
  go_ret
  exact ⟨rfl, hW⟩
set_option maxRecDepth 20000 in
set_option maxHeartbeats 4000000 in
theorem mayAll_0_4 (n : Nat) (B o c : Nat) (w : World) (hc : n + 2 ≤ c) (hn : n ≤ 100) (c0 : w.cell? ⟨B, o, none⟩ = some (.int .i64 0))
    (hf : ∀ W, Below w.heap.size w W → Calls Try.prog 101 #[.slice (some ⟨B, o + 1, none⟩) (n + 1) (c - 1)] W fun r W' => r = .returned (.int .i64 4) ∧ Below W.heap.size W W') :
    Calls Try.prog 101 #[.slice (some ⟨B, o, none⟩) (n + 2) c] w fun r W' => r = .returned (.int .i64 0) ∧ Below w.heap.size w W' := by
  have g1 : ((n : Int) + 2 == 1) = false := by rw [beq_eq_false_iff_ne]; omega
  have i0 : (0 : Int) < (n : Int) + 2 := by omega
  have i1 : (1 : Int) ≤ (n : Int) + 2 := by omega
  have i2 : (n : Int) + 2 ≤ (c : Int) := by omega
  have i3 : ¬ c = 1 := by omega
  have hB := World.block_lt_of_cell? w _ c0
  have hc0 : Hid (∀ W, Below w.heap.size w W → W.cell? ⟨B, o, none⟩ = w.cell? ⟨B, o, none⟩) := fun W hb => hb.cell (p := ⟨B, o, none⟩) hB
  go_enter Try.func101, Try.ntmps101
  go_wp2_with fail
  refine wp_region_lit (fun W => Below w.heap.size w W) _ _ (by kernel_rfl) rfl (by kernel_rfl) (by kernel_rfl) (below_drew1 (Below.refl _ w)) ?_
  dsimp only [List.dropLast]
  repeat (first
    | go_big_quiet_skip
    | (go_big_quiet_want
       apply Exists.intro
       refine ⟨fun W hW => ?_, ?_⟩
       · have q0 := (hc0.out W hW).trans c0
         unfold Oper.quietAt
         go_simp
         first
           | with_reducible exact rfl
           | with_reducible exact ⟨rfl, rfl⟩
           | (go_at_call 101
              refine (hf W hW).mono ?_
              rintro e W1 ⟨rfl, hb⟩
              exact ⟨rfl, hW.trans (hb.mono hW.size)⟩)
       go_big_quiet_on
       simp only [Act.put, List.setIfInBounds_toArray, List.set_cons_zero, List.set_cons_succ]))
  refine wpQuiet_nil ?_
  intro W hW
  rw [if_pos (by rfl)]
  go_simp
  clear hc0 hf c0 hB
  go_wp2_with fail
  go_ret
  exact ⟨rfl, hW⟩
set_option maxRecDepth 20000 in
set_option maxHeartbeats 4000000 in
theorem mayAll_0_5 (n : Nat) (B o c : Nat) (w : World) (hc : n + 2 ≤ c) (hn : n ≤ 100) (c0 : w.cell? ⟨B, o, none⟩ = some (.int .i64 0))
    (hf : ∀ W, Below w.heap.size w W → Calls Try.prog 101 #[.slice (some ⟨B, o + 1, none⟩) (n + 1) (c - 1)] W fun r W' => r = .returned (.int .i64 5) ∧ Below W.heap.size W W') :
    Calls Try.prog 101 #[.slice (some ⟨B, o, none⟩) (n + 2) c] w fun r W' => r = .returned (.int .i64 0) ∧ Below w.heap.size w W' := by
  have g1 : ((n : Int) + 2 == 1) = false := by rw [beq_eq_false_iff_ne]; omega
  have i0 : (0 : Int) < (n : Int) + 2 := by omega
  have i1 : (1 : Int) ≤ (n : Int) + 2 := by omega
  have i2 : (n : Int) + 2 ≤ (c : Int) := by omega
  have i3 : ¬ c = 1 := by omega
  have hB := World.block_lt_of_cell? w _ c0
  have hc0 : Hid (∀ W, Below w.heap.size w W → W.cell? ⟨B, o, none⟩ = w.cell? ⟨B, o, none⟩) := fun W hb => hb.cell (p := ⟨B, o, none⟩) hB
  go_enter Try.func101, Try.ntmps101
  go_wp2_with fail
  refine wp_region_lit (fun W => Below w.heap.size w W) _ _ (by kernel_rfl) rfl (by kernel_rfl) (by kernel_rfl) (below_drew1 (Below.refl _ w)) ?_
  dsimp only [List.dropLast]
  repeat (first
    | go_big_quiet_skip
    | (go_big_quiet_want
       apply Exists.intro
       refine ⟨fun W hW => ?_, ?_⟩
       · have q0 := (hc0.out W hW).trans c0
         unfold Oper.quietAt
         go_simp
         first
           | with_reducible exact rfl
           | with_reducible exact ⟨rfl, rfl⟩
           | (go_at_call 101
              refine (hf W hW).mono ?_
              rintro e W1 ⟨rfl, hb⟩
              exact ⟨rfl, hW.trans (hb.mono hW.size)⟩)
       go_big_quiet_on
       simp only [Act.put, List.setIfInBounds_toArray, List.set_cons_zero, List.set_cons_succ]))
  refine wpQuiet_nil ?_
  intro W hW
  rw [if_pos (by rfl)]
  go_simp
  clear hc0 hf c0 hB
  go_wp2_with fail
  go_ret
  exact ⟨rfl, hW⟩
set_option maxRecDepth 20000 in
set_option maxHeartbeats 4000000 in
theorem mayAll_0_6 (n : Nat) (B o c : Nat) (w : World) (hc : n + 2 ≤ c) (hn : n ≤ 100) (c0 : w.cell? ⟨B, o, none⟩ = some (.int .i64 0))
    (hf : ∀ W, Below w.heap.size w W → Calls Try.prog 101 #[.slice (some ⟨B, o + 1, none⟩) (n + 1) (c - 1)] W fun r W' => r = .returned (.int .i64 6) ∧ Below W.heap.size W W') :
    Calls Try.prog 101 #[.slice (some ⟨B, o, none⟩) (n + 2) c] w fun r W' => r = .returned (.int .i64 0) ∧ Below w.heap.size w W' := by
  have g1 : ((n : Int) + 2 == 1) = false := by rw [beq_eq_false_iff_ne]; omega
  have i0 : (0 : Int) < (n : Int) + 2 := by omega
  have i1 : (1 : Int) ≤ (n : Int) + 2 := by omega
  have i2 : (n : Int) + 2 ≤ (c : Int) := by omega
  have i3 : ¬ c = 1 := by omega
  have hB := World.block_lt_of_cell? w _ c0
  have hc0 : Hid (∀ W, Below w.heap.size w W → W.cell? ⟨B, o, none⟩ = w.cell? ⟨B, o, none⟩) := fun W hb => hb.cell (p := ⟨B, o, none⟩) hB
  go_enter Try.func101, Try.ntmps101
  go_wp2_with fail
  refine wp_region_lit (fun W => Below w.heap.size w W) _ _ (by kernel_rfl) rfl (by kernel_rfl) (by kernel_rfl) (below_drew1 (Below.refl _ w)) ?_
  dsimp only [List.dropLast]
  repeat (first
    | go_big_quiet_skip
    | (go_big_quiet_want
       apply Exists.intro
       refine ⟨fun W hW => ?_, ?_⟩
       · have q0 := (hc0.out W hW).trans c0
         unfold Oper.quietAt
         go_simp
         first
           | with_reducible exact rfl
           | with_reducible exact ⟨rfl, rfl⟩
           | (go_at_call 101
              refine (hf W hW).mono ?_
              rintro e W1 ⟨rfl, hb⟩
              exact ⟨rfl, hW.trans (hb.mono hW.size)⟩)
       go_big_quiet_on
       simp only [Act.put, List.setIfInBounds_toArray, List.set_cons_zero, List.set_cons_succ]))
  refine wpQuiet_nil ?_
  intro W hW
  rw [if_pos (by rfl)]
  go_simp
  clear hc0 hf c0 hB
  go_wp2_with fail
  go_ret
  exact ⟨rfl, hW⟩
set_option maxRecDepth 20000 in
set_option maxHeartbeats 4000000 in
theorem mayAll_0_7 (n : Nat) (B o c : Nat) (w : World) (hc : n + 2 ≤ c) (hn : n ≤ 100) (c0 : w.cell? ⟨B, o, none⟩ = some (.int .i64 0))
    (hf : ∀ W, Below w.heap.size w W → Calls Try.prog 101 #[.slice (some ⟨B, o + 1, none⟩) (n + 1) (c - 1)] W fun r W' => r = .returned (.int .i64 7) ∧ Below W.heap.size W W') :
    Calls Try.prog 101 #[.slice (some ⟨B, o, none⟩) (n + 2) c] w fun r W' => r = .returned (.int .i64 0) ∧ Below w.heap.size w W' := by
  have g1 : ((n : Int) + 2 == 1) = false := by rw [beq_eq_false_iff_ne]; omega
  have i0 : (0 : Int) < (n : Int) + 2 := by omega
  have i1 : (1 : Int) ≤ (n : Int) + 2 := by omega
  have i2 : (n : Int) + 2 ≤ (c : Int) := by omega
  have i3 : ¬ c = 1 := by omega
  have hB := World.block_lt_of_cell? w _ c0
  have hc0 : Hid (∀ W, Below w.heap.size w W → W.cell? ⟨B, o, none⟩ = w.cell? ⟨B, o, none⟩) := fun W hb => hb.cell (p := ⟨B, o, none⟩) hB
  go_enter Try.func101, Try.ntmps101
  go_wp2_with fail
  refine wp_region_lit (fun W => Below w.heap.size w W) _ _ (by kernel_rfl) rfl (by kernel_rfl) (by kernel_rfl) (below_drew1 (Below.refl _ w)) ?_
  dsimp only [List.dropLast]
  repeat (first
    | go_big_quiet_skip
    | (go_big_quiet_want
       apply Exists.intro
       refine ⟨fun W hW => ?_, ?_⟩
       · have q0 := (hc0.out W hW).trans c0
         unfold Oper.quietAt
         go_simp
         first
           | with_reducible exact rfl
           | with_reducible exact ⟨rfl, rfl⟩
           | (go_at_call 101
              refine (hf W hW).mono ?_
              rintro e W1 ⟨rfl, hb⟩
              exact ⟨rfl, hW.trans (hb.mono hW.size)⟩)
       go_big_quiet_on
       simp only [Act.put, List.setIfInBounds_toArray, List.set_cons_zero, List.set_cons_succ]))
  refine wpQuiet_nil ?_
  intro W hW
  rw [if_pos (by rfl)]
  go_simp
  clear hc0 hf c0 hB
  go_wp2_with fail
  go_ret
  exact ⟨rfl, hW⟩
set_option maxRecDepth 20000 in
set_option maxHeartbeats 4000000 in
theorem mayAll_1_0 (n : Nat) (B o c : Nat) (w : World) (hc : n + 2 ≤ c) (hn : n ≤ 100) (c0 : w.cell? ⟨B, o, none⟩ = some (.int .i64 1))
    (hf : ∀ W, Below w.heap.size w W → Calls Try.prog 101 #[.slice (some ⟨B, o + 1, none⟩) (n + 1) (c - 1)] W fun r W' => r = .returned (.int .i64 0) ∧ Below W.heap.size W W') :
    Calls Try.prog 101 #[.slice (some ⟨B, o, none⟩) (n + 2) c] w fun r W' => r = .returned (.int .i64 0) ∧ Below w.heap.size w W' := by
  have g1 : ((n : Int) + 2 == 1) = false := by rw [beq_eq_false_iff_ne]; omega
  have i0 : (0 : Int) < (n : Int) + 2 := by omega
  have i1 : (1 : Int) ≤ (n : Int) + 2 := by omega
  have i2 : (n : Int) + 2 ≤ (c : Int) := by omega
  have i3 : ¬ c = 1 := by omega
  have hB := World.block_lt_of_cell? w _ c0
  have hc0 : Hid (∀ W, Below w.heap.size w W → W.cell? ⟨B, o, none⟩ = w.cell? ⟨B, o, none⟩) := fun W hb => hb.cell (p := ⟨B, o, none⟩) hB
  go_enter Try.func101, Try.ntmps101
  go_wp2_with fail
  refine wp_region_lit (fun W => Below w.heap.size w W) _ _ (by kernel_rfl) rfl (by kernel_rfl) (by kernel_rfl) (below_drew1 (Below.refl _ w)) ?_
  dsimp only [List.dropLast]
  repeat (first
    | go_big_quiet_skip
    | (go_big_quiet_want
       apply Exists.intro
       refine ⟨fun W hW => ?_, ?_⟩
       · have q0 := (hc0.out W hW).trans c0
         unfold Oper.quietAt
         go_simp
         first
           | with_reducible exact rfl
           | with_reducible exact ⟨rfl, rfl⟩
           | (go_at_call 101
              refine (hf W hW).mono ?_
              rintro e W1 ⟨rfl, hb⟩
              exact ⟨rfl, hW.trans (hb.mono hW.size)⟩)
       go_big_quiet_on
       simp only [Act.put, List.setIfInBounds_toArray, List.set_cons_zero, List.set_cons_succ]))
  refine wpQuiet_nil ?_
  intro W hW
  rw [if_pos (by rfl)]
  go_simp
  clear hc0 hf c0 hB
  go_wp2_with fail
  go_ret
  exact ⟨rfl, hW⟩
set_option maxRecDepth 20000 in
set_option maxHeartbeats 4000000 in
theorem mayAll_1_1 (n : Nat) (B o c : Nat) (w : World) (hc : n + 2 ≤ c) (hn : n ≤ 100) (c0 : w.cell? ⟨B, o, none⟩ = some (.int .i64 1))
    (hf : ∀ W, Below w.heap.size w W → Calls Try.prog 101 #[.slice (some ⟨B, o + 1, none⟩) (n + 1) (c - 1)] W fun r W' => r = .returned (.int .i64 1) ∧ Below W.heap.size W W') :
    Calls Try.prog 101 #[.slice (some ⟨B, o, none⟩) (n + 2) c] w fun r W' => r = .returned (.int .i64 1) ∧ Below w.heap.size w W' := by
  have g1 : ((n : Int) + 2 == 1) = false := by rw [beq_eq_false_iff_ne]; omega
  have i0 : (0 : Int) < (n : Int) + 2 := by omega
  have i1 : (1 : Int) ≤ (n : Int) + 2 := by omega
  have i2 : (n : Int) + 2 ≤ (c : Int) := by omega
  have i3 : ¬ c = 1 := by omega
  have hB := World.block_lt_of_cell? w _ c0
  have hc0 : Hid (∀ W, Below w.heap.size w W → W.cell? ⟨B, o, none⟩ = w.cell? ⟨B, o, none⟩) := fun W hb => hb.cell (p := ⟨B, o, none⟩) hB
  go_enter Try.func101, Try.ntmps101
  go_wp2_with fail
  refine wp_region_lit (fun W => Below w.heap.size w W) _ _ (by kernel_rfl) rfl (by kernel_rfl) (by kernel_rfl) (below_drew1 (Below.refl _ w)) ?_
  dsimp only [List.dropLast]
  repeat (first
    | go_big_quiet_skip
    | (go_big_quiet_want
       apply Exists.intro
       refine ⟨fun W hW => ?_, ?_⟩
       · have q0 := (hc0.out W hW).trans c0
         unfold Oper.quietAt
         go_simp
         first
           | with_reducible exact rfl
           | with_reducible exact ⟨rfl, rfl⟩
           | (go_at_call 101
              refine (hf W hW).mono ?_
              rintro e W1 ⟨rfl, hb⟩
              exact ⟨rfl, hW.trans (hb.mono hW.size)⟩)
       go_big_quiet_on
       simp only [Act.put, List.setIfInBounds_toArray, List.set_cons_zero, List.set_cons_succ]))
  refine wpQuiet_nil ?_
  intro W hW
  rw [if_pos (by rfl)]
  go_simp
  clear hc0 hf c0 hB
  go_wp2_with fail
  go_ret
  exact ⟨rfl, hW⟩
set_option maxRecDepth 20000 in
set_option maxHeartbeats 4000000 in
theorem mayAll_1_2 (n : Nat) (B o c : Nat) (w : World) (hc : n + 2 ≤ c) (hn : n ≤ 100) (c0 : w.cell? ⟨B, o, none⟩ = some (.int .i64 1))
    (hf : ∀ W, Below w.heap.size w W → Calls Try.prog 101 #[.slice (some ⟨B, o + 1, none⟩) (n + 1) (c - 1)] W fun r W' => r = .returned (.int .i64 2) ∧ Below W.heap.size W W') :
    Calls Try.prog 101 #[.slice (some ⟨B, o, none⟩) (n + 2) c] w fun r W' => r = .returned (.int .i64 2) ∧ Below w.heap.size w W' := by
  have g1 : ((n : Int) + 2 == 1) = false := by rw [beq_eq_false_iff_ne]; omega
  have i0 : (0 : Int) < (n : Int) + 2 := by omega
  have i1 : (1 : Int) ≤ (n : Int) + 2 := by omega
  have i2 : (n : Int) + 2 ≤ (c : Int) := by omega
  have i3 : ¬ c = 1 := by omega
  have hB := World.block_lt_of_cell? w _ c0
  have hc0 : Hid (∀ W, Below w.heap.size w W → W.cell? ⟨B, o, none⟩ = w.cell? ⟨B, o, none⟩) := fun W hb => hb.cell (p := ⟨B, o, none⟩) hB
  go_enter Try.func101, Try.ntmps101
  go_wp2_with fail
  refine wp_region_lit (fun W => Below w.heap.size w W) _ _ (by kernel_rfl) rfl (by kernel_rfl) (by kernel_rfl) (below_drew1 (Below.refl _ w)) ?_
  dsimp only [List.dropLast]
  repeat (first
    | go_big_quiet_skip
    | (go_big_quiet_want
       apply Exists.intro
       refine ⟨fun W hW => ?_, ?_⟩
       · have q0 := (hc0.out W hW).trans c0
         unfold Oper.quietAt
         go_simp
         first
           | with_reducible exact rfl
           | with_reducible exact ⟨rfl, rfl⟩
           | (go_at_call 101
              refine (hf W hW).mono ?_
              rintro e W1 ⟨rfl, hb⟩
              exact ⟨rfl, hW.trans (hb.mono hW.size)⟩)
       go_big_quiet_on
       simp only [Act.put, List.setIfInBounds_toArray, List.set_cons_zero, List.set_cons_succ]))
  refine wpQuiet_nil ?_
  intro W hW
  rw [if_pos (by rfl)]
  go_simp
  clear hc0 hf c0 hB
  go_wp2_with fail
  go_ret
  exact ⟨rfl, hW⟩
set_option maxRecDepth 20000 in
set_option maxHeartbeats 4000000 in
theorem mayAll_1_3 (n : Nat) (B o c : Nat) (w : World) (hc : n + 2 ≤ c) (hn : n ≤ 100) (c0 : w.cell? ⟨B, o, none⟩ = some (.int .i64 1))
    (hf : ∀ W, Below w.heap.size w W → Calls Try.prog 101 #[.slice (some ⟨B, o + 1, none⟩) (n + 1) (c - 1)] W fun r W' => r = .returned (.int .i64 3) ∧ Below W.heap.size W W') :
    Calls Try.prog 101 #[.slice (some ⟨B, o, none⟩) (n + 2) c] w fun r W' => r = .returned (.int .i64 3) ∧ Below w.heap.size w W' := by
  have g1 : ((n : Int) + 2 == 1) = false := by rw [beq_eq_false_iff_ne]; omega
  have i0 : (0 : Int) < (n : Int) + 2 := by omega
  have i1 : (1 : Int) ≤ (n : Int) + 2 := by omega
  have i2 : (n : Int) + 2 ≤ (c : Int) := by omega
  have i3 : ¬ c = 1 := by omega
  have hB := World.block_lt_of_cell? w _ c0
  have hc0 : Hid (∀ W, Below w.heap.size w W → W.cell? ⟨B, o, none⟩ = w.cell? ⟨B, o, none⟩) := fun W hb => hb.cell (p := ⟨B, o, none⟩) hB
  go_enter Try.func101, Try.ntmps101
  go_wp2_with fail
  refine wp_region_lit (fun W => Below w.heap.size w W) _ _ (by kernel_rfl) rfl (by kernel_rfl) (by kernel_rfl) (below_drew1 (Below.refl _ w)) ?_
  dsimp only [List.dropLast]
  repeat (first
    | go_big_quiet_skip
    | (go_big_quiet_want
       apply Exists.intro
       refine ⟨fun W hW => ?_, ?_⟩
       · have q0 := (hc0.out W hW).trans c0
         unfold Oper.quietAt
         go_simp
         first
           | with_reducible exact rfl
           | with_reducible exact ⟨rfl, rfl⟩
           | (go_at_call 101
              refine (hf W hW).mono ?_
              rintro e W1 ⟨rfl, hb⟩
              exact ⟨rfl, hW.trans (hb.mono hW.size)⟩)
       go_big_quiet_on
       simp only [Act.put, List.setIfInBounds_toArray, List.set_cons_zero, List.set_cons_succ]))
  refine wpQuiet_nil ?_
  intro W hW
  rw [if_pos (by rfl)]
  go_simp
  clear hc0 hf c0 hB
  go_wp2_with fail
  go_ret
  exact ⟨rfl, hW⟩
set_option maxRecDepth 20000 in
set_option maxHeartbeats 4000000 in
theorem mayAll_1_4 (n : Nat) (B o c : Nat) (w : World) (hc : n + 2 ≤ c) (hn : n ≤ 100) (c0 : w.cell? ⟨B, o, none⟩ = some (.int .i64 1))
    (hf : ∀ W, Below w.heap.size w W → Calls Try.prog 101 #[.slice (some ⟨B, o + 1, none⟩) (n + 1) (c - 1)] W fun r W' => r = .returned (.int .i64 4) ∧ Below W.heap.size W W') :
    Calls Try.prog 101 #[.slice (some ⟨B, o, none⟩) (n + 2) c] w fun r W' => r = .returned (.int .i64 4) ∧ Below w.heap.size w W' := by
  have g1 : ((n : Int) + 2 == 1) = false := by rw [beq_eq_false_iff_ne]; omega
  have i0 : (0 : Int) < (n : Int) + 2 := by omega
  have i1 : (1 : Int) ≤ (n : Int) + 2 := by omega
  have i2 : (n : Int) + 2 ≤ (c : Int) := by omega
  have i3 : ¬ c = 1 := by omega
  have hB := World.block_lt_of_cell? w _ c0
  have hc0 : Hid (∀ W, Below w.heap.size w W → W.cell? ⟨B, o, none⟩ = w.cell? ⟨B, o, none⟩) := fun W hb => hb.cell (p := ⟨B, o, none⟩) hB
  go_enter Try.func101, Try.ntmps101
  go_wp2_with fail
  refine wp_region_lit (fun W => Below w.heap.size w W) _ _ (by kernel_rfl) rfl (by kernel_rfl) (by kernel_rfl) (below_drew1 (Below.refl _ w)) ?_
  dsimp only [List.dropLast]
  repeat (first
    | go_big_quiet_skip
    | (go_big_quiet_want
       apply Exists.intro
       refine ⟨fun W hW => ?_, ?_⟩
       · have q0 := (hc0.out W hW).trans c0
         unfold Oper.quietAt
         go_simp
         first
           | with_reducible exact rfl
           | with_reducible exact ⟨rfl, rfl⟩
           | (go_at_call 101
              refine (hf W hW).mono ?_
              rintro e W1 ⟨rfl, hb⟩
              exact ⟨rfl, hW.trans (hb.mono hW.size)⟩)
       go_big_quiet_on
       simp only [Act.put, List.setIfInBounds_toArray, List.set_cons_zero, List.set_cons_succ]))
  refine wpQuiet_nil ?_
  intro W hW
  rw [if_pos (by rfl)]
  go_simp
  clear hc0 hf c0 hB
  go_wp2_with fail
  go_ret
  exact ⟨rfl, hW⟩
set_option maxRecDepth 20000 in
set_option maxHeartbeats 4000000 in
theorem mayAll_1_5 (n : Nat) (B o c : Nat) (w : World) (hc : n + 2 ≤ c) (hn : n ≤ 100) (c0 : w.cell? ⟨B, o, none⟩ = some (.int .i64 1))
    (hf : ∀ W, Below w.heap.size w W → Calls Try.prog 101 #[.slice (some ⟨B, o + 1, none⟩) (n + 1) (c - 1)] W fun r W' => r = .returned (.int .i64 5) ∧ Below W.heap.size W W') :
    Calls Try.prog 101 #[.slice (some ⟨B, o, none⟩) (n + 2) c] w fun r W' => r = .returned (.int .i64 5) ∧ Below w.heap.size w W' := by
  have g1 : ((n : Int) + 2 == 1) = false := by rw [beq_eq_false_iff_ne]; omega
  have i0 : (0 : Int) < (n : Int) + 2 := by omega
  have i1 : (1 : Int) ≤ (n : Int) + 2 := by omega
  have i2 : (n : Int) + 2 ≤ (c : Int) := by omega
  have i3 : ¬ c = 1 := by omega
  have hB := World.block_lt_of_cell? w _ c0
  have hc0 : Hid (∀ W, Below w.heap.size w W → W.cell? ⟨B, o, none⟩ = w.cell? ⟨B, o, none⟩) := fun W hb => hb.cell (p := ⟨B, o, none⟩) hB
  go_enter Try.func101, Try.ntmps101
  go_wp2_with fail
  refine wp_region_lit (fun W => Below w.heap.size w W) _ _ (by kernel_rfl) rfl (by kernel_rfl) (by kernel_rfl) (below_drew1 (Below.refl _ w)) ?_
  dsimp only [List.dropLast]
  repeat (first
    | go_big_quiet_skip
    | (go_big_quiet_want
       apply Exists.intro
       refine ⟨fun W hW => ?_, ?_⟩
       · have q0 := (hc0.out W hW).trans c0
         unfold Oper.quietAt
         go_simp
         first
           | with_reducible exact rfl
           | with_reducible exact ⟨rfl, rfl⟩
           | (go_at_call 101
              refine (hf W hW).mono ?_
              rintro e W1 ⟨rfl, hb⟩
              exact ⟨rfl, hW.trans (hb.mono hW.size)⟩)
       go_big_quiet_on
       simp only [Act.put, List.setIfInBounds_toArray, List.set_cons_zero, List.set_cons_succ]))
  refine wpQuiet_nil ?_
  intro W hW
  rw [if_pos (by rfl)]
  go_simp
  clear hc0 hf c0 hB
  go_wp2_with fail
  go_ret
  exact ⟨rfl, hW⟩
set_option maxRecDepth 20000 in
set_option maxHeartbeats 4000000 in
theorem mayAll_1_6 (n : Nat) (B o c : Nat) (w : World) (hc : n + 2 ≤ c) (hn : n ≤ 100) (c0 : w.cell? ⟨B, o, none⟩ = some (.int .i64 1))
    (hf : ∀ W, Below w.heap.size w W → Calls Try.prog 101 #[.slice (some ⟨B, o + 1, none⟩) (n + 1) (c - 1)] W fun r W' => r = .returned (.int .i64 6) ∧ Below W.heap.size W W') :
    Calls Try.prog 101 #[.slice (some ⟨B, o, none⟩) (n + 2) c] w fun r W' => r = .returned (.int .i64 6) ∧ Below w.heap.size w W' := by
  have g1 : ((n : Int) + 2 == 1) = false := by rw [beq_eq_false_iff_ne]; omega
  have i0 : (0 : Int) < (n : Int) + 2 := by omega
  have i1 : (1 : Int) ≤ (n : Int) + 2 := by omega
  have i2 : (n : Int) + 2 ≤ (c : Int) := by omega
  have i3 : ¬ c = 1 := by omega
  have hB := World.block_lt_of_cell? w _ c0
  have hc0 : Hid (∀ W, Below w.heap.size w W → W.cell? ⟨B, o, none⟩ = w.cell? ⟨B, o, none⟩) := fun W hb => hb.cell (p := ⟨B, o, none⟩) hB
  go_enter Try.func101, Try.ntmps101
  go_wp2_with fail
  refine wp_region_lit (fun W => Below w.heap.size w W) _ _ (by kernel_rfl) rfl (by kernel_rfl) (by kernel_rfl) (below_drew1 (Below.refl _ w)) ?_
  dsimp only [List.dropLast]
  repeat (first
    | go_big_quiet_skip
    | (go_big_quiet_want
       apply Exists.intro
       refine ⟨fun W hW => ?_, ?_⟩
       · have q0 := (hc0.out W hW).trans c0
         unfold Oper.quietAt
         go_simp
         first
           | with_reducible exact rfl
           | with_reducible exact ⟨rfl, rfl⟩
           | (go_at_call 101
              refine (hf W hW).mono ?_
              rintro e W1 ⟨rfl, hb⟩
              exact ⟨rfl, hW.trans (hb.mono hW.size)⟩)
       go_big_quiet_on
       simp only [Act.put, List.setIfInBounds_toArray, List.set_cons_zero, List.set_cons_succ]))
  refine wpQuiet_nil ?_
  intro W hW
  rw [if_pos (by rfl)]
  go_simp
  clear hc0 hf c0 hB
  go_wp2_with fail
  go_ret
  exact ⟨rfl, hW⟩
set_option maxRecDepth 20000 in
set_option maxHeartbeats 4000000 in
theorem mayAll_1_7 (n : Nat) (B o c : Nat) (w : World) (hc : n + 2 ≤ c) (hn : n ≤ 100) (c0 : w.cell? ⟨B, o, none⟩ = some (.int .i64 1))
    (hf : ∀ W, Below w.heap.size w W → Calls Try.prog 101 #[.slice (some ⟨B, o + 1, none⟩) (n + 1) (c - 1)] W fun r W' => r = .returned (.int .i64 7) ∧ Below W.heap.size W W') :
    Calls Try.prog 101 #[.slice (some ⟨B, o, none⟩) (n + 2) c] w fun r W' => r = .returned (.int .i64 7) ∧ Below w.heap.size w W' := by
  have g1 : ((n : Int) + 2 == 1) = false := by rw [beq_eq_false_iff_ne]; omega
  have i0 : (0 : Int) < (n : Int) + 2 := by omega
  have i1 : (1 : Int) ≤ (n : Int) + 2 := by omega
  have i2 : (n : Int) + 2 ≤ (c : Int) := by omega
  have i3 : ¬ c = 1 := by omega
  have hB := World.block_lt_of_cell? w _ c0
  have hc0 : Hid (∀ W, Below w.heap.size w W → W.cell? ⟨B, o, none⟩ = w.cell? ⟨B, o, none⟩) := fun W hb => hb.cell (p := ⟨B, o, none⟩) hB
  go_enter Try.func101, Try.ntmps101
  go_wp2_with fail
  refine wp_region_lit (fun W => Below w.heap.size w W) _ _ (by kernel_rfl) rfl (by kernel_rfl) (by kernel_rfl) (below_drew1 (Below.refl _ w)) ?_
  dsimp only [List.dropLast]
  repeat (first
    | go_big_quiet_skip
    | (go_big_quiet_want
       apply Exists.intro
       refine ⟨fun W hW => ?_, ?_⟩
       · have q0 := (hc0.out W hW).trans c0
         unfold Oper.quietAt
         go_simp
         first
           | with_reducible exact rfl
           | with_reducible exact ⟨rfl, rfl⟩
           | (go_at_call 101
              refine (hf W hW).mono ?_
              rintro e W1 ⟨rfl, hb⟩
              exact ⟨rfl, hW.trans (hb.mono hW.size)⟩)
       go_big_quiet_on
       simp only [Act.put, List.setIfInBounds_toArray, List.set_cons_zero, List.set_cons_succ]))
  refine wpQuiet_nil ?_
  intro W hW
  rw [if_pos (by rfl)]
  go_simp
  clear hc0 hf c0 hB
  go_wp2_with fail
  go_ret
  exact ⟨rfl, hW⟩
end Go.Proofs.Ytokdaapmejccbaa
namespace Go.Proofs.Ytokdaapmejccbaa
open Go.RowKit
set_option linter.unusedVariables false
set_option linter.unusedSimpArgs false
set_option maxRecDepth 20000 in
set_option maxHeartbeats 4000000 in
theorem mayAll_2_0 (n : Nat) (B o c : Nat) (w : World) (hc : n + 2 ≤ c) (hn : n ≤ 100) (c0 : w.cell? ⟨B, o, none⟩ = some (.int .i64 2))
    (hf : ∀ W, Below w.heap.size w W → Calls Try.prog 101 #[.slice (some ⟨B, o + 1, none⟩) (n + 1) (c - 1)] W fun r W' => r = .returned (.int .i64 0) ∧ Below W.heap.size W W') :
    Calls Try.prog 101 #[.slice (some ⟨B, o, none⟩) (n + 2) c] w fun r W' => r = .returned (.int .i64 0) ∧ Below w.heap.size w W' := by
  have g1 : ((n : Int) + 2 == 1) = false := by rw [beq_eq_false_iff_ne]; omega
  have i0 : (0 : Int) < (n : Int) + 2 := by omega
  have i1 : (1 : Int) ≤ (n : Int) + 2 := by omega
  have i2 : (n : Int) + 2 ≤ (c : Int) := by omega
  have i3 : ¬ c = 1 := by omega
  have hB := World.block_lt_of_cell? w _ c0
  have hc0 : Hid (∀ W, Below w.heap.size w W → W.cell? ⟨B, o, none⟩ = w.cell? ⟨B, o, none⟩) := fun W hb => hb.cell (p := ⟨B, o, none⟩) hB
  go_enter Try.func101, Try.ntmps101
  go_wp2_with fail
  refine wp_region_lit (fun W => Below w.heap.size w W) _ _ (by kernel_rfl) rfl (by kernel_rfl) (by kernel_rfl) (below_drew1 (Below.refl _ w)) ?_
  dsimp only [List.dropLast]
  repeat (first
    | go_big_quiet_skip
    | (go_big_quiet_want
       apply Exists.intro
       refine ⟨fun W hW => ?_, ?_⟩
       · have q0 := (hc0.out W hW).trans c0
         unfold Oper.quietAt
         go_simp
         first
           | with_reducible exact rfl
           | with_reducible exact ⟨rfl, rfl⟩
           | (go_at_call 101
              refine (hf W hW).mono ?_
              rintro e W1 ⟨rfl, hb⟩
              exact ⟨rfl, hW.trans (hb.mono hW.size)⟩)
       go_big_quiet_on
       simp only [Act.put, List.setIfInBounds_toArray, List.set_cons_zero, List.set_cons_succ]))
  refine wpQuiet_nil ?_
  intro W hW
  rw [if_pos (by rfl)]
  go_simp
  clear hc0 hf c0 hB
  go_wp2_with fail
  go_ret
  exact ⟨rfl, hW⟩
set_option maxRecDepth 20000 in
set_option maxHeartbeats 4000000 in
theorem mayAll_2_1 (n : Nat) (B o c : Nat) (w : World) (hc : n + 2 ≤ c) (hn : n ≤ 100) (c0 : w.cell? ⟨B, o, none⟩ = some (.int .i64 2))
    (hf : ∀ W, Below w.heap.size w W → Calls Try.prog 101 #[.slice (some ⟨B, o + 1, none⟩) (n + 1) (c - 1)] W fun r W' => r = .returned (.int .i64 1) ∧ Below W.heap.size W W') :
    Calls Try.prog 101 #[.slice (some ⟨B, o, none⟩) (n + 2) c] w fun r W' => r = .returned (.int .i64 2) ∧ Below w.heap.size w W' := by
  have g1 : ((n : Int) + 2 == 1) = false := by rw [beq_eq_false_iff_ne]; omega
  have i0 : (0 : Int) < (n : Int) + 2 := by omega
  have i1 : (1 : Int) ≤ (n : Int) + 2 := by omega
  have i2 : (n : Int) + 2 ≤ (c : Int) := by omega
  have i3 : ¬ c = 1 := by omega
  have hB := World.block_lt_of_cell? w _ c0
  have hc0 : Hid (∀ W, Below w.heap.size w W → W.cell? ⟨B, o, none⟩ = w.cell? ⟨B, o, none⟩) := fun W hb => hb.cell (p := ⟨B, o, none⟩) hB
  go_enter Try.func101, Try.ntmps101
  go_wp2_with fail
  refine wp_region_lit (fun W => Below w.heap.size w W) _ _ (by kernel_rfl) rfl (by kernel_rfl) (by kernel_rfl) (below_drew1 (Below.refl _ w)) ?_
  dsimp only [List.dropLast]
  repeat (first
    | go_big_quiet_skip
    | (go_big_quiet_want
       apply Exists.intro
       refine ⟨fun W hW => ?_, ?_⟩
       · have q0 := (hc0.out W hW).trans c0
         unfold Oper.quietAt
         go_simp
         first
           | with_reducible exact rfl
           | with_reducible exact ⟨rfl, rfl⟩
           | (go_at_call 101
              refine (hf W hW).mono ?_
              rintro e W1 ⟨rfl, hb⟩
              exact ⟨rfl, hW.trans (hb.mono hW.size)⟩)
       go_big_quiet_on
       simp only [Act.put, List.setIfInBounds_toArray, List.set_cons_zero, List.set_cons_succ]))
  refine wpQuiet_nil ?_
  intro W hW
  rw [if_pos (by rfl)]
  go_simp
  clear hc0 hf c0 hB
  go_wp2_with fail
  go_ret
  exact ⟨rfl, hW⟩
set_option maxRecDepth 20000 in
set_option maxHeartbeats 4000000 in
theorem mayAll_2_2 (n : Nat) (B o c : Nat) (w : World) (hc : n + 2 ≤ c) (hn : n ≤ 100) (c0 : w.cell? ⟨B, o, none⟩ = some (.int .i64 2))
    (hf : ∀ W, Below w.heap.size w W → Calls Try.prog 101 #[.slice (some ⟨B, o + 1, none⟩) (n + 1) (c - 1)] W fun r W' => r = .returned (.int .i64 2) ∧ Below W.heap.size W W') :
    Calls Try.prog 101 #[.slice (some ⟨B, o, none⟩) (n + 2) c] w fun r W' => r = .returned (.int .i64 2) ∧ Below w.heap.size w W' := by
  have g1 : ((n : Int) + 2 == 1) = false := by rw [beq_eq_false_iff_ne]; omega
  have i0 : (0 : Int) < (n : Int) + 2 := by omega
  have i1 : (1 : Int) ≤ (n : Int) + 2 := by omega
  have i2 : (n : Int) + 2 ≤ (c : Int) := by omega
  have i3 : ¬ c = 1 := by omega
  have hB := World.block_lt_of_cell? w _ c0
  have hc0 : Hid (∀ W, Below w.heap.size w W → W.cell? ⟨B, o, none⟩ = w.cell? ⟨B, o, none⟩) := fun W hb => hb.cell (p := ⟨B, o, none⟩) hB
  go_enter Try.func101, Try.ntmps101
  go_wp2_with fail
  refine wp_region_lit (fun W => Below w.heap.size w W) _ _ (by kernel_rfl) rfl (by kernel_rfl) (by kernel_rfl) (below_drew1 (Below.refl _ w)) ?_
  dsimp only [List.dropLast]
  repeat (first
    | go_big_quiet_skip
    | (go_big_quiet_want
       apply Exists.intro
       refine ⟨fun W hW => ?_, ?_⟩
       · have q0 := (hc0.out W hW).trans c0
         unfold Oper.quietAt
         go_simp
         first
           | with_reducible exact rfl
           | with_reducible exact ⟨rfl, rfl⟩
           | (go_at_call 101
              refine (hf W hW).mono ?_
              rintro e W1 ⟨rfl, hb⟩
              exact ⟨rfl, hW.trans (hb.mono hW.size)⟩)
       go_big_quiet_on
       simp only [Act.put, List.setIfInBounds_toArray, List.set_cons_zero, List.set_cons_succ]))
  refine wpQuiet_nil ?_
  intro W hW
  rw [if_pos (by rfl)]
  go_simp
  clear hc0 hf c0 hB
  go_wp2_with fail
  go_ret
  exact ⟨rfl, hW⟩
set_option maxRecDepth 20000 in
set_option maxHeartbeats 4000000 in
theorem mayAll_2_3 (n : Nat) (B o c : Nat) (w : World) (hc : n + 2 ≤ c) (hn : n ≤ 100) (c0 : w.cell? ⟨B, o, none⟩ = some (.int .i64 2))
    (hf : ∀ W, Below w.heap.size w W → Calls Try.prog 101 #[.slice (some ⟨B, o + 1, none⟩) (n + 1) (c - 1)] W fun r W' => r = .returned (.int .i64 3) ∧ Below W.heap.size W W') :
    Calls Try.prog 101 #[.slice (some ⟨B, o, none⟩) (n + 2) c] w fun r W' => r = .returned (.int .i64 2) ∧ Below w.heap.size w W' := by
  have g1 : ((n : Int) + 2 == 1) = false := by rw [beq_eq_false_iff_ne]; omega
  have i0 : (0 : Int) < (n : Int) + 2 := by omega
  have i1 : (1 : Int) ≤ (n : Int) + 2 := by omega
  have i2 : (n : Int) + 2 ≤ (c : Int) := by omega
  have i3 : ¬ c = 1 := by omega
  have hB := World.block_lt_of_cell? w _ c0
  have hc0 : Hid (∀ W, Below w.heap.size w W → W.cell? ⟨B, o, none⟩ = w.cell? ⟨B, o, none⟩) := fun W hb => hb.cell (p := ⟨B, o, none⟩) hB
  go_enter Try.func101, Try.ntmps101
  go_wp2_with fail
  refine wp_region_lit (fun W => Below w.heap.size w W) _ _ (by kernel_rfl) rfl (by kernel_rfl) (by kernel_rfl) (below_drew1 (Below.refl _ w)) ?_
  dsimp only [List.dropLast]
  repeat (first
    | go_big_quiet_skip
    | (go_big_quiet_want
       apply Exists.intro
       refine ⟨fun W hW => ?_, ?_⟩
       · have q0 := (hc0.out W hW).trans c0
         unfold Oper.quietAt
         go_simp
         first
           | with_reducible exact rfl
           | with_reducible exact ⟨rfl, rfl⟩
           | (go_at_call 101
              refine (hf W hW).mono ?_
              rintro e W1 ⟨rfl, hb⟩
              exact ⟨rfl, hW.trans (hb.mono hW.size)⟩)
       go_big_quiet_on
       simp only [Act.put, List.setIfInBounds_toArray, List.set_cons_zero, List.set_cons_succ]))
  refine wpQuiet_nil ?_
  intro W hW
  rw [if_pos (by rfl)]
  go_simp
  clear hc0 hf c0 hB
  go_wp2_with fail
  go_ret
  exact ⟨rfl, hW⟩
set_option maxRecDepth 20000 in
set_option maxHeartbeats 4000000 in
theorem mayAll_2_4 (n : Nat) (B o c : Nat) (w : World) (hc : n + 2 ≤ c) (hn : n ≤ 100) (c0 : w.cell? ⟨B, o, none⟩ = some (.int .i64 2))
    (hf : ∀ W, Below w.heap.size w W → Calls Try.prog 101 #[.slice (some ⟨B, o + 1, none⟩) (n + 1) (c - 1)] W fun r W' => r = .returned (.int .i64 4) ∧ Below W.heap.size W W') :
    Calls Try.prog 101 #[.slice (some ⟨B, o, none⟩) (n + 2) c] w fun r W' => r = .returned (.int .i64 4) ∧ Below w.heap.size w W' := by
  have g1 : ((n : Int) + 2 == 1) = false := by rw [beq_eq_false_iff_ne]; omega
  have i0 : (0 : Int) < (n : Int) + 2 := by omega
  have i1 : (1 : Int) ≤ (n : Int) + 2 := by omega
  have i2 : (n : Int) + 2 ≤ (c : Int) := by omega
  have i3 : ¬ c = 1 := by omega
  have hB := World.block_lt_of_cell? w _ c0
  have hc0 : Hid (∀ W, Below w.heap.size w W → W.cell? ⟨B, o, none⟩ = w.cell? ⟨B, o, none⟩) := fun W hb => hb.cell (p := ⟨B, o, none⟩) hB
  go_enter Try.func101, Try.ntmps101
  go_wp2_with fail
  refine wp_region_lit (fun W => Below w.heap.size w W) _ _ (by kernel_rfl) rfl (by kernel_rfl) (by kernel_rfl) (below_drew1 (Below.refl _ w)) ?_
  dsimp only [List.dropLast]
  repeat (first
    | go_big_quiet_skip
    | (go_big_quiet_want
       apply Exists.intro
       refine ⟨fun W hW => ?_, ?_⟩
       · have q0 := (hc0.out W hW).trans c0
         unfold Oper.quietAt
         go_simp
         first
           | with_reducible exact rfl
           | with_reducible exact ⟨rfl, rfl⟩
           | (go_at_call 101
              refine (hf W hW).mono ?_
              rintro e W1 ⟨rfl, hb⟩
              exact ⟨rfl, hW.trans (hb.mono hW.size)⟩)
       go_big_quiet_on
       simp only [Act.put, List.setIfInBounds_toArray, List.set_cons_zero, List.set_cons_succ]))
  refine wpQuiet_nil ?_
  intro W hW
  rw [if_pos (by rfl)]
  go_simp
  clear hc0 hf c0 hB
  go_wp2_with fail
  go_ret
  exact ⟨rfl, hW⟩
set_option maxRecDepth 20000 in
set_option maxHeartbeats 4000000 in
theorem mayAll_2_5 (n : Nat) (B o c : Nat) (w : World) (hc : n + 2 ≤ c) (hn : n ≤ 100) (c0 : w.cell? ⟨B, o, none⟩ = some (.int .i64 2))
    (hf : ∀ W, Below w.heap.size w W → Calls Try.prog 101 #[.slice (some ⟨B, o + 1, none⟩) (n + 1) (c - 1)] W fun r W' => r = .returned (.int .i64 5) ∧ Below W.heap.size W W') :
    Calls Try.prog 101 #[.slice (some ⟨B, o, none⟩) (n + 2) c] w fun r W' => r = .returned (.int .i64 6) ∧ Below w.heap.size w W' := by
  have g1 : ((n : Int) + 2 == 1) = false := by rw [beq_eq_false_iff_ne]; omega
  have i0 : (0 : Int) < (n : Int) + 2 := by omega
  have i1 : (1 : Int) ≤ (n : Int) + 2 := by omega
  have i2 : (n : Int) + 2 ≤ (c : Int) := by omega
  have i3 : ¬ c = 1 := by omega
  have hB := World.block_lt_of_cell? w _ c0
  have hc0 : Hid (∀ W, Below w.heap.size w W → W.cell? ⟨B, o, none⟩ = w.cell? ⟨B, o, none⟩) := fun W hb => hb.cell (p := ⟨B, o, none⟩) hB
  go_enter Try.func101, Try.ntmps101
  go_wp2_with fail
  refine wp_region_lit (fun W => Below w.heap.size w W) _ _ (by kernel_rfl) rfl (by kernel_rfl) (by kernel_rfl) (below_drew1 (Below.refl _ w)) ?_
  dsimp only [List.dropLast]
  repeat (first
    | go_big_quiet_skip
    | (go_big_quiet_want
       apply Exists.intro
       refine ⟨fun W hW => ?_, ?_⟩
       · have q0 := (hc0.out W hW).trans c0
         unfold Oper.quietAt
         go_simp
         first
           | with_reducible exact rfl
           | with_reducible exact ⟨rfl, rfl⟩
           | (go_at_call 101
              refine (hf W hW).mono ?_
              rintro e W1 ⟨rfl, hb⟩
              exact ⟨rfl, hW.trans (hb.mono hW.size)⟩)
       go_big_quiet_on
       simp only [Act.put, List.setIfInBounds_toArray, List.set_cons_zero, List.set_cons_succ]))
  refine wpQuiet_nil ?_
  intro W hW
  rw [if_pos (by rfl)]
  go_simp
  clear hc0 hf c0 hB
  go_wp2_with fail
  go_ret
  exact ⟨rfl, hW⟩
set_option maxRecDepth 20000 in
set_option maxHeartbeats 4000000 in
theorem mayAll_2_6 (n : Nat) (B o c : Nat) (w : World) (hc : n + 2 ≤ c) (hn : n ≤ 100) (c0 : w.cell? ⟨B, o, none⟩ = some (.int .i64 2))
    (hf : ∀ W, Below w.heap.size w W → Calls Try.prog 101 #[.slice (some ⟨B, o + 1, none⟩) (n + 1) (c - 1)] W fun r W' => r = .returned (.int .i64 6) ∧ Below W.heap.size W W') :
    Calls Try.prog 101 #[.slice (some ⟨B, o, none⟩) (n + 2) c] w fun r W' => r = .returned (.int .i64 6) ∧ Below w.heap.size w W' := by
  have g1 : ((n : Int) + 2 == 1) = false := by rw [beq_eq_false_iff_ne]; omega
  have i0 : (0 : Int) < (n : Int) + 2 := by omega
  have i1 : (1 : Int) ≤ (n : Int) + 2 := by omega
  have i2 : (n : Int) + 2 ≤ (c : Int) := by omega
  have i3 : ¬ c = 1 := by omega
  have hB := World.block_lt_of_cell? w _ c0
  have hc0 : Hid (∀ W, Below w.heap.size w W → W.cell? ⟨B, o, none⟩ = w.cell? ⟨B, o, none⟩) := fun W hb => hb.cell (p := ⟨B, o, none⟩) hB
  go_enter Try.func101, Try.ntmps101
  go_wp2_with fail
  refine wp_region_lit (fun W => Below w.heap.size w W) _ _ (by kernel_rfl) rfl (by kernel_rfl) (by kernel_rfl) (below_drew1 (Below.refl _ w)) ?_
  dsimp only [List.dropLast]
  repeat (first
    | go_big_quiet_skip
    | (go_big_quiet_want
       apply Exists.intro
       refine ⟨fun W hW => ?_, ?_⟩
       · have q0 := (hc0.out W hW).trans c0
         unfold Oper.quietAt
         go_simp
         first
           | with_reducible exact rfl
           | with_reducible exact ⟨rfl, rfl⟩
           | (go_at_call 101
              refine (hf W hW).mono ?_
              rintro e W1 ⟨rfl, hb⟩
              exact ⟨rfl, hW.trans (hb.mono hW.size)⟩)
       go_big_quiet_on
       simp only [Act.put, List.setIfInBounds_toArray, List.set_cons_zero, List.set_cons_succ]))
  refine wpQuiet_nil ?_
  intro W hW
  rw [if_pos (by rfl)]
  go_simp
  clear hc0 hf c0 hB
  go_wp2_with fail
  go_ret
  exact ⟨rfl, hW⟩
set_option maxRecDepth 20000 in
set_option maxHeartbeats 4000000 in
theorem mayAll_2_7 (n : Nat) (B o c : Nat) (w : World) (hc : n + 2 ≤ c) (hn : n ≤ 100) (c0 : w.cell? ⟨B, o, none⟩ = some (.int .i64 2))
    (hf : ∀ W, Below w.heap.size w W → Calls Try.prog 101 #[.slice (some ⟨B, o + 1, none⟩) (n + 1) (c - 1)] W fun r W' => r = .returned (.int .i64 7) ∧ Below W.heap.size W W') :
    Calls Try.prog 101 #[.slice (some ⟨B, o, none⟩) (n + 2) c] w fun r W' => r = .returned (.int .i64 6) ∧ Below w.heap.size w W' := by
  have g1 : ((n : Int) + 2 == 1) = false := by rw [beq_eq_false_iff_ne]; omega
  have i0 : (0 : Int) < (n : Int) + 2 := by omega
  have i1 : (1 : Int) ≤ (n : Int) + 2 := by omega
  have i2 : (n : Int) + 2 ≤ (c : Int) := by omega
  have i3 : ¬ c = 1 := by omega
  have hB := World.block_lt_of_cell? w _ c0
  have hc0 : Hid (∀ W, Below w.heap.size w W → W.cell? ⟨B, o, none⟩ = w.cell? ⟨B, o, none⟩) := fun W hb => hb.cell (p := ⟨B, o, none⟩) hB
  go_enter Try.func101, Try.ntmps101
  go_wp2_with fail
  refine wp_region_lit (fun W => Below w.heap.size w W) _ _ (by kernel_rfl) rfl (by kernel_rfl) (by kernel_rfl) (below_drew1 (Below.refl _ w)) ?_
  dsimp only [List.dropLast]
  repeat (first
    | go_big_quiet_skip
    | (go_big_quiet_want
       apply Exists.intro
       refine ⟨fun W hW => ?_, ?_⟩
       · have q0 := (hc0.out W hW).trans c0
         unfold Oper.quietAt
         go_simp
         first
           | with_reducible exact rfl
           | with_reducible exact ⟨rfl, rfl⟩
           | (go_at_call 101
              refine (hf W hW).mono ?_
              rintro e W1 ⟨rfl, hb⟩
              exact ⟨rfl, hW.trans (hb.mono hW.size)⟩)
       go_big_quiet_on
       simp only [Act.put, List.setIfInBounds_toArray, List.set_cons_zero, List.set_cons_succ]))
  refine wpQuiet_nil ?_
  intro W hW
  rw [if_pos (by rfl)]
  go_simp
  clear hc0 hf c0 hB
  go_wp2_with fail
  go_ret
  exact ⟨rfl, hW⟩
set_option maxRecDepth 20000 in
set_option maxHeartbeats 4000000 in
theorem mayAll_3_0 (n : Nat) (B o c : Nat) (w : World) (hc : n + 2 ≤ c) (hn : n ≤ 100) (c0 : w.cell? ⟨B, o, none⟩ = some (.int .i64 3))
    (hf : ∀ W, Below w.heap.size w W → Calls Try.prog 101 #[.slice (some ⟨B, o + 1, none⟩) (n + 1) (c - 1)] W fun r W' => r = .returned (.int .i64 0) ∧ Below W.heap.size W W') :
    Calls Try.prog 101 #[.slice (some ⟨B, o, none⟩) (n + 2) c] w fun r W' => r = .returned (.int .i64 0) ∧ Below w.heap.size w W' := by
  have g1 : ((n : Int) + 2 == 1) = false := by rw [beq_eq_false_iff_ne]; omega
  have i0 : (0 : Int) < (n : Int) + 2 := by omega
  have i1 : (1 : Int) ≤ (n : Int) + 2 := by omega
  have i2 : (n : Int) + 2 ≤ (c : Int) := by omega
  have i3 : ¬ c = 1 := by omega
  have hB := World.block_lt_of_cell? w _ c0
  have hc0 : Hid (∀ W, Below w.heap.size w W → W.cell? ⟨B, o, none⟩ = w.cell? ⟨B, o, none⟩) := fun W hb => hb.cell (p := ⟨B, o, none⟩) hB
  go_enter Try.func101, Try.ntmps101
  go_wp2_with fail
  refine wp_region_lit (fun W => Below w.heap.size w W) _ _ (by kernel_rfl) rfl (by kernel_rfl) (by kernel_rfl) (below_drew1 (Below.refl _ w)) ?_
  dsimp only [List.dropLast]
  repeat (first
    | go_big_quiet_skip
    | (go_big_quiet_want
       apply Exists.intro
       refine ⟨fun W hW => ?_, ?_⟩
       · have q0 := (hc0.out W hW).trans c0
         unfold Oper.quietAt
         go_simp
         first
           | with_reducible exact rfl
           | with_reducible exact ⟨rfl, rfl⟩
           | (go_at_call 101
              refine (hf W hW).mono ?_
              rintro e W1 ⟨rfl, hb⟩
              exact ⟨rfl, hW.trans (hb.mono hW.size)⟩)
       go_big_quiet_on
       simp only [Act.put, List.setIfInBounds_toArray, List.set_cons_zero, List.set_cons_succ]))
  refine wpQuiet_nil ?_
  intro W hW
  rw [if_pos (by rfl)]
  go_simp
  clear hc0 hf c0 hB
  go_wp2_with fail
  go_ret
  exact ⟨rfl, hW⟩
set_option maxRecDepth 20000 in
set_option maxHeartbeats 4000000 in
theorem mayAll_3_1 (n : Nat) (B o c : Nat) (w : World) (hc : n + 2 ≤ c) (hn : n ≤ 100) (c0 : w.cell? ⟨B, o, none⟩ = some (.int .i64 3))
    (hf : ∀ W, Below w.heap.size w W → Calls Try.prog 101 #[.slice (some ⟨B, o + 1, none⟩) (n + 1) (c - 1)] W fun r W' => r = .returned (.int .i64 1) ∧ Below W.heap.size W W') :
    Calls Try.prog 101 #[.slice (some ⟨B, o, none⟩) (n + 2) c] w fun r W' => r = .returned (.int .i64 3) ∧ Below w.heap.size w W' := by
  have g1 : ((n : Int) + 2 == 1) = false := by rw [beq_eq_false_iff_ne]; omega
  have i0 : (0 : Int) < (n : Int) + 2 := by omega
  have i1 : (1 : Int) ≤ (n : Int) + 2 := by omega
  have i2 : (n : Int) + 2 ≤ (c : Int) := by omega
  have i3 : ¬ c = 1 := by omega
  have hB := World.block_lt_of_cell? w _ c0
  have hc0 : Hid (∀ W, Below w.heap.size w W → W.cell? ⟨B, o, none⟩ = w.cell? ⟨B, o, none⟩) := fun W hb => hb.cell (p := ⟨B, o, none⟩) hB
  go_enter Try.func101, Try.ntmps101
  go_wp2_with fail
  refine wp_region_lit (fun W => Below w.heap.size w W) _ _ (by kernel_rfl) rfl (by kernel_rfl) (by kernel_rfl) (below_drew1 (Below.refl _ w)) ?_
  dsimp only [List.dropLast]
  repeat (first
    | go_big_quiet_skip
    | (go_big_quiet_want
       apply Exists.intro
       refine ⟨fun W hW => ?_, ?_⟩
       · have q0 := (hc0.out W hW).trans c0
         unfold Oper.quietAt
         go_simp
         first
           | with_reducible exact rfl
           | with_reducible exact ⟨rfl, rfl⟩
           | (go_at_call 101
              refine (hf W hW).mono ?_
              rintro e W1 ⟨rfl, hb⟩
              exact ⟨rfl, hW.trans (hb.mono hW.size)⟩)
       go_big_quiet_on
       simp only [Act.put, List.setIfInBounds_toArray, List.set_cons_zero, List.set_cons_succ]))
  refine wpQuiet_nil ?_
  intro W hW
  rw [if_pos (by rfl)]
  go_simp
  clear hc0 hf c0 hB
  go_wp2_with fail
  go_ret
  exact ⟨rfl, hW⟩
set_option maxRecDepth 20000 in
set_option maxHeartbeats 4000000 in
theorem mayAll_3_2 (n : Nat) (B o c : Nat) (w : World) (hc : n + 2 ≤ c) (hn : n ≤ 100) (c0 : w.cell? ⟨B, o, none⟩ = some (.int .i64 3))
    (hf : ∀ W, Below w.heap.size w W → Calls Try.prog 101 #[.slice (some ⟨B, o + 1, none⟩) (n + 1) (c - 1)] W fun r W' => r = .returned (.int .i64 2) ∧ Below W.heap.size W W') :
    Calls Try.prog 101 #[.slice (some ⟨B, o, none⟩) (n + 2) c] w fun r W' => r = .returned (.int .i64 2) ∧ Below w.heap.size w W' := by
  have g1 : ((n : Int) + 2 == 1) = false := by rw [beq_eq_false_iff_ne]; omega
  have i0 : (0 : Int) < (n : Int) + 2 := by omega
  have i1 : (1 : Int) ≤ (n : Int) + 2 := by omega
  have i2 : (n : Int) + 2 ≤ (c : Int) := by omega
  have i3 : ¬ c = 1 := by omega
  have hB := World.block_lt_of_cell? w _ c0
  have hc0 : Hid (∀ W, Below w.heap.size w W → W.cell? ⟨B, o, none⟩ = w.cell? ⟨B, o, none⟩) := fun W hb => hb.cell (p := ⟨B, o, none⟩) hB
  go_enter Try.func101, Try.ntmps101
  go_wp2_with fail
  refine wp_region_lit (fun W => Below w.heap.size w W) _ _ (by kernel_rfl) rfl (by kernel_rfl) (by kernel_rfl) (below_drew1 (Below.refl _ w)) ?_
  dsimp only [List.dropLast]
  repeat (first
    | go_big_quiet_skip
    | (go_big_quiet_want
       apply Exists.intro
       refine ⟨fun W hW => ?_, ?_⟩
       · have q0 := (hc0.out W hW).trans c0
         unfold Oper.quietAt
         go_simp
         first
           | with_reducible exact rfl
           | with_reducible exact ⟨rfl, rfl⟩
           | (go_at_call 101
              refine (hf W hW).mono ?_
              rintro e W1 ⟨rfl, hb⟩
              exact ⟨rfl, hW.trans (hb.mono hW.size)⟩)
       go_big_quiet_on
       simp only [Act.put, List.setIfInBounds_toArray, List.set_cons_zero, List.set_cons_succ]))
  refine wpQuiet_nil ?_
  intro W hW
  rw [if_pos (by rfl)]
  go_simp
  clear hc0 hf c0 hB
  go_wp2_with fail
  go_ret
  exact ⟨rfl, hW⟩
set_option maxRecDepth 20000 in
set_option maxHeartbeats 4000000 in
theorem mayAll_3_3 (n : Nat) (B o c : Nat) (w : World) (hc : n + 2 ≤ c) (hn : n ≤ 100) (c0 : w.cell? ⟨B, o, none⟩ = some (.int .i64 3))
    (hf : ∀ W, Below w.heap.size w W → Calls Try.prog 101 #[.slice (some ⟨B, o + 1, none⟩) (n + 1) (c - 1)] W fun r W' => r = .returned (.int .i64 3) ∧ Below W.heap.size W W') :
    Calls Try.prog 101 #[.slice (some ⟨B, o, none⟩) (n + 2) c] w fun r W' => r = .returned (.int .i64 3) ∧ Below w.heap.size w W' := by
  have g1 : ((n : Int) + 2 == 1) = false := by rw [beq_eq_false_iff_ne]; omega
  have i0 : (0 : Int) < (n : Int) + 2 := by omega
  have i1 : (1 : Int) ≤ (n : Int) + 2 := by omega
  have i2 : (n : Int) + 2 ≤ (c : Int) := by omega
  have i3 : ¬ c = 1 := by omega
  have hB := World.block_lt_of_cell? w _ c0
  have hc0 : Hid (∀ W, Below w.heap.size w W → W.cell? ⟨B, o, none⟩ = w.cell? ⟨B, o, none⟩) := fun W hb => hb.cell (p := ⟨B, o, none⟩) hB
  go_enter Try.func101, Try.ntmps101
  go_wp2_with fail
  refine wp_region_lit (fun W => Below w.heap.size w W) _ _ (by kernel_rfl) rfl (by kernel_rfl) (by kernel_rfl) (below_drew1 (Below.refl _ w)) ?_
  dsimp only [List.dropLast]
  repeat (first
    | go_big_quiet_skip
    | (go_big_quiet_want
       apply Exists.intro
       refine ⟨fun W hW => ?_, ?_⟩
       · have q0 := (hc0.out W hW).trans c0
         unfold Oper.quietAt
         go_simp
         first
           | with_reducible exact rfl
           | with_reducible exact ⟨rfl, rfl⟩
           | (go_at_call 101
              refine (hf W hW).mono ?_
              rintro e W1 ⟨rfl, hb⟩
              exact ⟨rfl, hW.trans (hb.mono hW.size)⟩)
       go_big_quiet_on
       simp only [Act.put, List.setIfInBounds_toArray, List.set_cons_zero, List.set_cons_succ]))
  refine wpQuiet_nil ?_
  intro W hW
  rw [if_pos (by rfl)]
  go_simp
  clear hc0 hf c0 hB
  go_wp2_with fail
  go_ret
  exact ⟨rfl, hW⟩
set_option maxRecDepth 20000 in
set_option maxHeartbeats 4000000 in
theorem mayAll_3_4 (n : Nat) (B o c : Nat) (w : World) (hc : n + 2 ≤ c) (hn : n ≤ 100) (c0 : w.cell? ⟨B, o, none⟩ = some (.int .i64 3))
    (hf : ∀ W, Below w.heap.size w W → Calls Try.prog 101 #[.slice (some ⟨B, o + 1, none⟩) (n + 1) (c - 1)] W fun r W' => r = .returned (.int .i64 4) ∧ Below W.heap.size W W') :
    Calls Try.prog 101 #[.slice (some ⟨B, o, none⟩) (n + 2) c] w fun r W' => r = .returned (.int .i64 4) ∧ Below w.heap.size w W' := by
  have g1 : ((n : Int) + 2 == 1) = false := by rw [beq_eq_false_iff_ne]; omega
  have i0 : (0 : Int) < (n : Int) + 2 := by omega
  have i1 : (1 : Int) ≤ (n : Int) + 2 := by omega
  have i2 : (n : Int) + 2 ≤ (c : Int) := by omega
  have i3 : ¬ c = 1 := by omega
  have hB := World.block_lt_of_cell? w _ c0
  have hc0 : Hid (∀ W, Below w.heap.size w W → W.cell? ⟨B, o, none⟩ = w.cell? ⟨B, o, none⟩) := fun W hb => hb.cell (p := ⟨B, o, none⟩) hB
  go_enter Try.func101, Try.ntmps101
  go_wp2_with fail
  refine wp_region_lit (fun W => Below w.heap.size w W) _ _ (by kernel_rfl) rfl (by kernel_rfl) (by kernel_rfl) (below_drew1 (Below.refl _ w)) ?_
  dsimp only [List.dropLast]
  repeat (first
    | go_big_quiet_skip
    | (go_big_quiet_want
       apply Exists.intro
       refine ⟨fun W hW => ?_, ?_⟩
       · have q0 := (hc0.out W hW).trans c0
         unfold Oper.quietAt
         go_simp
         first
           | with_reducible exact rfl
           | with_reducible exact ⟨rfl, rfl⟩
           | (go_at_call 101
              refine (hf W hW).mono ?_
              rintro e W1 ⟨rfl, hb⟩
              exact ⟨rfl, hW.trans (hb.mono hW.size)⟩)
       go_big_quiet_on
       simp only [Act.put, List.setIfInBounds_toArray, List.set_cons_zero, List.set_cons_succ]))
  refine wpQuiet_nil ?_
  intro W hW
  rw [if_pos (by rfl)]
  go_simp
  clear hc0 hf c0 hB
  go_wp2_with fail
  go_ret
  exact ⟨rfl, hW⟩
set_option maxRecDepth 20000 in
set_option maxHeartbeats 4000000 in
theorem mayAll_3_5 (n : Nat) (B o c : Nat) (w : World) (hc : n + 2 ≤ c) (hn : n ≤ 100) (c0 : w.cell? ⟨B, o, none⟩ = some (.int .i64 3))
    (hf : ∀ W, Below w.heap.size w W → Calls Try.prog 101 #[.slice (some ⟨B, o + 1, none⟩) (n + 1) (c - 1)] W fun r W' => r = .returned (.int .i64 5) ∧ Below W.heap.size W W') :
    Calls Try.prog 101 #[.slice (some ⟨B, o, none⟩) (n + 2) c] w fun r W' => r = .returned (.int .i64 7) ∧ Below w.heap.size w W' := by
  have g1 : ((n : Int) + 2 == 1) = false := by rw [beq_eq_false_iff_ne]; omega
  have i0 : (0 : Int) < (n : Int) + 2 := by omega
  have i1 : (1 : Int) ≤ (n : Int) + 2 := by omega
  have i2 : (n : Int) + 2 ≤ (c : Int) := by omega
  have i3 : ¬ c = 1 := by omega
  have hB := World.block_lt_of_cell? w _ c0
  have hc0 : Hid (∀ W, Below w.heap.size w W → W.cell? ⟨B, o, none⟩ = w.cell? ⟨B, o, none⟩) := fun W hb => hb.cell (p := ⟨B, o, none⟩) hB
  go_enter Try.func101, Try.ntmps101
  go_wp2_with fail
  refine wp_region_lit (fun W => Below w.heap.size w W) _ _ (by kernel_rfl) rfl (by kernel_rfl) (by kernel_rfl) (below_drew1 (Below.refl _ w)) ?_
  dsimp only [List.dropLast]
  repeat (first
    | go_big_quiet_skip
    | (go_big_quiet_want
       apply Exists.intro
       refine ⟨fun W hW => ?_, ?_⟩
       · have q0 := (hc0.out W hW).trans c0
         unfold Oper.quietAt
         go_simp
         first
           | with_reducible exact rfl
           | with_reducible exact ⟨rfl, rfl⟩
           | (go_at_call 101
              refine (hf W hW).mono ?_
              rintro e W1 ⟨rfl, hb⟩
              exact ⟨rfl, hW.trans (hb.mono hW.size)⟩)
       go_big_quiet_on
       simp only [Act.put, List.setIfInBounds_toArray, List.set_cons_zero, List.set_cons_succ]))
  refine wpQuiet_nil ?_
  intro W hW
  rw [if_pos (by rfl)]
  go_simp
  clear hc0 hf c0 hB
  go_wp2_with fail
  go_ret
  exact ⟨rfl, hW⟩
set_option maxRecDepth 20000 in
set_option maxHeartbeats 4000000 in
theorem mayAll_3_6 (n : Nat) (B o c : Nat) (w : World) (hc : n + 2 ≤ c) (hn : n ≤ 100) (c0 : w.cell? ⟨B, o, none⟩ = some (.int .i64 3))
    (hf : ∀ W, Below w.heap.size w W → Calls Try.prog 101 #[.slice (some ⟨B, o + 1, none⟩) (n + 1) (c - 1)] W fun r W' => r = .returned (.int .i64 6) ∧ Below W.heap.size W W') :
    Calls Try.prog 101 #[.slice (some ⟨B, o, none⟩) (n + 2) c] w fun r W' => r = .returned (.int .i64 6) ∧ Below w.heap.size w W' := by
  have g1 : ((n : Int) + 2 == 1) = false := by rw [beq_eq_false_iff_ne]; omega
  have i0 : (0 : Int) < (n : Int) + 2 := by omega
  have i1 : (1 : Int) ≤ (n : Int) + 2 := by omega
  have i2 : (n : Int) + 2 ≤ (c : Int) := by omega
  have i3 : ¬ c = 1 := by omega
  have hB := World.block_lt_of_cell? w _ c0
  have hc0 : Hid (∀ W, Below w.heap.size w W → W.cell? ⟨B, o, none⟩ = w.cell? ⟨B, o, none⟩) := fun W hb => hb.cell (p := ⟨B, o, none⟩) hB
  go_enter Try.func101, Try.ntmps101
  go_wp2_with fail
  refine wp_region_lit (fun W => Below w.heap.size w W) _ _ (by kernel_rfl) rfl (by kernel_rfl) (by kernel_rfl) (below_drew1 (Below.refl _ w)) ?_
  dsimp only [List.dropLast]
  repeat (first
    | go_big_quiet_skip
    | (go_big_quiet_want
       apply Exists.intro
       refine ⟨fun W hW => ?_, ?_⟩
       · have q0 := (hc0.out W hW).trans c0
         unfold Oper.quietAt
         go_simp
         first
           | with_reducible exact rfl
           | with_reducible exact ⟨rfl, rfl⟩
           | (go_at_call 101
              refine (hf W hW).mono ?_
              rintro e W1 ⟨rfl, hb⟩
              exact ⟨rfl, hW.trans (hb.mono hW.size)⟩)
       go_big_quiet_on
       simp only [Act.put, List.setIfInBounds_toArray, List.set_cons_zero, List.set_cons_succ]))
  refine wpQuiet_nil ?_
  intro W hW
  rw [if_pos (by rfl)]
  go_simp
  clear hc0 hf c0 hB
  go_wp2_with fail
  go_ret
  exact ⟨rfl, hW⟩
set_option maxRecDepth 20000 in
set_option maxHeartbeats 4000000 in
theorem mayAll_3_7 (n : Nat) (B o c : Nat) (w : World) (hc : n + 2 ≤ c) (hn : n ≤ 100) (c0 : w.cell? ⟨B, o, none⟩ = some (.int .i64 3))
    (hf : ∀ W, Below w.heap.size w W → Calls Try.prog 101 #[.slice (some ⟨B, o + 1, none⟩) (n + 1) (c - 1)] W fun r W' => r = .returned (.int .i64 7) ∧ Below W.heap.size W W') :
    Calls Try.prog 101 #[.slice (some ⟨B, o, none⟩) (n + 2) c] w fun r W' => r = .returned (.int .i64 7) ∧ Below w.heap.size w W' := by
  have g1 : ((n : Int) + 2 == 1) = false := by rw [beq_eq_false_iff_ne]; omega
  have i0 : (0 : Int) < (n : Int) + 2 := by omega
  have i1 : (1 : Int) ≤ (n : Int) + 2 := by omega
  have i2 : (n : Int) + 2 ≤ (c : Int) := by omega
  have i3 : ¬ c = 1 := by omega
  have hB := World.block_lt_of_cell? w _ c0
  have hc0 : Hid (∀ W, Below w.heap.size w W → W.cell? ⟨B, o, none⟩ = w.cell? ⟨B, o, none⟩) := fun W hb => hb.cell (p := ⟨B, o, none⟩) hB
  go_enter Try.func101, Try.ntmps101
  go_wp2_with fail
  refine wp_region_lit (fun W => Below w.heap.size w W) _ _ (by kernel_rfl) rfl (by kernel_rfl) (by kernel_rfl) (below_drew1 (Below.refl _ w)) ?_
  dsimp only [List.dropLast]
  repeat (first
    | go_big_quiet_skip
    | (go_big_quiet_want
       apply Exists.intro
       refine ⟨fun W hW => ?_, ?_⟩
       · have q0 := (hc0.out W hW).trans c0
         unfold Oper.quietAt
         go_simp
         first
           | with_reducible exact rfl
           | with_reducible exact ⟨rfl, rfl⟩
           | (go_at_call 101
              refine (hf W hW).mono ?_
              rintro e W1 ⟨rfl, hb⟩
              exact ⟨rfl, hW.trans (hb.mono hW.size)⟩)
       go_big_quiet_on
       simp only [Act.put, List.setIfInBounds_toArray, List.set_cons_zero, List.set_cons_succ]))
  refine wpQuiet_nil ?_
  intro W hW
  rw [if_pos (by rfl)]
  go_simp
  clear hc0 hf c0 hB
  go_wp2_with fail
  go_ret
  exact ⟨rfl, hW⟩
end Go.Proofs.Ytokdaapmejccbaa
namespace Go.Proofs.Ytokdaapmejccbaa
open Go.RowKit
set_option linter.unusedVariables false
set_option linter.unusedSimpArgs false
set_option maxRecDepth 20000 in
set_option maxHeartbeats 4000000 in
theorem mayAll_4_0 (n : Nat) (B o c : Nat) (w : World) (hc : n + 2 ≤ c) (hn : n ≤ 100) (c0 : w.cell? ⟨B, o, none⟩ = some (.int .i64 4))
    (hf : ∀ W, Below w.heap.size w W → Calls Try.prog 101 #[.slice (some ⟨B, o + 1, none⟩) (n + 1) (c - 1)] W fun r W' => r = .returned (.int .i64 0) ∧ Below W.heap.size W W') :
    Calls Try.prog 101 #[.slice (some ⟨B, o, none⟩) (n + 2) c] w fun r W' => r = .returned (.int .i64 4) ∧ Below w.heap.size w W' := by
  have g1 : ((n : Int) + 2 == 1) = false := by rw [beq_eq_false_iff_ne]; omega
  have i0 : (0 : Int) < (n : Int) + 2 := by omega
  have i1 : (1 : Int) ≤ (n : Int) + 2 := by omega
  have i2 : (n : Int) + 2 ≤ (c : Int) := by omega
  have i3 : ¬ c = 1 := by omega
  have hB := World.block_lt_of_cell? w _ c0
  have hc0 : Hid (∀ W, Below w.heap.size w W → W.cell? ⟨B, o, none⟩ = w.cell? ⟨B, o, none⟩) := fun W hb => hb.cell (p := ⟨B, o, none⟩) hB
  go_enter Try.func101, Try.ntmps101
  go_wp2_with fail
  refine wp_region_lit (fun W => Below w.heap.size w W) _ _ (by kernel_rfl) rfl (by kernel_rfl) (by kernel_rfl) (below_drew1 (Below.refl _ w)) ?_
  dsimp only [List.dropLast]
  repeat (first
    | go_big_quiet_skip
    | (go_big_quiet_want
       apply Exists.intro
       refine ⟨fun W hW => ?_, ?_⟩
       · have q0 := (hc0.out W hW).trans c0
         unfold Oper.quietAt
         go_simp
         first
           | with_reducible exact rfl
           | with_reducible exact ⟨rfl, rfl⟩
           | (go_at_call 101
              refine (hf W hW).mono ?_
              rintro e W1 ⟨rfl, hb⟩
              exact ⟨rfl, hW.trans (hb.mono hW.size)⟩)
       go_big_quiet_on
       simp only [Act.put, List.setIfInBounds_toArray, List.set_cons_zero, List.set_cons_succ]))
  refine wpQuiet_nil ?_
  intro W hW
  rw [if_pos (by rfl)]
  go_simp
  clear hc0 hf c0 hB
  go_wp2_with fail
  go_ret
  exact ⟨rfl, hW⟩
set_option maxRecDepth 20000 in
set_option maxHeartbeats 4000000 in
theorem mayAll_4_1 (n : Nat) (B o c : Nat) (w : World) (hc : n + 2 ≤ c) (hn : n ≤ 100) (c0 : w.cell? ⟨B, o, none⟩ = some (.int .i64 4))
    (hf : ∀ W, Below w.heap.size w W → Calls Try.prog 101 #[.slice (some ⟨B, o + 1, none⟩) (n + 1) (c - 1)] W fun r W' => r = .returned (.int .i64 1) ∧ Below W.heap.size W W') :
    Calls Try.prog 101 #[.slice (some ⟨B, o, none⟩) (n + 2) c] w fun r W' => r = .returned (.int .i64 4) ∧ Below w.heap.size w W' := by
  have g1 : ((n : Int) + 2 == 1) = false := by rw [beq_eq_false_iff_ne]; omega
  have i0 : (0 : Int) < (n : Int) + 2 := by omega
  have i1 : (1 : Int) ≤ (n : Int) + 2 := by omega
  have i2 : (n : Int) + 2 ≤ (c : Int) := by omega
  have i3 : ¬ c = 1 := by omega
  have hB := World.block_lt_of_cell? w _ c0
  have hc0 : Hid (∀ W, Below w.heap.size w W → W.cell? ⟨B, o, none⟩ = w.cell? ⟨B, o, none⟩) := fun W hb => hb.cell (p := ⟨B, o, none⟩) hB
  go_enter Try.func101, Try.ntmps101
  go_wp2_with fail
  refine wp_region_lit (fun W => Below w.heap.size w W) _ _ (by kernel_rfl) rfl (by kernel_rfl) (by kernel_rfl) (below_drew1 (Below.refl _ w)) ?_
  dsimp only [List.dropLast]
  repeat (first
    | go_big_quiet_skip
    | (go_big_quiet_want
       apply Exists.intro
       refine ⟨fun W hW => ?_, ?_⟩
       · have q0 := (hc0.out W hW).trans c0
         unfold Oper.quietAt
         go_simp
         first
           | with_reducible exact rfl
           | with_reducible exact ⟨rfl, rfl⟩
           | (go_at_call 101
              refine (hf W hW).mono ?_
              rintro e W1 ⟨rfl, hb⟩
              exact ⟨rfl, hW.trans (hb.mono hW.size)⟩)
       go_big_quiet_on
       simp only [Act.put, List.setIfInBounds_toArray, List.set_cons_zero, List.set_cons_succ]))
  refine wpQuiet_nil ?_
  intro W hW
  rw [if_pos (by rfl)]
  go_simp
  clear hc0 hf c0 hB
  go_wp2_with fail
  go_ret
  exact ⟨rfl, hW⟩
set_option maxRecDepth 20000 in
set_option maxHeartbeats 4000000 in
theorem mayAll_4_2 (n : Nat) (B o c : Nat) (w : World) (hc : n + 2 ≤ c) (hn : n ≤ 100) (c0 : w.cell? ⟨B, o, none⟩ = some (.int .i64 4))
    (hf : ∀ W, Below w.heap.size w W → Calls Try.prog 101 #[.slice (some ⟨B, o + 1, none⟩) (n + 1) (c - 1)] W fun r W' => r = .returned (.int .i64 2) ∧ Below W.heap.size W W') :
    Calls Try.prog 101 #[.slice (some ⟨B, o, none⟩) (n + 2) c] w fun r W' => r = .returned (.int .i64 4) ∧ Below w.heap.size w W' := by
  have g1 : ((n : Int) + 2 == 1) = false := by rw [beq_eq_false_iff_ne]; omega
  have i0 : (0 : Int) < (n : Int) + 2 := by omega
  have i1 : (1 : Int) ≤ (n : Int) + 2 := by omega
  have i2 : (n : Int) + 2 ≤ (c : Int) := by omega
  have i3 : ¬ c = 1 := by omega
  have hB := World.block_lt_of_cell? w _ c0
  have hc0 : Hid (∀ W, Below w.heap.size w W → W.cell? ⟨B, o, none⟩ = w.cell? ⟨B, o, none⟩) := fun W hb => hb.cell (p := ⟨B, o, none⟩) hB
  go_enter Try.func101, Try.ntmps101
  go_wp2_with fail
  refine wp_region_lit (fun W => Below w.heap.size w W) _ _ (by kernel_rfl) rfl (by kernel_rfl) (by kernel_rfl) (below_drew1 (Below.refl _ w)) ?_
  dsimp only [List.dropLast]
  repeat (first
    | go_big_quiet_skip
    | (go_big_quiet_want
       apply Exists.intro
       refine ⟨fun W hW => ?_, ?_⟩
       · have q0 := (hc0.out W hW).trans c0
         unfold Oper.quietAt
         go_simp
         first
           | with_reducible exact rfl
           | with_reducible exact ⟨rfl, rfl⟩
           | (go_at_call 101
              refine (hf W hW).mono ?_
              rintro e W1 ⟨rfl, hb⟩
              exact ⟨rfl, hW.trans (hb.mono hW.size)⟩)
       go_big_quiet_on
       simp only [Act.put, List.setIfInBounds_toArray, List.set_cons_zero, List.set_cons_succ]))
  refine wpQuiet_nil ?_
  intro W hW
  rw [if_pos (by rfl)]
  go_simp
  clear hc0 hf c0 hB
  go_wp2_with fail
  go_ret
  exact ⟨rfl, hW⟩
set_option maxRecDepth 20000 in
set_option maxHeartbeats 4000000 in
theorem mayAll_4_3 (n : Nat) (B o c : Nat) (w : World) (hc : n + 2 ≤ c) (hn : n ≤ 100) (c0 : w.cell? ⟨B, o, none⟩ = some (.int .i64 4))
    (hf : ∀ W, Below w.heap.size w W → Calls Try.prog 101 #[.slice (some ⟨B, o + 1, none⟩) (n + 1) (c - 1)] W fun r W' => r = .returned (.int .i64 3) ∧ Below W.heap.size W W') :
    Calls Try.prog 101 #[.slice (some ⟨B, o, none⟩) (n + 2) c] w fun r W' => r = .returned (.int .i64 4) ∧ Below w.heap.size w W' := by
  have g1 : ((n : Int) + 2 == 1) = false := by rw [beq_eq_false_iff_ne]; omega
  have i0 : (0 : Int) < (n : Int) + 2 := by omega
  have i1 : (1 : Int) ≤ (n : Int) + 2 := by omega
  have i2 : (n : Int) + 2 ≤ (c : Int) := by omega
  have i3 : ¬ c = 1 := by omega
  have hB := World.block_lt_of_cell? w _ c0
  have hc0 : Hid (∀ W, Below w.heap.size w W → W.cell? ⟨B, o, none⟩ = w.cell? ⟨B, o, none⟩) := fun W hb => hb.cell (p := ⟨B, o, none⟩) hB
  go_enter Try.func101, Try.ntmps101
  go_wp2_with fail
  refine wp_region_lit (fun W => Below w.heap.size w W) _ _ (by kernel_rfl) rfl (by kernel_rfl) (by kernel_rfl) (below_drew1 (Below.refl _ w)) ?_
  dsimp only [List.dropLast]
  repeat (first
    | go_big_quiet_skip
    | (go_big_quiet_want
       apply Exists.intro
       refine ⟨fun W hW => ?_, ?_⟩
       · have q0 := (hc0.out W hW).trans c0
         unfold Oper.quietAt
         go_simp
         first
           | with_reducible exact rfl
           | with_reducible exact ⟨rfl, rfl⟩
           | (go_at_call 101
              refine (hf W hW).mono ?_
              rintro e W1 ⟨rfl, hb⟩
              exact ⟨rfl, hW.trans (hb.mono hW.size)⟩)
       go_big_quiet_on
       simp only [Act.put, List.setIfInBounds_toArray, List.set_cons_zero, List.set_cons_succ]))
  refine wpQuiet_nil ?_
  intro W hW
  rw [if_pos (by rfl)]
  go_simp
  clear hc0 hf c0 hB
  go_wp2_with fail
  go_ret
  exact ⟨rfl, hW⟩
set_option maxRecDepth 20000 in
set_option maxHeartbeats 4000000 in
theorem mayAll_4_4 (n : Nat) (B o c : Nat) (w : World) (hc : n + 2 ≤ c) (hn : n ≤ 100) (c0 : w.cell? ⟨B, o, none⟩ = some (.int .i64 4))
    (hf : ∀ W, Below w.heap.size w W → Calls Try.prog 101 #[.slice (some ⟨B, o + 1, none⟩) (n + 1) (c - 1)] W fun r W' => r = .returned (.int .i64 4) ∧ Below W.heap.size W W') :
    Calls Try.prog 101 #[.slice (some ⟨B, o, none⟩) (n + 2) c] w fun r W' => r = .returned (.int .i64 4) ∧ Below w.heap.size w W' := by
  have g1 : ((n : Int) + 2 == 1) = false := by rw [beq_eq_false_iff_ne]; omega
  have i0 : (0 : Int) < (n : Int) + 2 := by omega
  have i1 : (1 : Int) ≤ (n : Int) + 2 := by omega
  have i2 : (n : Int) + 2 ≤ (c : Int) := by omega
  have i3 : ¬ c = 1 := by omega
  have hB := World.block_lt_of_cell? w _ c0
  have hc0 : Hid (∀ W, Below w.heap.size w W → W.cell? ⟨B, o, none⟩ = w.cell? ⟨B, o, none⟩) := fun W hb => hb.cell (p := ⟨B, o, none⟩) hB
  go_enter Try.func101, Try.ntmps101
  go_wp2_with fail
  refine wp_region_lit (fun W => Below w.heap.size w W) _ _ (by kernel_rfl) rfl (by kernel_rfl) (by kernel_rfl) (below_drew1 (Below.refl _ w)) ?_
  dsimp only [List.dropLast]
  repeat (first
    | go_big_quiet_skip
    | (go_big_quiet_want
       apply Exists.intro
       refine ⟨fun W hW => ?_, ?_⟩
       · have q0 := (hc0.out W hW).trans c0
         unfold Oper.quietAt
         go_simp
         first
           | with_reducible exact rfl
           | with_reducible exact ⟨rfl, rfl⟩
           | (go_at_call 101
              refine (hf W hW).mono ?_
              rintro e W1 ⟨rfl, hb⟩
              exact ⟨rfl, hW.trans (hb.mono hW.size)⟩)
       go_big_quiet_on
       simp only [Act.put, List.setIfInBounds_toArray, List.set_cons_zero, List.set_cons_succ]))
  refine wpQuiet_nil ?_
  intro W hW
  rw [if_pos (by rfl)]
  go_simp
  clear hc0 hf c0 hB
  go_wp2_with fail
  go_ret
  exact ⟨rfl, hW⟩
set_option maxRecDepth 20000 in
set_option maxHeartbeats 4000000 in
theorem mayAll_4_5 (n : Nat) (B o c : Nat) (w : World) (hc : n + 2 ≤ c) (hn : n ≤ 100) (c0 : w.cell? ⟨B, o, none⟩ = some (.int .i64 4))
    (hf : ∀ W, Below w.heap.size w W → Calls Try.prog 101 #[.slice (some ⟨B, o + 1, none⟩) (n + 1) (c - 1)] W fun r W' => r = .returned (.int .i64 5) ∧ Below W.heap.size W W') :
    Calls Try.prog 101 #[.slice (some ⟨B, o, none⟩) (n + 2) c] w fun r W' => r = .returned (.int .i64 4) ∧ Below w.heap.size w W' := by
  have g1 : ((n : Int) + 2 == 1) = false := by rw [beq_eq_false_iff_ne]; omega
  have i0 : (0 : Int) < (n : Int) + 2 := by omega
  have i1 : (1 : Int) ≤ (n : Int) + 2 := by omega
  have i2 : (n : Int) + 2 ≤ (c : Int) := by omega
  have i3 : ¬ c = 1 := by omega
  have hB := World.block_lt_of_cell? w _ c0
  have hc0 : Hid (∀ W, Below w.heap.size w W → W.cell? ⟨B, o, none⟩ = w.cell? ⟨B, o, none⟩) := fun W hb => hb.cell (p := ⟨B, o, none⟩) hB
  go_enter Try.func101, Try.ntmps101
  go_wp2_with fail
  refine wp_region_lit (fun W => Below w.heap.size w W) _ _ (by kernel_rfl) rfl (by kernel_rfl) (by kernel_rfl) (below_drew1 (Below.refl _ w)) ?_
  dsimp only [List.dropLast]
  repeat (first
    | go_big_quiet_skip
    | (go_big_quiet_want
       apply Exists.intro
       refine ⟨fun W hW => ?_, ?_⟩
       · have q0 := (hc0.out W hW).trans c0
         unfold Oper.quietAt
         go_simp
         first
           | with_reducible exact rfl
           | with_reducible exact ⟨rfl, rfl⟩
           | (go_at_call 101
              refine (hf W hW).mono ?_
              rintro e W1 ⟨rfl, hb⟩
              exact ⟨rfl, hW.trans (hb.mono hW.size)⟩)
       go_big_quiet_on
       simp only [Act.put, List.setIfInBounds_toArray, List.set_cons_zero, List.set_cons_succ]))
  refine wpQuiet_nil ?_
  intro W hW
  rw [if_pos (by rfl)]
  go_simp
  clear hc0 hf c0 hB
  go_wp2_with fail
  go_ret
  exact ⟨rfl, hW⟩
set_option maxRecDepth 20000 in
set_option maxHeartbeats 4000000 in
theorem mayAll_4_6 (n : Nat) (B o c : Nat) (w : World) (hc : n + 2 ≤ c) (hn : n ≤ 100) (c0 : w.cell? ⟨B, o, none⟩ = some (.int .i64 4))
    (hf : ∀ W, Below w.heap.size w W → Calls Try.prog 101 #[.slice (some ⟨B, o + 1, none⟩) (n + 1) (c - 1)] W fun r W' => r = .returned (.int .i64 6) ∧ Below W.heap.size W W') :
    Calls Try.prog 101 #[.slice (some ⟨B, o, none⟩) (n + 2) c] w fun r W' => r = .returned (.int .i64 4) ∧ Below w.heap.size w W' := by
  have g1 : ((n : Int) + 2 == 1) = false := by rw [beq_eq_false_iff_ne]; omega
  have i0 : (0 : Int) < (n : Int) + 2 := by omega
  have i1 : (1 : Int) ≤ (n : Int) + 2 := by omega
  have i2 : (n : Int) + 2 ≤ (c : Int) := by omega
  have i3 : ¬ c = 1 := by omega
  have hB := World.block_lt_of_cell? w _ c0
  have hc0 : Hid (∀ W, Below w.heap.size w W → W.cell? ⟨B, o, none⟩ = w.cell? ⟨B, o, none⟩) := fun W hb => hb.cell (p := ⟨B, o, none⟩) hB
  go_enter Try.func101, Try.ntmps101
  go_wp2_with fail
  refine wp_region_lit (fun W => Below w.heap.size w W) _ _ (by kernel_rfl) rfl (by kernel_rfl) (by kernel_rfl) (below_drew1 (Below.refl _ w)) ?_
  dsimp only [List.dropLast]
  repeat (first
    | go_big_quiet_skip
    | (go_big_quiet_want
       apply Exists.intro
       refine ⟨fun W hW => ?_, ?_⟩
       · have q0 := (hc0.out W hW).trans c0
         unfold Oper.quietAt
         go_simp
         first
           | with_reducible exact rfl
           | with_reducible exact ⟨rfl, rfl⟩
           | (go_at_call 101
              refine (hf W hW).mono ?_
              rintro e W1 ⟨rfl, hb⟩
              exact ⟨rfl, hW.trans (hb.mono hW.size)⟩)
       go_big_quiet_on
       simp only [Act.put, List.setIfInBounds_toArray, List.set_cons_zero, List.set_cons_succ]))
  refine wpQuiet_nil ?_
  intro W hW
  rw [if_pos (by rfl)]
  go_simp
  clear hc0 hf c0 hB
  go_wp2_with fail
  go_ret
  exact ⟨rfl, hW⟩
set_option maxRecDepth 20000 in
set_option maxHeartbeats 4000000 in
theorem mayAll_4_7 (n : Nat) (B o c : Nat) (w : World) (hc : n + 2 ≤ c) (hn : n ≤ 100) (c0 : w.cell? ⟨B, o, none⟩ = some (.int .i64 4))
    (hf : ∀ W, Below w.heap.size w W → Calls Try.prog 101 #[.slice (some ⟨B, o + 1, none⟩) (n + 1) (c - 1)] W fun r W' => r = .returned (.int .i64 7) ∧ Below W.heap.size W W') :
    Calls Try.prog 101 #[.slice (some ⟨B, o, none⟩) (n + 2) c] w fun r W' => r = .returned (.int .i64 4) ∧ Below w.heap.size w W' := by
  have g1 : ((n : Int) + 2 == 1) = false := by rw [beq_eq_false_iff_ne]; omega
  have i0 : (0 : Int) < (n : Int) + 2 := by omega
  have i1 : (1 : Int) ≤ (n : Int) + 2 := by omega
  have i2 : (n : Int) + 2 ≤ (c : Int) := by omega
  have i3 : ¬ c = 1 := by omega
  have hB := World.block_lt_of_cell? w _ c0
  have hc0 : Hid (∀ W, Below w.heap.size w W → W.cell? ⟨B, o, none⟩ = w.cell? ⟨B, o, none⟩) := fun W hb => hb.cell (p := ⟨B, o, none⟩) hB
  go_enter Try.func101, Try.ntmps101
  go_wp2_with fail
  refine wp_region_lit (fun W => Below w.heap.size w W) _ _ (by kernel_rfl) rfl (by kernel_rfl) (by kernel_rfl) (below_drew1 (Below.refl _ w)) ?_
  dsimp only [List.dropLast]
  repeat (first
    | go_big_quiet_skip
    | (go_big_quiet_want
       apply Exists.intro
       refine ⟨fun W hW => ?_, ?_⟩
       · have q0 := (hc0.out W hW).trans c0
         unfold Oper.quietAt
         go_simp
         first
           | with_reducible exact rfl
           | with_reducible exact ⟨rfl, rfl⟩
           | (go_at_call 101
              refine (hf W hW).mono ?_
              rintro e W1 ⟨rfl, hb⟩
              exact ⟨rfl, hW.trans (hb.mono hW.size)⟩)
       go_big_quiet_on
       simp only [Act.put, List.setIfInBounds_toArray, List.set_cons_zero, List.set_cons_succ]))
  refine wpQuiet_nil ?_
  intro W hW
  rw [if_pos (by rfl)]
  go_simp
  clear hc0 hf c0 hB
  go_wp2_with fail
  go_ret
  exact ⟨rfl, hW⟩
set_option maxRecDepth 20000 in
set_option maxHeartbeats 4000000 in
theorem mayAll_5_0 (n : Nat) (B o c : Nat) (w : World) (hc : n + 2 ≤ c) (hn : n ≤ 100) (c0 : w.cell? ⟨B, o, none⟩ = some (.int .i64 5))
    (hf : ∀ W, Below w.heap.size w W → Calls Try.prog 101 #[.slice (some ⟨B, o + 1, none⟩) (n + 1) (c - 1)] W fun r W' => r = .returned (.int .i64 0) ∧ Below W.heap.size W W') :
    Calls Try.prog 101 #[.slice (some ⟨B, o, none⟩) (n + 2) c] w fun r W' => r = .returned (.int .i64 4) ∧ Below w.heap.size w W' := by
  have g1 : ((n : Int) + 2 == 1) = false := by rw [beq_eq_false_iff_ne]; omega
  have i0 : (0 : Int) < (n : Int) + 2 := by omega
  have i1 : (1 : Int) ≤ (n : Int) + 2 := by omega
  have i2 : (n : Int) + 2 ≤ (c : Int) := by omega
  have i3 : ¬ c = 1 := by omega
  have hB := World.block_lt_of_cell? w _ c0
  have hc0 : Hid (∀ W, Below w.heap.size w W → W.cell? ⟨B, o, none⟩ = w.cell? ⟨B, o, none⟩) := fun W hb => hb.cell (p := ⟨B, o, none⟩) hB
  go_enter Try.func101, Try.ntmps101
  go_wp2_with fail
  refine wp_region_lit (fun W => Below w.heap.size w W) _ _ (by kernel_rfl) rfl (by kernel_rfl) (by kernel_rfl) (below_drew1 (Below.refl _ w)) ?_
  dsimp only [List.dropLast]
  repeat (first
    | go_big_quiet_skip
    | (go_big_quiet_want
       apply Exists.intro
       refine ⟨fun W hW => ?_, ?_⟩
       · have q0 := (hc0.out W hW).trans c0
         unfold Oper.quietAt
         go_simp
         first
           | with_reducible exact rfl
           | with_reducible exact ⟨rfl, rfl⟩
           | (go_at_call 101
              refine (hf W hW).mono ?_
              rintro e W1 ⟨rfl, hb⟩
              exact ⟨rfl, hW.trans (hb.mono hW.size)⟩)
       go_big_quiet_on
       simp only [Act.put, List.setIfInBounds_toArray, List.set_cons_zero, List.set_cons_succ]))
  refine wpQuiet_nil ?_
  intro W hW
  rw [if_pos (by rfl)]
  go_simp
  clear hc0 hf c0 hB
  go_wp2_with fail
  go_ret
  exact ⟨rfl, hW⟩
set_option maxRecDepth 20000 in
set_option maxHeartbeats 4000000 in
theorem mayAll_5_1 (n : Nat) (B o c : Nat) (w : World) (hc : n + 2 ≤ c) (hn : n ≤ 100) (c0 : w.cell? ⟨B, o, none⟩ = some (.int .i64 5))
    (hf : ∀ W, Below w.heap.size w W → Calls Try.prog 101 #[.slice (some ⟨B, o + 1, none⟩) (n + 1) (c - 1)] W fun r W' => r = .returned (.int .i64 1) ∧ Below W.heap.size W W') :
    Calls Try.prog 101 #[.slice (some ⟨B, o, none⟩) (n + 2) c] w fun r W' => r = .returned (.int .i64 5) ∧ Below w.heap.size w W' := by
  have g1 : ((n : Int) + 2 == 1) = false := by rw [beq_eq_false_iff_ne]; omega
  have i0 : (0 : Int) < (n : Int) + 2 := by omega
  have i1 : (1 : Int) ≤ (n : Int) + 2 := by omega
  have i2 : (n : Int) + 2 ≤ (c : Int) := by omega
  have i3 : ¬ c = 1 := by omega
  have hB := World.block_lt_of_cell? w _ c0
  have hc0 : Hid (∀ W, Below w.heap.size w W → W.cell? ⟨B, o, none⟩ = w.cell? ⟨B, o, none⟩) := fun W hb => hb.cell (p := ⟨B, o, none⟩) hB
  go_enter Try.func101, Try.ntmps101
  go_wp2_with fail
  refine wp_region_lit (fun W => Below w.heap.size w W) _ _ (by kernel_rfl) rfl (by kernel_rfl) (by kernel_rfl) (below_drew1 (Below.refl _ w)) ?_
  dsimp only [List.dropLast]
  repeat (first
    | go_big_quiet_skip
    | (go_big_quiet_want
       apply Exists.intro
       refine ⟨fun W hW => ?_, ?_⟩
       · have q0 := (hc0.out W hW).trans c0
         unfold Oper.quietAt
         go_simp
         first
           | with_reducible exact rfl
           | with_reducible exact ⟨rfl, rfl⟩
           | (go_at_call 101
              refine (hf W hW).mono ?_
              rintro e W1 ⟨rfl, hb⟩
              exact ⟨rfl, hW.trans (hb.mono hW.size)⟩)
       go_big_quiet_on
       simp only [Act.put, List.setIfInBounds_toArray, List.set_cons_zero, List.set_cons_succ]))
  refine wpQuiet_nil ?_
  intro W hW
  rw [if_pos (by rfl)]
  go_simp
  clear hc0 hf c0 hB
  go_wp2_with fail
  go_ret
  exact ⟨rfl, hW⟩
set_option maxRecDepth 20000 in
set_option maxHeartbeats 4000000 in
theorem mayAll_5_2 (n : Nat) (B o c : Nat) (w : World) (hc : n + 2 ≤ c) (hn : n ≤ 100) (c0 : w.cell? ⟨B, o, none⟩ = some (.int .i64 5))
    (hf : ∀ W, Below w.heap.size w W → Calls Try.prog 101 #[.slice (some ⟨B, o + 1, none⟩) (n + 1) (c - 1)] W fun r W' => r = .returned (.int .i64 2) ∧ Below W.heap.size W W') :
    Calls Try.prog 101 #[.slice (some ⟨B, o, none⟩) (n + 2) c] w fun r W' => r = .returned (.int .i64 6) ∧ Below w.heap.size w W' := by
  have g1 : ((n : Int) + 2 == 1) = false := by rw [beq_eq_false_iff_ne]; omega
  have i0 : (0 : Int) < (n : Int) + 2 := by omega
  have i1 : (1 : Int) ≤ (n : Int) + 2 := by omega
  have i2 : (n : Int) + 2 ≤ (c : Int) := by omega
  have i3 : ¬ c = 1 := by omega
  have hB := World.block_lt_of_cell? w _ c0
  have hc0 : Hid (∀ W, Below w.heap.size w W → W.cell? ⟨B, o, none⟩ = w.cell? ⟨B, o, none⟩) := fun W hb => hb.cell (p := ⟨B, o, none⟩) hB
  go_enter Try.func101, Try.ntmps101
  go_wp2_with fail
  refine wp_region_lit (fun W => Below w.heap.size w W) _ _ (by kernel_rfl) rfl (by kernel_rfl) (by kernel_rfl) (below_drew1 (Below.refl _ w)) ?_
  dsimp only [List.dropLast]
  repeat (first
    | go_big_quiet_skip
    | (go_big_quiet_want
       apply Exists.intro
       refine ⟨fun W hW => ?_, ?_⟩
       · have q0 := (hc0.out W hW).trans c0
         unfold Oper.quietAt
         go_simp
         first
           | with_reducible exact rfl
           | with_reducible exact ⟨rfl, rfl⟩
           | (go_at_call 101
              refine (hf W hW).mono ?_
              rintro e W1 ⟨rfl, hb⟩
              exact ⟨rfl, hW.trans (hb.mono hW.size)⟩)
       go_big_quiet_on
       simp only [Act.put, List.setIfInBounds_toArray, List.set_cons_zero, List.set_cons_succ]))
  refine wpQuiet_nil ?_
  intro W hW
  rw [if_pos (by rfl)]
  go_simp
  clear hc0 hf c0 hB
  go_wp2_with fail
  go_ret
  exact ⟨rfl, hW⟩
set_option maxRecDepth 20000 in
set_option maxHeartbeats 4000000 in
theorem mayAll_5_3 (n : Nat) (B o c : Nat) (w : World) (hc : n + 2 ≤ c) (hn : n ≤ 100) (c0 : w.cell? ⟨B, o, none⟩ = some (.int .i64 5))
    (hf : ∀ W, Below w.heap.size w W → Calls Try.prog 101 #[.slice (some ⟨B, o + 1, none⟩) (n + 1) (c - 1)] W fun r W' => r = .returned (.int .i64 3) ∧ Below W.heap.size W W') :
    Calls Try.prog 101 #[.slice (some ⟨B, o, none⟩) (n + 2) c] w fun r W' => r = .returned (.int .i64 7) ∧ Below w.heap.size w W' := by
  have g1 : ((n : Int) + 2 == 1) = false := by rw [beq_eq_false_iff_ne]; omega
  have i0 : (0 : Int) < (n : Int) + 2 := by omega
  have i1 : (1 : Int) ≤ (n : Int) + 2 := by omega
  have i2 : (n : Int) + 2 ≤ (c : Int) := by omega
  have i3 : ¬ c = 1 := by omega
  have hB := World.block_lt_of_cell? w _ c0
  have hc0 : Hid (∀ W, Below w.heap.size w W → W.cell? ⟨B, o, none⟩ = w.cell? ⟨B, o, none⟩) := fun W hb => hb.cell (p := ⟨B, o, none⟩) hB
  go_enter Try.func101, Try.ntmps101
  go_wp2_with fail
  refine wp_region_lit (fun W => Below w.heap.size w W) _ _ (by kernel_rfl) rfl (by kernel_rfl) (by kernel_rfl) (below_drew1 (Below.refl _ w)) ?_
  dsimp only [List.dropLast]
  repeat (first
    | go_big_quiet_skip
    | (go_big_quiet_want
       apply Exists.intro
       refine ⟨fun W hW => ?_, ?_⟩
       · have q0 := (hc0.out W hW).trans c0
         unfold Oper.quietAt
         go_simp
         first
           | with_reducible exact rfl
           | with_reducible exact ⟨rfl, rfl⟩
           | (go_at_call 101
              refine (hf W hW).mono ?_
              rintro e W1 ⟨rfl, hb⟩
              exact ⟨rfl, hW.trans (hb.mono hW.size)⟩)
       go_big_quiet_on
       simp only [Act.put, List.setIfInBounds_toArray, List.set_cons_zero, List.set_cons_succ]))
  refine wpQuiet_nil ?_
  intro W hW
  rw [if_pos (by rfl)]
  go_simp
  clear hc0 hf c0 hB
  go_wp2_with fail
  go_ret
  exact ⟨rfl, hW⟩
set_option maxRecDepth 20000 in
set_option maxHeartbeats 4000000 in
theorem mayAll_5_4 (n : Nat) (B o c : Nat) (w : World) (hc : n + 2 ≤ c) (hn : n ≤ 100) (c0 : w.cell? ⟨B, o, none⟩ = some (.int .i64 5))
    (hf : ∀ W, Below w.heap.size w W → Calls Try.prog 101 #[.slice (some ⟨B, o + 1, none⟩) (n + 1) (c - 1)] W fun r W' => r = .returned (.int .i64 4) ∧ Below W.heap.size W W') :
    Calls Try.prog 101 #[.slice (some ⟨B, o, none⟩) (n + 2) c] w fun r W' => r = .returned (.int .i64 4) ∧ Below w.heap.size w W' := by
  have g1 : ((n : Int) + 2 == 1) = false := by rw [beq_eq_false_iff_ne]; omega
  have i0 : (0 : Int) < (n : Int) + 2 := by omega
  have i1 : (1 : Int) ≤ (n : Int) + 2 := by omega
  have i2 : (n : Int) + 2 ≤ (c : Int) := by omega
  have i3 : ¬ c = 1 := by omega
  have hB := World.block_lt_of_cell? w _ c0
  have hc0 : Hid (∀ W, Below w.heap.size w W → W.cell? ⟨B, o, none⟩ = w.cell? ⟨B, o, none⟩) := fun W hb => hb.cell (p := ⟨B, o, none⟩) hB
  go_enter Try.func101, Try.ntmps101
  go_wp2_with fail
  refine wp_region_lit (fun W => Below w.heap.size w W) _ _ (by kernel_rfl) rfl (by kernel_rfl) (by kernel_rfl) (below_drew1 (Below.refl _ w)) ?_
  dsimp only [List.dropLast]
  repeat (first
    | go_big_quiet_skip
    | (go_big_quiet_want
       apply Exists.intro
       refine ⟨fun W hW => ?_, ?_⟩
       · have q0 := (hc0.out W hW).trans c0
         unfold Oper.quietAt
         go_simp
         first
           | with_reducible exact rfl
           | with_reducible exact ⟨rfl, rfl⟩
           | (go_at_call 101
              refine (hf W hW).mono ?_
              rintro e W1 ⟨rfl, hb⟩
              exact ⟨rfl, hW.trans (hb.mono hW.size)⟩)
       go_big_quiet_on
       simp only [Act.put, List.setIfInBounds_toArray, List.set_cons_zero, List.set_cons_succ]))
  refine wpQuiet_nil ?_
  intro W hW
  rw [if_pos (by rfl)]
  go_simp
  clear hc0 hf c0 hB
  go_wp2_with fail
  go_ret
  exact ⟨rfl, hW⟩
set_option maxRecDepth 20000 in
set_option maxHeartbeats 4000000 in
theorem mayAll_5_5 (n : Nat) (B o c : Nat) (w : World) (hc : n + 2 ≤ c) (hn : n ≤ 100) (c0 : w.cell? ⟨B, o, none⟩ = some (.int .i64 5))
    (hf : ∀ W, Below w.heap.size w W → Calls Try.prog 101 #[.slice (some ⟨B, o + 1, none⟩) (n + 1) (c - 1)] W fun r W' => r = .returned (.int .i64 5) ∧ Below W.heap.size W W') :
    Calls Try.prog 101 #[.slice (some ⟨B, o, none⟩) (n + 2) c] w fun r W' => r = .returned (.int .i64 5) ∧ Below w.heap.size w W' := by
  have g1 : ((n : Int) + 2 == 1) = false := by rw [beq_eq_false_iff_ne]; omega
  have i0 : (0 : Int) < (n : Int) + 2 := by omega
  have i1 : (1 : Int) ≤ (n : Int) + 2 := by omega
  have i2 : (n : Int) + 2 ≤ (c : Int) := by omega
  have i3 : ¬ c = 1 := by omega
  have hB := World.block_lt_of_cell? w _ c0
  have hc0 : Hid (∀ W, Below w.heap.size w W → W.cell? ⟨B, o, none⟩ = w.cell? ⟨B, o, none⟩) := fun W hb => hb.cell (p := ⟨B, o, none⟩) hB
  go_enter Try.func101, Try.ntmps101
  go_wp2_with fail
  refine wp_region_lit (fun W => Below w.heap.size w W) _ _ (by kernel_rfl) rfl (by kernel_rfl) (by kernel_rfl) (below_drew1 (Below.refl _ w)) ?_
  dsimp only [List.dropLast]
  repeat (first
    | go_big_quiet_skip
    | (go_big_quiet_want
       apply Exists.intro
       refine ⟨fun W hW => ?_, ?_⟩
       · have q0 := (hc0.out W hW).trans c0
         unfold Oper.quietAt
         go_simp
         first
           | with_reducible exact rfl
           | with_reducible exact ⟨rfl, rfl⟩
           | (go_at_call 101
              refine (hf W hW).mono ?_
              rintro e W1 ⟨rfl, hb⟩
              exact ⟨rfl, hW.trans (hb.mono hW.size)⟩)
       go_big_quiet_on
       simp only [Act.put, List.setIfInBounds_toArray, List.set_cons_zero, List.set_cons_succ]))
  refine wpQuiet_nil ?_
  intro W hW
  rw [if_pos (by rfl)]
  go_simp
  clear hc0 hf c0 hB
  go_wp2_with fail
  go_ret
  exact ⟨rfl, hW⟩
set_option maxRecDepth 20000 in
set_option maxHeartbeats 4000000 in
theorem mayAll_5_6 (n : Nat) (B o c : Nat) (w : World) (hc : n + 2 ≤ c) (hn : n ≤ 100) (c0 : w.cell? ⟨B, o, none⟩ = some (.int .i64 5))
    (hf : ∀ W, Below w.heap.size w W → Calls Try.prog 101 #[.slice (some ⟨B, o + 1, none⟩) (n + 1) (c - 1)] W fun r W' => r = .returned (.int .i64 6) ∧ Below W.heap.size W W') :
    Calls Try.prog 101 #[.slice (some ⟨B, o, none⟩) (n + 2) c] w fun r W' => r = .returned (.int .i64 6) ∧ Below w.heap.size w W' := by
  have g1 : ((n : Int) + 2 == 1) = false := by rw [beq_eq_false_iff_ne]; omega
  have i0 : (0 : Int) < (n : Int) + 2 := by omega
  have i1 : (1 : Int) ≤ (n : Int) + 2 := by omega
  have i2 : (n : Int) + 2 ≤ (c : Int) := by omega
  have i3 : ¬ c = 1 := by omega
  have hB := World.block_lt_of_cell? w _ c0
  have hc0 : Hid (∀ W, Below w.heap.size w W → W.cell? ⟨B, o, none⟩ = w.cell? ⟨B, o, none⟩) := fun W hb => hb.cell (p := ⟨B, o, none⟩) hB
  go_enter Try.func101, Try.ntmps101
  go_wp2_with fail
  refine wp_region_lit (fun W => Below w.heap.size w W) _ _ (by kernel_rfl) rfl (by kernel_rfl) (by kernel_rfl) (below_drew1 (Below.refl _ w)) ?_
  dsimp only [List.dropLast]
  repeat (first
    | go_big_quiet_skip
    | (go_big_quiet_want
       apply Exists.intro
       refine ⟨fun W hW => ?_, ?_⟩
       · have q0 := (hc0.out W hW).trans c0
         unfold Oper.quietAt
         go_simp
         first
           | with_reducible exact rfl
           | with_reducible exact ⟨rfl, rfl⟩
           | (go_at_call 101
              refine (hf W hW).mono ?_
              rintro e W1 ⟨rfl, hb⟩
              exact ⟨rfl, hW.trans (hb.mono hW.size)⟩)
       go_big_quiet_on
       simp only [Act.put, List.setIfInBounds_toArray, List.set_cons_zero, List.set_cons_succ]))
  refine wpQuiet_nil ?_
  intro W hW
  rw [if_pos (by rfl)]
  go_simp
  clear hc0 hf c0 hB
  go_wp2_with fail
  go_ret
  exact ⟨rfl, hW⟩
set_option maxRecDepth 20000 in
set_option maxHeartbeats 4000000 in
theorem mayAll_5_7 (n : Nat) (B o c : Nat) (w : World) (hc : n + 2 ≤ c) (hn : n ≤ 100) (c0 : w.cell? ⟨B, o, none⟩ = some (.int .i64 5))
    (hf : ∀ W, Below w.heap.size w W → Calls Try.prog 101 #[.slice (some ⟨B, o + 1, none⟩) (n + 1) (c - 1)] W fun r W' => r = .returned (.int .i64 7) ∧ Below W.heap.size W W') :
    Calls Try.prog 101 #[.slice (some ⟨B, o, none⟩) (n + 2) c] w fun r W' => r = .returned (.int .i64 7) ∧ Below w.heap.size w W' := by
  have g1 : ((n : Int) + 2 == 1) = false := by rw [beq_eq_false_iff_ne]; omega
  have i0 : (0 : Int) < (n : Int) + 2 := by omega
  have i1 : (1 : Int) ≤ (n : Int) + 2 := by omega
  have i2 : (n : Int) + 2 ≤ (c : Int) := by omega
  have i3 : ¬ c = 1 := by omega
  have hB := World.block_lt_of_cell? w _ c0
  have hc0 : Hid (∀ W, Below w.heap.size w W → W.cell? ⟨B, o, none⟩ = w.cell? ⟨B, o, none⟩) := fun W hb => hb.cell (p := ⟨B, o, none⟩) hB
  go_enter Try.func101, Try.ntmps101
  go_wp2_with fail
  refine wp_region_lit (fun W => Below w.heap.size w W) _ _ (by kernel_rfl) rfl (by kernel_rfl) (by kernel_rfl) (below_drew1 (Below.refl _ w)) ?_
  dsimp only [List.dropLast]
  repeat (first
    | go_big_quiet_skip
    | (go_big_quiet_want
       apply Exists.intro
       refine ⟨fun W hW => ?_, ?_⟩
       · have q0 := (hc0.out W hW).trans c0
         unfold Oper.quietAt
         go_simp
         first
           | with_reducible exact rfl
           | with_reducible exact ⟨rfl, rfl⟩
           | (go_at_call 101
              refine (hf W hW).mono ?_
              rintro e W1 ⟨rfl, hb⟩
              exact ⟨rfl, hW.trans (hb.mono hW.size)⟩)
       go_big_quiet_on
       simp only [Act.put, List.setIfInBounds_toArray, List.set_cons_zero, List.set_cons_succ]))
  refine wpQuiet_nil ?_
  intro W hW
  rw [if_pos (by rfl)]
  go_simp
  clear hc0 hf c0 hB
  go_wp2_with fail
  go_ret
  exact ⟨rfl, hW⟩
end Go.Proofs.Ytokdaapmejccbaa
namespace Go.Proofs.Ytokdaapmejccbaa
open Go.RowKit
set_option linter.unusedVariables false
set_option linter.unusedSimpArgs false
set_option maxRecDepth 20000 in
set_option maxHeartbeats 4000000 in
theorem mayAll_6_0 (n : Nat) (B o c : Nat) (w : World) (hc : n + 2 ≤ c) (hn : n ≤ 100) (c0 : w.cell? ⟨B, o, none⟩ = some (.int .i64 6))
    (hf : ∀ W, Below w.heap.size w W → Calls Try.prog 101 #[.slice (some ⟨B, o + 1, none⟩) (n + 1) (c - 1)] W fun r W' => r = .returned (.int .i64 0) ∧ Below W.heap.size W W') :
    Calls Try.prog 101 #[.slice (some ⟨B, o, none⟩) (n + 2) c] w fun r W' => r = .returned (.int .i64 4) ∧ Below w.heap.size w W' := by
  have g1 : ((n : Int) + 2 == 1) = false := by rw [beq_eq_false_iff_ne]; omega
  have i0 : (0 : Int) < (n : Int) + 2 := by omega
  have i1 : (1 : Int) ≤ (n : Int) + 2 := by omega
  have i2 : (n : Int) + 2 ≤ (c : Int) := by omega
  have i3 : ¬ c = 1 := by omega
  have hB := World.block_lt_of_cell? w _ c0
  have hc0 : Hid (∀ W, Below w.heap.size w W → W.cell? ⟨B, o, none⟩ = w.cell? ⟨B, o, none⟩) := fun W hb => hb.cell (p := ⟨B, o, none⟩) hB
  go_enter Try.func101, Try.ntmps101
  go_wp2_with fail
  refine wp_region_lit (fun W => Below w.heap.size w W) _ _ (by kernel_rfl) rfl (by kernel_rfl) (by kernel_rfl) (below_drew1 (Below.refl _ w)) ?_
  dsimp only [List.dropLast]
  repeat (first
    | go_big_quiet_skip
    | (go_big_quiet_want
       apply Exists.intro
       refine ⟨fun W hW => ?_, ?_⟩
       · have q0 := (hc0.out W hW).trans c0
         unfold Oper.quietAt
         go_simp
         first
           | with_reducible exact rfl
           | with_reducible exact ⟨rfl, rfl⟩
           | (go_at_call 101
              refine (hf W hW).mono ?_
              rintro e W1 ⟨rfl, hb⟩
              exact ⟨rfl, hW.trans (hb.mono hW.size)⟩)
       go_big_quiet_on
       simp only [Act.put, List.setIfInBounds_toArray, List.set_cons_zero, List.set_cons_succ]))
  refine wpQuiet_nil ?_
  intro W hW
  rw [if_pos (by rfl)]
  go_simp
  clear hc0 hf c0 hB
  go_wp2_with fail
  go_ret
  exact ⟨rfl, hW⟩
set_option maxRecDepth 20000 in
set_option maxHeartbeats 4000000 in
theorem mayAll_6_1 (n : Nat) (B o c : Nat) (w : World) (hc : n + 2 ≤ c) (hn : n ≤ 100) (c0 : w.cell? ⟨B, o, none⟩ = some (.int .i64 6))
    (hf : ∀ W, Below w.heap.size w W → Calls Try.prog 101 #[.slice (some ⟨B, o + 1, none⟩) (n + 1) (c - 1)] W fun r W' => r = .returned (.int .i64 1) ∧ Below W.heap.size W W') :
    Calls Try.prog 101 #[.slice (some ⟨B, o, none⟩) (n + 2) c] w fun r W' => r = .returned (.int .i64 6) ∧ Below w.heap.size w W' := by
  have g1 : ((n : Int) + 2 == 1) = false := by rw [beq_eq_false_iff_ne]; omega
  have i0 : (0 : Int) < (n : Int) + 2 := by omega
  have i1 : (1 : Int) ≤ (n : Int) + 2 := by omega
  have i2 : (n : Int) + 2 ≤ (c : Int) := by omega
  have i3 : ¬ c = 1 := by omega
  have hB := World.block_lt_of_cell? w _ c0
  have hc0 : Hid (∀ W, Below w.heap.size w W → W.cell? ⟨B, o, none⟩ = w.cell? ⟨B, o, none⟩) := fun W hb => hb.cell (p := ⟨B, o, none⟩) hB
  go_enter Try.func101, Try.ntmps101
  go_wp2_with fail
  refine wp_region_lit (fun W => Below w.heap.size w W) _ _ (by kernel_rfl) rfl (by kernel_rfl) (by kernel_rfl) (below_drew1 (Below.refl _ w)) ?_
  dsimp only [List.dropLast]
  repeat (first
    | go_big_quiet_skip
    | (go_big_quiet_want
       apply Exists.intro
       refine ⟨fun W hW => ?_, ?_⟩
       · have q0 := (hc0.out W hW).trans c0
         unfold Oper.quietAt
         go_simp
         first
           | with_reducible exact rfl
           | with_reducible exact ⟨rfl, rfl⟩
           | (go_at_call 101
              refine (hf W hW).mono ?_
              rintro e W1 ⟨rfl, hb⟩
              exact ⟨rfl, hW.trans (hb.mono hW.size)⟩)
       go_big_quiet_on
       simp only [Act.put, List.setIfInBounds_toArray, List.set_cons_zero, List.set_cons_succ]))
  refine wpQuiet_nil ?_
  intro W hW
  rw [if_pos (by rfl)]
  go_simp
  clear hc0 hf c0 hB
  go_wp2_with fail
  go_ret
  exact ⟨rfl, hW⟩
set_option maxRecDepth 20000 in
set_option maxHeartbeats 4000000 in
theorem mayAll_6_2 (n : Nat) (B o c : Nat) (w : World) (hc : n + 2 ≤ c) (hn : n ≤ 100) (c0 : w.cell? ⟨B, o, none⟩ = some (.int .i64 6))
    (hf : ∀ W, Below w.heap.size w W → Calls Try.prog 101 #[.slice (some ⟨B, o + 1, none⟩) (n + 1) (c - 1)] W fun r W' => r = .returned (.int .i64 2) ∧ Below W.heap.size W W') :
    Calls Try.prog 101 #[.slice (some ⟨B, o, none⟩) (n + 2) c] w fun r W' => r = .returned (.int .i64 6) ∧ Below w.heap.size w W' := by
  have g1 : ((n : Int) + 2 == 1) = false := by rw [beq_eq_false_iff_ne]; omega
  have i0 : (0 : Int) < (n : Int) + 2 := by omega
  have i1 : (1 : Int) ≤ (n : Int) + 2 := by omega
  have i2 : (n : Int) + 2 ≤ (c : Int) := by omega
  have i3 : ¬ c = 1 := by omega
  have hB := World.block_lt_of_cell? w _ c0
  have hc0 : Hid (∀ W, Below w.heap.size w W → W.cell? ⟨B, o, none⟩ = w.cell? ⟨B, o, none⟩) := fun W hb => hb.cell (p := ⟨B, o, none⟩) hB
  go_enter Try.func101, Try.ntmps101
  go_wp2_with fail
  refine wp_region_lit (fun W => Below w.heap.size w W) _ _ (by kernel_rfl) rfl (by kernel_rfl) (by kernel_rfl) (below_drew1 (Below.refl _ w)) ?_
  dsimp only [List.dropLast]
  repeat (first
    | go_big_quiet_skip
    | (go_big_quiet_want
       apply Exists.intro
       refine ⟨fun W hW => ?_, ?_⟩
       · have q0 := (hc0.out W hW).trans c0
         unfold Oper.quietAt
         go_simp
         first
           | with_reducible exact rfl
           | with_reducible exact ⟨rfl, rfl⟩
           | (go_at_call 101
              refine (hf W hW).mono ?_
              rintro e W1 ⟨rfl, hb⟩
              exact ⟨rfl, hW.trans (hb.mono hW.size)⟩)
       go_big_quiet_on
       simp only [Act.put, List.setIfInBounds_toArray, List.set_cons_zero, List.set_cons_succ]))
  refine wpQuiet_nil ?_
  intro W hW
  rw [if_pos (by rfl)]
  go_simp
  clear hc0 hf c0 hB
  go_wp2_with fail
  go_ret
  exact ⟨rfl, hW⟩
set_option maxRecDepth 20000 in
set_option maxHeartbeats 4000000 in
theorem mayAll_6_3 (n : Nat) (B o c : Nat) (w : World) (hc : n + 2 ≤ c) (hn : n ≤ 100) (c0 : w.cell? ⟨B, o, none⟩ = some (.int .i64 6))
    (hf : ∀ W, Below w.heap.size w W → Calls Try.prog 101 #[.slice (some ⟨B, o + 1, none⟩) (n + 1) (c - 1)] W fun r W' => r = .returned (.int .i64 3) ∧ Below W.heap.size W W') :
    Calls Try.prog 101 #[.slice (some ⟨B, o, none⟩) (n + 2) c] w fun r W' => r = .returned (.int .i64 6) ∧ Below w.heap.size w W' := by
  have g1 : ((n : Int) + 2 == 1) = false := by rw [beq_eq_false_iff_ne]; omega
  have i0 : (0 : Int) < (n : Int) + 2 := by omega
  have i1 : (1 : Int) ≤ (n : Int) + 2 := by omega
  have i2 : (n : Int) + 2 ≤ (c : Int) := by omega
  have i3 : ¬ c = 1 := by omega
  have hB := World.block_lt_of_cell? w _ c0
  have hc0 : Hid (∀ W, Below w.heap.size w W → W.cell? ⟨B, o, none⟩ = w.cell? ⟨B, o, none⟩) := fun W hb => hb.cell (p := ⟨B, o, none⟩) hB
  go_enter Try.func101, Try.ntmps101
  go_wp2_with fail
  refine wp_region_lit (fun W => Below w.heap.size w W) _ _ (by kernel_rfl) rfl (by kernel_rfl) (by kernel_rfl) (below_drew1 (Below.refl _ w)) ?_
  dsimp only [List.dropLast]
  repeat (first
    | go_big_quiet_skip
    | (go_big_quiet_want
       apply Exists.intro
       refine ⟨fun W hW => ?_, ?_⟩
       · have q0 := (hc0.out W hW).trans c0
         unfold Oper.quietAt
         go_simp
         first
           | with_reducible exact rfl
           | with_reducible exact ⟨rfl, rfl⟩
           | (go_at_call 101
              refine (hf W hW).mono ?_
              rintro e W1 ⟨rfl, hb⟩
              exact ⟨rfl, hW.trans (hb.mono hW.size)⟩)
       go_big_quiet_on
       simp only [Act.put, List.setIfInBounds_toArray, List.set_cons_zero, List.set_cons_succ]))
  refine wpQuiet_nil ?_
  intro W hW
  rw [if_pos (by rfl)]
  go_simp
  clear hc0 hf c0 hB
  go_wp2_with fail
  go_ret
  exact ⟨rfl, hW⟩
set_option maxRecDepth 20000 in
set_option maxHeartbeats 4000000 in
theorem mayAll_6_4 (n : Nat) (B o c : Nat) (w : World) (hc : n + 2 ≤ c) (hn : n ≤ 100) (c0 : w.cell? ⟨B, o, none⟩ = some (.int .i64 6))
    (hf : ∀ W, Below w.heap.size w W → Calls Try.prog 101 #[.slice (some ⟨B, o + 1, none⟩) (n + 1) (c - 1)] W fun r W' => r = .returned (.int .i64 4) ∧ Below W.heap.size W W') :
    Calls Try.prog 101 #[.slice (some ⟨B, o, none⟩) (n + 2) c] w fun r W' => r = .returned (.int .i64 4) ∧ Below w.heap.size w W' := by
  have g1 : ((n : Int) + 2 == 1) = false := by rw [beq_eq_false_iff_ne]; omega
  have i0 : (0 : Int) < (n : Int) + 2 := by omega
  have i1 : (1 : Int) ≤ (n : Int) + 2 := by omega
  have i2 : (n : Int) + 2 ≤ (c : Int) := by omega
  have i3 : ¬ c = 1 := by omega
  have hB := World.block_lt_of_cell? w _ c0
  have hc0 : Hid (∀ W, Below w.heap.size w W → W.cell? ⟨B, o, none⟩ = w.cell? ⟨B, o, none⟩) := fun W hb => hb.cell (p := ⟨B, o, none⟩) hB
  go_enter Try.func101, Try.ntmps101
  go_wp2_with fail
  refine wp_region_lit (fun W => Below w.heap.size w W) _ _ (by kernel_rfl) rfl (by kernel_rfl) (by kernel_rfl) (below_drew1 (Below.refl _ w)) ?_
  dsimp only [List.dropLast]
  repeat (first
    | go_big_quiet_skip
    | (go_big_quiet_want
       apply Exists.intro
       refine ⟨fun W hW => ?_, ?_⟩
       · have q0 := (hc0.out W hW).trans c0
         unfold Oper.quietAt
         go_simp
         first
           | with_reducible exact rfl
           | with_reducible exact ⟨rfl, rfl⟩
           | (go_at_call 101
              refine (hf W hW).mono ?_
              rintro e W1 ⟨rfl, hb⟩
              exact ⟨rfl, hW.trans (hb.mono hW.size)⟩)
       go_big_quiet_on
       simp only [Act.put, List.setIfInBounds_toArray, List.set_cons_zero, List.set_cons_succ]))
  refine wpQuiet_nil ?_
  intro W hW
  rw [if_pos (by rfl)]
  go_simp
  clear hc0 hf c0 hB
  go_wp2_with fail
  go_ret
  exact ⟨rfl, hW⟩
set_option maxRecDepth 20000 in
set_option maxHeartbeats 4000000 in
theorem mayAll_6_5 (n : Nat) (B o c : Nat) (w : World) (hc : n + 2 ≤ c) (hn : n ≤ 100) (c0 : w.cell? ⟨B, o, none⟩ = some (.int .i64 6))
    (hf : ∀ W, Below w.heap.size w W → Calls Try.prog 101 #[.slice (some ⟨B, o + 1, none⟩) (n + 1) (c - 1)] W fun r W' => r = .returned (.int .i64 5) ∧ Below W.heap.size W W') :
    Calls Try.prog 101 #[.slice (some ⟨B, o, none⟩) (n + 2) c] w fun r W' => r = .returned (.int .i64 6) ∧ Below w.heap.size w W' := by
  have g1 : ((n : Int) + 2 == 1) = false := by rw [beq_eq_false_iff_ne]; omega
  have i0 : (0 : Int) < (n : Int) + 2 := by omega
  have i1 : (1 : Int) ≤ (n : Int) + 2 := by omega
  have i2 : (n : Int) + 2 ≤ (c : Int) := by omega
  have i3 : ¬ c = 1 := by omega
  have hB := World.block_lt_of_cell? w _ c0
  have hc0 : Hid (∀ W, Below w.heap.size w W → W.cell? ⟨B, o, none⟩ = w.cell? ⟨B, o, none⟩) := fun W hb => hb.cell (p := ⟨B, o, none⟩) hB
  go_enter Try.func101, Try.ntmps101
  go_wp2_with fail
  refine wp_region_lit (fun W => Below w.heap.size w W) _ _ (by kernel_rfl) rfl (by kernel_rfl) (by kernel_rfl) (below_drew1 (Below.refl _ w)) ?_
  dsimp only [List.dropLast]
  repeat (first
    | go_big_quiet_skip
    | (go_big_quiet_want
       apply Exists.intro
       refine ⟨fun W hW => ?_, ?_⟩
       · have q0 := (hc0.out W hW).trans c0
         unfold Oper.quietAt
         go_simp
         first
           | with_reducible exact rfl
           | with_reducible exact ⟨rfl, rfl⟩
           | (go_at_call 101
              refine (hf W hW).mono ?_
              rintro e W1 ⟨rfl, hb⟩
              exact ⟨rfl, hW.trans (hb.mono hW.size)⟩)
       go_big_quiet_on
       simp only [Act.put, List.setIfInBounds_toArray, List.set_cons_zero, List.set_cons_succ]))
  refine wpQuiet_nil ?_
  intro W hW
  rw [if_pos (by rfl)]
  go_simp
  clear hc0 hf c0 hB
  go_wp2_with fail
  go_ret
  exact ⟨rfl, hW⟩
set_option maxRecDepth 20000 in
set_option maxHeartbeats 4000000 in
theorem mayAll_6_6 (n : Nat) (B o c : Nat) (w : World) (hc : n + 2 ≤ c) (hn : n ≤ 100) (c0 : w.cell? ⟨B, o, none⟩ = some (.int .i64 6))
    (hf : ∀ W, Below w.heap.size w W → Calls Try.prog 101 #[.slice (some ⟨B, o + 1, none⟩) (n + 1) (c - 1)] W fun r W' => r = .returned (.int .i64 6) ∧ Below W.heap.size W W') :
    Calls Try.prog 101 #[.slice (some ⟨B, o, none⟩) (n + 2) c] w fun r W' => r = .returned (.int .i64 6) ∧ Below w.heap.size w W' := by
  have g1 : ((n : Int) + 2 == 1) = false := by rw [beq_eq_false_iff_ne]; omega
  have i0 : (0 : Int) < (n : Int) + 2 := by omega
  have i1 : (1 : Int) ≤ (n : Int) + 2 := by omega
  have i2 : (n : Int) + 2 ≤ (c : Int) := by omega
  have i3 : ¬ c = 1 := by omega
  have hB := World.block_lt_of_cell? w _ c0
  have hc0 : Hid (∀ W, Below w.heap.size w W → W.cell? ⟨B, o, none⟩ = w.cell? ⟨B, o, none⟩) := fun W hb => hb.cell (p := ⟨B, o, none⟩) hB
  go_enter Try.func101, Try.ntmps101
  go_wp2_with fail
  refine wp_region_lit (fun W => Below w.heap.size w W) _ _ (by kernel_rfl) rfl (by kernel_rfl) (by kernel_rfl) (below_drew1 (Below.refl _ w)) ?_
  dsimp only [List.dropLast]
  repeat (first
    | go_big_quiet_skip
    | (go_big_quiet_want
       apply Exists.intro
       refine ⟨fun W hW => ?_, ?_⟩
       · have q0 := (hc0.out W hW).trans c0
         unfold Oper.quietAt
         go_simp
         first
           | with_reducible exact rfl
           | with_reducible exact ⟨rfl, rfl⟩
           | (go_at_call 101
              refine (hf W hW).mono ?_
              rintro e W1 ⟨rfl, hb⟩
              exact ⟨rfl, hW.trans (hb.mono hW.size)⟩)
       go_big_quiet_on
       simp only [Act.put, List.setIfInBounds_toArray, List.set_cons_zero, List.set_cons_succ]))
  refine wpQuiet_nil ?_
  intro W hW
  rw [if_pos (by rfl)]
  go_simp
  clear hc0 hf c0 hB
  go_wp2_with fail
  go_ret
  exact ⟨rfl, hW⟩
set_option maxRecDepth 20000 in
set_option maxHeartbeats 4000000 in
theorem mayAll_6_7 (n : Nat) (B o c : Nat) (w : World) (hc : n + 2 ≤ c) (hn : n ≤ 100) (c0 : w.cell? ⟨B, o, none⟩ = some (.int .i64 6))
    (hf : ∀ W, Below w.heap.size w W → Calls Try.prog 101 #[.slice (some ⟨B, o + 1, none⟩) (n + 1) (c - 1)] W fun r W' => r = .returned (.int .i64 7) ∧ Below W.heap.size W W') :
    Calls Try.prog 101 #[.slice (some ⟨B, o, none⟩) (n + 2) c] w fun r W' => r = .returned (.int .i64 6) ∧ Below w.heap.size w W' := by
  have g1 : ((n : Int) + 2 == 1) = false := by rw [beq_eq_false_iff_ne]; omega
  have i0 : (0 : Int) < (n : Int) + 2 := by omega
  have i1 : (1 : Int) ≤ (n : Int) + 2 := by omega
  have i2 : (n : Int) + 2 ≤ (c : Int) := by omega
  have i3 : ¬ c = 1 := by omega
  have hB := World.block_lt_of_cell? w _ c0
  have hc0 : Hid (∀ W, Below w.heap.size w W → W.cell? ⟨B, o, none⟩ = w.cell? ⟨B, o, none⟩) := fun W hb => hb.cell (p := ⟨B, o, none⟩) hB
  go_enter Try.func101, Try.ntmps101
  go_wp2_with fail
  refine wp_region_lit (fun W => Below w.heap.size w W) _ _ (by kernel_rfl) rfl (by kernel_rfl) (by kernel_rfl) (below_drew1 (Below.refl _ w)) ?_
  dsimp only [List.dropLast]
  repeat (first
    | go_big_quiet_skip
    | (go_big_quiet_want
       apply Exists.intro
       refine ⟨fun W hW => ?_, ?_⟩
       · have q0 := (hc0.out W hW).trans c0
         unfold Oper.quietAt
         go_simp
         first
           | with_reducible exact rfl
           | with_reducible exact ⟨rfl, rfl⟩
           | (go_at_call 101
              refine (hf W hW).mono ?_
              rintro e W1 ⟨rfl, hb⟩
              exact ⟨rfl, hW.trans (hb.mono hW.size)⟩)
       go_big_quiet_on
       simp only [Act.put, List.setIfInBounds_toArray, List.set_cons_zero, List.set_cons_succ]))
  refine wpQuiet_nil ?_
  intro W hW
  rw [if_pos (by rfl)]
  go_simp
  clear hc0 hf c0 hB
  go_wp2_with fail
  go_ret
  exact ⟨rfl, hW⟩
set_option maxRecDepth 20000 in
set_option maxHeartbeats 4000000 in
theorem mayAll_7_0 (n : Nat) (B o c : Nat) (w : World) (hc : n + 2 ≤ c) (hn : n ≤ 100) (c0 : w.cell? ⟨B, o, none⟩ = some (.int .i64 7))
    (hf : ∀ W, Below w.heap.size w W → Calls Try.prog 101 #[.slice (some ⟨B, o + 1, none⟩) (n + 1) (c - 1)] W fun r W' => r = .returned (.int .i64 0) ∧ Below W.heap.size W W') :
    Calls Try.prog 101 #[.slice (some ⟨B, o, none⟩) (n + 2) c] w fun r W' => r = .returned (.int .i64 4) ∧ Below w.heap.size w W' := by
  have g1 : ((n : Int) + 2 == 1) = false := by rw [beq_eq_false_iff_ne]; omega
  have i0 : (0 : Int) < (n : Int) + 2 := by omega
  have i1 : (1 : Int) ≤ (n : Int) + 2 := by omega
  have i2 : (n : Int) + 2 ≤ (c : Int) := by omega
  have i3 : ¬ c = 1 := by omega
  have hB := World.block_lt_of_cell? w _ c0
  have hc0 : Hid (∀ W, Below w.heap.size w W → W.cell? ⟨B, o, none⟩ = w.cell? ⟨B, o, none⟩) := fun W hb => hb.cell (p := ⟨B, o, none⟩) hB
  go_enter Try.func101, Try.ntmps101
  go_wp2_with fail
  refine wp_region_lit (fun W => Below w.heap.size w W) _ _ (by kernel_rfl) rfl (by kernel_rfl) (by kernel_rfl) (below_drew1 (Below.refl _ w)) ?_
  dsimp only [List.dropLast]
  repeat (first
    | go_big_quiet_skip
    | (go_big_quiet_want
       apply Exists.intro
       refine ⟨fun W hW => ?_, ?_⟩
       · have q0 := (hc0.out W hW).trans c0
         unfold Oper.quietAt
         go_simp
         first
           | with_reducible exact rfl
           | with_reducible exact ⟨rfl, rfl⟩
           | (go_at_call 101
              refine (hf W hW).mono ?_
              rintro e W1 ⟨rfl, hb⟩
              exact ⟨rfl, hW.trans (hb.mono hW.size)⟩)
       go_big_quiet_on
       simp only [Act.put, List.setIfInBounds_toArray, List.set_cons_zero, List.set_cons_succ]))
  refine wpQuiet_nil ?_
  intro W hW
  rw [if_pos (by rfl)]
  go_simp
  clear hc0 hf c0 hB
  go_wp2_with fail
  go_ret
  exact ⟨rfl, hW⟩
set_option maxRecDepth 20000 in
set_option maxHeartbeats 4000000 in
theorem mayAll_7_1 (n : Nat) (B o c : Nat) (w : World) (hc : n + 2 ≤ c) (hn : n ≤ 100) (c0 : w.cell? ⟨B, o, none⟩ = some (.int .i64 7))
    (hf : ∀ W, Below w.heap.size w W → Calls Try.prog 101 #[.slice (some ⟨B, o + 1, none⟩) (n + 1) (c - 1)] W fun r W' => r = .returned (.int .i64 1) ∧ Below W.heap.size W W') :
    Calls Try.prog 101 #[.slice (some ⟨B, o, none⟩) (n + 2) c] w fun r W' => r = .returned (.int .i64 7) ∧ Below w.heap.size w W' := by
  have g1 : ((n : Int) + 2 == 1) = false := by rw [beq_eq_false_iff_ne]; omega
  have i0 : (0 : Int) < (n : Int) + 2 := by omega
  have i1 : (1 : Int) ≤ (n : Int) + 2 := by omega
  have i2 : (n : Int) + 2 ≤ (c : Int) := by omega
  have i3 : ¬ c = 1 := by omega
  have hB := World.block_lt_of_cell? w _ c0
  have hc0 : Hid (∀ W, Below w.heap.size w W → W.cell? ⟨B, o, none⟩ = w.cell? ⟨B, o, none⟩) := fun W hb => hb.cell (p := ⟨B, o, none⟩) hB
  go_enter Try.func101, Try.ntmps101
  go_wp2_with fail
  refine wp_region_lit (fun W => Below w.heap.size w W) _ _ (by kernel_rfl) rfl (by kernel_rfl) (by kernel_rfl) (below_drew1 (Below.refl _ w)) ?_
  dsimp only [List.dropLast]
  repeat (first
    | go_big_quiet_skip
    | (go_big_quiet_want
       apply Exists.intro
       refine ⟨fun W hW => ?_, ?_⟩
       · have q0 := (hc0.out W hW).trans c0
         unfold Oper.quietAt
         go_simp
         first
           | with_reducible exact rfl
           | with_reducible exact ⟨rfl, rfl⟩
           | (go_at_call 101
              refine (hf W hW).mono ?_
              rintro e W1 ⟨rfl, hb⟩
              exact ⟨rfl, hW.trans (hb.mono hW.size)⟩)
       go_big_quiet_on
       simp only [Act.put, List.setIfInBounds_toArray, List.set_cons_zero, List.set_cons_succ]))
  refine wpQuiet_nil ?_
  intro W hW
  rw [if_pos (by rfl)]
  go_simp
  clear hc0 hf c0 hB
  go_wp2_with fail
  go_ret
  exact ⟨rfl, hW⟩
set_option maxRecDepth 20000 in
set_option maxHeartbeats 4000000 in
theorem mayAll_7_2 (n : Nat) (B o c : Nat) (w : World) (hc : n + 2 ≤ c) (hn : n ≤ 100) (c0 : w.cell? ⟨B, o, none⟩ = some (.int .i64 7))
    (hf : ∀ W, Below w.heap.size w W → Calls Try.prog 101 #[.slice (some ⟨B, o + 1, none⟩) (n + 1) (c - 1)] W fun r W' => r = .returned (.int .i64 2) ∧ Below W.heap.size W W') :
    Calls Try.prog 101 #[.slice (some ⟨B, o, none⟩) (n + 2) c] w fun r W' => r = .returned (.int .i64 6) ∧ Below w.heap.size w W' := by
  have g1 : ((n : Int) + 2 == 1) = false := by rw [beq_eq_false_iff_ne]; omega
  have i0 : (0 : Int) < (n : Int) + 2 := by omega
  have i1 : (1 : Int) ≤ (n : Int) + 2 := by omega
  have i2 : (n : Int) + 2 ≤ (c : Int) := by omega
  have i3 : ¬ c = 1 := by omega
  have hB := World.block_lt_of_cell? w _ c0
  have hc0 : Hid (∀ W, Below w.heap.size w W → W.cell? ⟨B, o, none⟩ = w.cell? ⟨B, o, none⟩) := fun W hb => hb.cell (p := ⟨B, o, none⟩) hB
  go_enter Try.func101, Try.ntmps101
  go_wp2_with fail
  refine wp_region_lit (fun W => Below w.heap.size w W) _ _ (by kernel_rfl) rfl (by kernel_rfl) (by kernel_rfl) (below_drew1 (Below.refl _ w)) ?_
  dsimp only [List.dropLast]
  repeat (first
    | go_big_quiet_skip
    | (go_big_quiet_want
       apply Exists.intro
       refine ⟨fun W hW => ?_, ?_⟩
       · have q0 := (hc0.out W hW).trans c0
         unfold Oper.quietAt
         go_simp
         first
           | with_reducible exact rfl
           | with_reducible exact ⟨rfl, rfl⟩
           | (go_at_call 101
              refine (hf W hW).mono ?_
              rintro e W1 ⟨rfl, hb⟩
              exact ⟨rfl, hW.trans (hb.mono hW.size)⟩)
       go_big_quiet_on
       simp only [Act.put, List.setIfInBounds_toArray, List.set_cons_zero, List.set_cons_succ]))
  refine wpQuiet_nil ?_
  intro W hW
  rw [if_pos (by rfl)]
  go_simp
  clear hc0 hf c0 hB
  go_wp2_with fail
  go_ret
  exact ⟨rfl, hW⟩
set_option maxRecDepth 20000 in
set_option maxHeartbeats 4000000 in
theorem mayAll_7_3 (n : Nat) (B o c : Nat) (w : World) (hc : n + 2 ≤ c) (hn : n ≤ 100) (c0 : w.cell? ⟨B, o, none⟩ = some (.int .i64 7))
    (hf : ∀ W, Below w.heap.size w W → Calls Try.prog 101 #[.slice (some ⟨B, o + 1, none⟩) (n + 1) (c - 1)] W fun r W' => r = .returned (.int .i64 3) ∧ Below W.heap.size W W') :
    Calls Try.prog 101 #[.slice (some ⟨B, o, none⟩) (n + 2) c] w fun r W' => r = .returned (.int .i64 7) ∧ Below w.heap.size w W' := by
  have g1 : ((n : Int) + 2 == 1) = false := by rw [beq_eq_false_iff_ne]; omega
  have i0 : (0 : Int) < (n : Int) + 2 := by omega
  have i1 : (1 : Int) ≤ (n : Int) + 2 := by omega
  have i2 : (n : Int) + 2 ≤ (c : Int) := by omega
  have i3 : ¬ c = 1 := by omega
  have hB := World.block_lt_of_cell? w _ c0
  have hc0 : Hid (∀ W, Below w.heap.size w W → W.cell? ⟨B, o, none⟩ = w.cell? ⟨B, o, none⟩) := fun W hb => hb.cell (p := ⟨B, o, none⟩) hB
  go_enter Try.func101, Try.ntmps101
  go_wp2_with fail
  refine wp_region_lit (fun W => Below w.heap.size w W) _ _ (by kernel_rfl) rfl (by kernel_rfl) (by kernel_rfl) (below_drew1 (Below.refl _ w)) ?_
  dsimp only [List.dropLast]
  repeat (first
    | go_big_quiet_skip
    | (go_big_quiet_want
       apply Exists.intro
       refine ⟨fun W hW => ?_, ?_⟩
       · have q0 := (hc0.out W hW).trans c0
         unfold Oper.quietAt
         go_simp
         first
           | with_reducible exact rfl
           | with_reducible exact ⟨rfl, rfl⟩
           | (go_at_call 101
              refine (hf W hW).mono ?_
              rintro e W1 ⟨rfl, hb⟩
              exact ⟨rfl, hW.trans (hb.mono hW.size)⟩)
       go_big_quiet_on
       simp only [Act.put, List.setIfInBounds_toArray, List.set_cons_zero, List.set_cons_succ]))
  refine wpQuiet_nil ?_
  intro W hW
  rw [if_pos (by rfl)]
  go_simp
  clear hc0 hf c0 hB
  go_wp2_with fail
  go_ret
  exact ⟨rfl, hW⟩
set_option maxRecDepth 20000 in
set_option maxHeartbeats 4000000 in
theorem mayAll_7_4 (n : Nat) (B o c : Nat) (w : World) (hc : n + 2 ≤ c) (hn : n ≤ 100) (c0 : w.cell? ⟨B, o, none⟩ = some (.int .i64 7))
    (hf : ∀ W, Below w.heap.size w W → Calls Try.prog 101 #[.slice (some ⟨B, o + 1, none⟩) (n + 1) (c - 1)] W fun r W' => r = .returned (.int .i64 4) ∧ Below W.heap.size W W') :
    Calls Try.prog 101 #[.slice (some ⟨B, o, none⟩) (n + 2) c] w fun r W' => r = .returned (.int .i64 4) ∧ Below w.heap.size w W' := by
  have g1 : ((n : Int) + 2 == 1) = false := by rw [beq_eq_false_iff_ne]; omega
  have i0 : (0 : Int) < (n : Int) + 2 := by omega
  have i1 : (1 : Int) ≤ (n : Int) + 2 := by omega
  have i2 : (n : Int) + 2 ≤ (c : Int) := by omega
  have i3 : ¬ c = 1 := by omega
  have hB := World.block_lt_of_cell? w _ c0
  have hc0 : Hid (∀ W, Below w.heap.size w W → W.cell? ⟨B, o, none⟩ = w.cell? ⟨B, o, none⟩) := fun W hb => hb.cell (p := ⟨B, o, none⟩) hB
  go_enter Try.func101, Try.ntmps101
  go_wp2_with fail
  refine wp_region_lit (fun W => Below w.heap.size w W) _ _ (by kernel_rfl) rfl (by kernel_rfl) (by kernel_rfl) (below_drew1 (Below.refl _ w)) ?_
  dsimp only [List.dropLast]
  repeat (first
    | go_big_quiet_skip
    | (go_big_quiet_want
       apply Exists.intro
       refine ⟨fun W hW => ?_, ?_⟩
       · have q0 := (hc0.out W hW).trans c0
         unfold Oper.quietAt
         go_simp
         first
           | with_reducible exact rfl
           | with_reducible exact ⟨rfl, rfl⟩
           | (go_at_call 101
              refine (hf W hW).mono ?_
              rintro e W1 ⟨rfl, hb⟩
              exact ⟨rfl, hW.trans (hb.mono hW.size)⟩)
       go_big_quiet_on
       simp only [Act.put, List.setIfInBounds_toArray, List.set_cons_zero, List.set_cons_succ]))
  refine wpQuiet_nil ?_
  intro W hW
  rw [if_pos (by rfl)]
  go_simp
  clear hc0 hf c0 hB
  go_wp2_with fail
  go_ret
  exact ⟨rfl, hW⟩
set_option maxRecDepth 20000 in
set_option maxHeartbeats 4000000 in
theorem mayAll_7_5 (n : Nat) (B o c : Nat) (w : World) (hc : n + 2 ≤ c) (hn : n ≤ 100) (c0 : w.cell? ⟨B, o, none⟩ = some (.int .i64 7))
    (hf : ∀ W, Below w.heap.size w W → Calls Try.prog 101 #[.slice (some ⟨B, o + 1, none⟩) (n + 1) (c - 1)] W fun r W' => r = .returned (.int .i64 5) ∧ Below W.heap.size W W') :
    Calls Try.prog 101 #[.slice (some ⟨B, o, none⟩) (n + 2) c] w fun r W' => r = .returned (.int .i64 7) ∧ Below w.heap.size w W' := by
  have g1 : ((n : Int) + 2 == 1) = false := by rw [beq_eq_false_iff_ne]; omega
  have i0 : (0 : Int) < (n : Int) + 2 := by omega
  have i1 : (1 : Int) ≤ (n : Int) + 2 := by omega
  have i2 : (n : Int) + 2 ≤ (c : Int) := by omega
  have i3 : ¬ c = 1 := by omega
  have hB := World.block_lt_of_cell? w _ c0
  have hc0 : Hid (∀ W, Below w.heap.size w W → W.cell? ⟨B, o, none⟩ = w.cell? ⟨B, o, none⟩) := fun W hb => hb.cell (p := ⟨B, o, none⟩) hB
  go_enter Try.func101, Try.ntmps101
  go_wp2_with fail
  refine wp_region_lit (fun W => Below w.heap.size w W) _ _ (by kernel_rfl) rfl (by kernel_rfl) (by kernel_rfl) (below_drew1 (Below.refl _ w)) ?_
  dsimp only [List.dropLast]
  repeat (first
    | go_big_quiet_skip
    | (go_big_quiet_want
       apply Exists.intro
       refine ⟨fun W hW => ?_, ?_⟩
       · have q0 := (hc0.out W hW).trans c0
         unfold Oper.quietAt
         go_simp
         first
           | with_reducible exact rfl
           | with_reducible exact ⟨rfl, rfl⟩
           | (go_at_call 101
              refine (hf W hW).mono ?_
              rintro e W1 ⟨rfl, hb⟩
              exact ⟨rfl, hW.trans (hb.mono hW.size)⟩)
       go_big_quiet_on
       simp only [Act.put, List.setIfInBounds_toArray, List.set_cons_zero, List.set_cons_succ]))
  refine wpQuiet_nil ?_
  intro W hW
  rw [if_pos (by rfl)]
  go_simp
  clear hc0 hf c0 hB
  go_wp2_with fail
  go_ret
  exact ⟨rfl, hW⟩
set_option maxRecDepth 20000 in
set_option maxHeartbeats 4000000 in
theorem mayAll_7_6 (n : Nat) (B o c : Nat) (w : World) (hc : n + 2 ≤ c) (hn : n ≤ 100) (c0 : w.cell? ⟨B, o, none⟩ = some (.int .i64 7))
    (hf : ∀ W, Below w.heap.size w W → Calls Try.prog 101 #[.slice (some ⟨B, o + 1, none⟩) (n + 1) (c - 1)] W fun r W' => r = .returned (.int .i64 6) ∧ Below W.heap.size W W') :
    Calls Try.prog 101 #[.slice (some ⟨B, o, none⟩) (n + 2) c] w fun r W' => r = .returned (.int .i64 6) ∧ Below w.heap.size w W' := by
  have g1 : ((n : Int) + 2 == 1) = false := by rw [beq_eq_false_iff_ne]; omega
  have i0 : (0 : Int) < (n : Int) + 2 := by omega
  have i1 : (1 : Int) ≤ (n : Int) + 2 := by omega
  have i2 : (n : Int) + 2 ≤ (c : Int) := by omega
  have i3 : ¬ c = 1 := by omega
  have hB := World.block_lt_of_cell? w _ c0
  have hc0 : Hid (∀ W, Below w.heap.size w W → W.cell? ⟨B, o, none⟩ = w.cell? ⟨B, o, none⟩) := fun W hb => hb.cell (p := ⟨B, o, none⟩) hB
  go_enter Try.func101, Try.ntmps101
  go_wp2_with fail
  refine wp_region_lit (fun W => Below w.heap.size w W) _ _ (by kernel_rfl) rfl (by kernel_rfl) (by kernel_rfl) (below_drew1 (Below.refl _ w)) ?_
  dsimp only [List.dropLast]
  repeat (first
    | go_big_quiet_skip
    | (go_big_quiet_want
       apply Exists.intro
       refine ⟨fun W hW => ?_, ?_⟩
       · have q0 := (hc0.out W hW).trans c0
         unfold Oper.quietAt
         go_simp
         first
           | with_reducible exact rfl
           | with_reducible exact ⟨rfl, rfl⟩
           | (go_at_call 101
              refine (hf W hW).mono ?_
              rintro e W1 ⟨rfl, hb⟩
              exact ⟨rfl, hW.trans (hb.mono hW.size)⟩)
       go_big_quiet_on
       simp only [Act.put, List.setIfInBounds_toArray, List.set_cons_zero, List.set_cons_succ]))
  refine wpQuiet_nil ?_
  intro W hW
  rw [if_pos (by rfl)]
  go_simp
  clear hc0 hf c0 hB
  go_wp2_with fail
  go_ret
  exact ⟨rfl, hW⟩
set_option maxRecDepth 20000 in
set_option maxHeartbeats 4000000 in
theorem mayAll_7_7 (n : Nat) (B o c : Nat) (w : World) (hc : n + 2 ≤ c) (hn : n ≤ 100) (c0 : w.cell? ⟨B, o, none⟩ = some (.int .i64 7))
    (hf : ∀ W, Below w.heap.size w W → Calls Try.prog 101 #[.slice (some ⟨B, o + 1, none⟩) (n + 1) (c - 1)] W fun r W' => r = .returned (.int .i64 7) ∧ Below W.heap.size W W') :
    Calls Try.prog 101 #[.slice (some ⟨B, o, none⟩) (n + 2) c] w fun r W' => r = .returned (.int .i64 7) ∧ Below w.heap.size w W' := by
  have g1 : ((n : Int) + 2 == 1) = false := by rw [beq_eq_false_iff_ne]; omega
  have i0 : (0 : Int) < (n : Int) + 2 := by omega
  have i1 : (1 : Int) ≤ (n : Int) + 2 := by omega
  have i2 : (n : Int) + 2 ≤ (c : Int) := by omega
  have i3 : ¬ c = 1 := by omega
  have hB := World.block_lt_of_cell? w _ c0
  have hc0 : Hid (∀ W, Below w.heap.size w W → W.cell? ⟨B, o, none⟩ = w.cell? ⟨B, o, none⟩) := fun W hb => hb.cell (p := ⟨B, o, none⟩) hB
  go_enter Try.func101, Try.ntmps101
  go_wp2_with fail
  refine wp_region_lit (fun W => Below w.heap.size w W) _ _ (by kernel_rfl) rfl (by kernel_rfl) (by kernel_rfl) (below_drew1 (Below.refl _ w)) ?_
  dsimp only [List.dropLast]
  repeat (first
    | go_big_quiet_skip
    | (go_big_quiet_want
       apply Exists.intro
       refine ⟨fun W hW => ?_, ?_⟩
       · have q0 := (hc0.out W hW).trans c0
         unfold Oper.quietAt
         go_simp
         first
           | with_reducible exact rfl
           | with_reducible exact ⟨rfl, rfl⟩
           | (go_at_call 101
              refine (hf W hW).mono ?_
              rintro e W1 ⟨rfl, hb⟩
              exact ⟨rfl, hW.trans (hb.mono hW.size)⟩)
       go_big_quiet_on
       simp only [Act.put, List.setIfInBounds_toArray, List.set_cons_zero, List.set_cons_succ]))
  refine wpQuiet_nil ?_
  intro W hW
  rw [if_pos (by rfl)]
  go_simp
  clear hc0 hf c0 hB
  go_wp2_with fail
  go_ret
  exact ⟨rfl, hW⟩
end Go.Proofs.Ytokdaapmejccbaa
namespace Go.Proofs.Ytokdaapmejccbaa
open Go.RowKit
set_option linter.unusedVariables false
set_option linter.unusedSimpArgs false
theorem mayAll2 (a b : Fa) (n : Nat) (B o c : Nat) (w : World) (hc : n + 2 ≤ c) (hn : n ≤ 100) (c0 : w.cell? ⟨B, o, none⟩ = some (.int .i64 (encF a)))
    (hf : ∀ W, Below w.heap.size w W → Calls Try.prog 101 #[.slice (some ⟨B, o + 1, none⟩) (n + 1) (c - 1)] W fun r W' => r = .returned (.int .i64 (encF b)) ∧ Below W.heap.size W W') :
    Calls Try.prog 101 #[.slice (some ⟨B, o, none⟩) (n + 2) c] w fun r W' => r = .returned (.int .i64 (encF (thenF a b))) ∧ Below w.heap.size w W' :=
  match a, b, c0, hf with
  | (false, false, false), (false, false, false), c0, hf => mayAll_0_0 n B o c w hc hn c0 hf
  | (false, false, false), (true, false, false), c0, hf => mayAll_0_1 n B o c w hc hn c0 hf
  | (false, false, false), (false, true, false), c0, hf => mayAll_0_2 n B o c w hc hn c0 hf
  | (false, false, false), (true, true, false), c0, hf => mayAll_0_3 n B o c w hc hn c0 hf
  | (false, false, false), (false, false, true), c0, hf => mayAll_0_4 n B o c w hc hn c0 hf
  | (false, false, false), (true, false, true), c0, hf => mayAll_0_5 n B o c w hc hn c0 hf
  | (false, false, false), (false, true, true), c0, hf => mayAll_0_6 n B o c w hc hn c0 hf
  | (false, false, false), (true, true, true), c0, hf => mayAll_0_7 n B o c w hc hn c0 hf
  | (true, false, false), (false, false, false), c0, hf => mayAll_1_0 n B o c w hc hn c0 hf
  | (true, false, false), (true, false, false), c0, hf => mayAll_1_1 n B o c w hc hn c0 hf
  | (true, false, false), (false, true, false), c0, hf => mayAll_1_2 n B o c w hc hn c0 hf
  | (true, false, false), (true, true, false), c0, hf => mayAll_1_3 n B o c w hc hn c0 hf
  | (true, false, false), (false, false, true), c0, hf => mayAll_1_4 n B o c w hc hn c0 hf
  | (true, false, false), (true, false, true), c0, hf => mayAll_1_5 n B o c w hc hn c0 hf
  | (true, false, false), (false, true, true), c0, hf => mayAll_1_6 n B o c w hc hn c0 hf
  | (true, false, false), (true, true, true), c0, hf => mayAll_1_7 n B o c w hc hn c0 hf
  | (false, true, false), (false, false, false), c0, hf => mayAll_2_0 n B o c w hc hn c0 hf
  | (false, true, false), (true, false, false), c0, hf => mayAll_2_1 n B o c w hc hn c0 hf
  | (false, true, false), (false, true, false), c0, hf => mayAll_2_2 n B o c w hc hn c0 hf
  | (false, true, false), (true, true, false), c0, hf => mayAll_2_3 n B o c w hc hn c0 hf
  | (false, true, false), (false, false, true), c0, hf => mayAll_2_4 n B o c w hc hn c0 hf
  | (false, true, false), (true, false, true), c0, hf => mayAll_2_5 n B o c w hc hn c0 hf
  | (false, true, false), (false, true, true), c0, hf => mayAll_2_6 n B o c w hc hn c0 hf
  | (false, true, false), (true, true, true), c0, hf => mayAll_2_7 n B o c w hc hn c0 hf
  | (true, true, false), (false, false, false), c0, hf => mayAll_3_0 n B o c w hc hn c0 hf
  | (true, true, false), (true, false, false), c0, hf => mayAll_3_1 n B o c w hc hn c0 hf
  | (true, true, false), (false, true, false), c0, hf => mayAll_3_2 n B o c w hc hn c0 hf
  | (true, true, false), (true, true, false), c0, hf => mayAll_3_3 n B o c w hc hn c0 hf
  | (true, true, false), (false, false, true), c0, hf => mayAll_3_4 n B o c w hc hn c0 hf
  | (true, true, false), (true, false, true), c0, hf => mayAll_3_5 n B o c w hc hn c0 hf
  | (true, true, false), (false, true, true), c0, hf => mayAll_3_6 n B o c w hc hn c0 hf
  | (true, true, false), (true, true, true), c0, hf => mayAll_3_7 n B o c w hc hn c0 hf
  | (false, false, true), (false, false, false), c0, hf => mayAll_4_0 n B o c w hc hn c0 hf
  | (false, false, true), (true, false, false), c0, hf => mayAll_4_1 n B o c w hc hn c0 hf
  | (false, false, true), (false, true, false), c0, hf => mayAll_4_2 n B o c w hc hn c0 hf
  | (false, false, true), (true, true, false), c0, hf => mayAll_4_3 n B o c w hc hn c0 hf
  | (false, false, true), (false, false, true), c0, hf => mayAll_4_4 n B o c w hc hn c0 hf
  | (false, false, true), (true, false, true), c0, hf => mayAll_4_5 n B o c w hc hn c0 hf
  | (false, false, true), (false, true, true), c0, hf => mayAll_4_6 n B o c w hc hn c0 hf
  | (false, false, true), (true, true, true), c0, hf => mayAll_4_7 n B o c w hc hn c0 hf
  | (true, false, true), (false, false, false), c0, hf => mayAll_5_0 n B o c w hc hn c0 hf
  | (true, false, true), (true, false, false), c0, hf => mayAll_5_1 n B o c w hc hn c0 hf
  | (true, false, true), (false, true, false), c0, hf => mayAll_5_2 n B o c w hc hn c0 hf
  | (true, false, true), (true, true, false), c0, hf => mayAll_5_3 n B o c w hc hn c0 hf
  | (true, false, true), (false, false, true), c0, hf => mayAll_5_4 n B o c w hc hn c0 hf
  | (true, false, true), (true, false, true), c0, hf => mayAll_5_5 n B o c w hc hn c0 hf
  | (true, false, true), (false, true, true), c0, hf => mayAll_5_6 n B o c w hc hn c0 hf
  | (true, false, true), (true, true, true), c0, hf => mayAll_5_7 n B o c w hc hn c0 hf
  | (false, true, true), (false, false, false), c0, hf => mayAll_6_0 n B o c w hc hn c0 hf
  | (false, true, true), (true, false, false), c0, hf => mayAll_6_1 n B o c w hc hn c0 hf
  | (false, true, true), (false, true, false), c0, hf => mayAll_6_2 n B o c w hc hn c0 hf
  | (false, true, true), (true, true, false), c0, hf => mayAll_6_3 n B o c w hc hn c0 hf
  | (false, true, true), (false, false, true), c0, hf => mayAll_6_4 n B o c w hc hn c0 hf
  | (false, true, true), (true, false, true), c0, hf => mayAll_6_5 n B o c w hc hn c0 hf
  | (false, true, true), (false, true, true), c0, hf => mayAll_6_6 n B o c w hc hn c0 hf
  | (false, true, true), (true, true, true), c0, hf => mayAll_6_7 n B o c w hc hn c0 hf
  | (true, true, true), (false, false, false), c0, hf => mayAll_7_0 n B o c w hc hn c0 hf
  | (true, true, true), (true, false, false), c0, hf => mayAll_7_1 n B o c w hc hn c0 hf
  | (true, true, true), (false, true, false), c0, hf => mayAll_7_2 n B o c w hc hn c0 hf
  | (true, true, true), (true, true, false), c0, hf => mayAll_7_3 n B o c w hc hn c0 hf
  | (true, true, true), (false, false, true), c0, hf => mayAll_7_4 n B o c w hc hn c0 hf
  | (true, true, true), (true, false, true), c0, hf => mayAll_7_5 n B o c w hc hn c0 hf
  | (true, true, true), (false, true, true), c0, hf => mayAll_7_6 n B o c w hc hn c0 hf
  | (true, true, true), (true, true, true), c0, hf => mayAll_7_7 n B o c w hc hn c0 hf
theorem mayAll_any : ∀ (l : List Fa) (a : Fa) (B o c : Nat) (w : World), FI w B o (a :: l) → l.length ≤ 100 → l.length + 1 ≤ c →
    Calls Try.prog 101 #[.slice (some ⟨B, o, none⟩) (l.length + 1) c] w fun r W' => r = .returned (.int .i64 (encF (foldF thenF (a :: l)))) ∧ Below w.heap.size w W'
  | [], a, B, o, c, w, h, _, _ => by rw [foldF, if_pos rfl]; exact mayAll1 a B o c w h
  | b :: l, a, B, o, c, w, h, hl, hc => by
    rw [foldF, if_neg (by simp)]
    have hl' : l.length ≤ 100 := by simp at hl; omega
    have hc' : l.length + 2 ≤ c := by simp at hc; omega
    exact mayAll2 a _ l.length B o c w hc' hl' (h 0 a rfl) fun W hb => mayAll_any l b B (o + 1) (c - 1) W (h.below hb h.lt).tail hl' (by omega)
end Go.Proofs.Ytokdaapmejccbaa
