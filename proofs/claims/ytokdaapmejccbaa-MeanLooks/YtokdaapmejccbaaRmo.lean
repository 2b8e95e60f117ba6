import Derived.Test.YtokdaapmejccbaaRbi
import Derived.WalkKit
import Derived.Below
import Derived.Deep.QuietTactic
import Derived.BigQuiet
import Derived.BigRegion
namespace Go.Proofs.Ytokdaapmejccbaa
open Go.RowKit
set_option linter.unusedVariables false
set_option linter.unusedSimpArgs false
set_option maxRecDepth 20000 in
set_option maxHeartbeats 4000000 in
theorem mayOne_0 (b : Fa) (n : Nat) (B o c : Nat) (w : World) (hc : n + 2 ≤ c) (hn : n ≤ 100) (c0 : w.cell? ⟨B, o, none⟩ = some (.int .i64 0))
    (hf : ∀ W, Below w.heap.size w W → Calls Try.prog 102 #[.slice (some ⟨B, o + 1, none⟩) (n + 1) (c - 1)] W fun r W' => r = .returned (.int .i64 (encF b)) ∧ Below W.heap.size W W') :
    Calls Try.prog 102 #[.slice (some ⟨B, o, none⟩) (n + 2) c] w fun r W' => r = .returned (.int .i64 (encF (orF (false, false, false) b))) ∧ Below w.heap.size w W' := by
  have hz : encF (orF (false, false, false) b) = 0 := by obtain ⟨b1, b2, b3⟩ := b; cases b1 <;> cases b2 <;> cases b3 <;> rfl
  rw [hz]
  have g1 : ((n : Int) + 2 == 1) = false := by rw [beq_eq_false_iff_ne]; omega
  have i0 : (0 : Int) < (n : Int) + 2 := by omega
  go_enter Try.func102, Try.ntmps102
  go_wp2_with fail
  go_ret
  exact ⟨rfl, Below.refl _ _⟩
set_option maxRecDepth 20000 in
set_option maxHeartbeats 4000000 in
theorem mayOne_1 (b : Fa) (n : Nat) (B o c : Nat) (w : World) (hc : n + 2 ≤ c) (hn : n ≤ 100) (c0 : w.cell? ⟨B, o, none⟩ = some (.int .i64 1))
    (hf : ∀ W, Below w.heap.size w W → Calls Try.prog 102 #[.slice (some ⟨B, o + 1, none⟩) (n + 1) (c - 1)] W fun r W' => r = .returned (.int .i64 (encF b)) ∧ Below W.heap.size W W') :
    Calls Try.prog 102 #[.slice (some ⟨B, o, none⟩) (n + 2) c] w fun r W' => r = .returned (.int .i64 (encF (orF (true, false, false) b))) ∧ Below w.heap.size w W' := by
  have hz : encF (orF (true, false, false) b) = 1 := by obtain ⟨b1, b2, b3⟩ := b; cases b1 <;> cases b2 <;> cases b3 <;> rfl
  rw [hz]
  have g1 : ((n : Int) + 2 == 1) = false := by rw [beq_eq_false_iff_ne]; omega
  have i0 : (0 : Int) < (n : Int) + 2 := by omega
  go_enter Try.func102, Try.ntmps102
  go_wp2_with fail
  go_ret
  exact ⟨rfl, Below.refl _ _⟩
set_option maxRecDepth 20000 in
set_option maxHeartbeats 4000000 in
theorem mayOne_2 (b : Fa) (n : Nat) (B o c : Nat) (w : World) (hc : n + 2 ≤ c) (hn : n ≤ 100) (c0 : w.cell? ⟨B, o, none⟩ = some (.int .i64 2))
    (hf : ∀ W, Below w.heap.size w W → Calls Try.prog 102 #[.slice (some ⟨B, o + 1, none⟩) (n + 1) (c - 1)] W fun r W' => r = .returned (.int .i64 (encF b)) ∧ Below W.heap.size W W') :
    Calls Try.prog 102 #[.slice (some ⟨B, o, none⟩) (n + 2) c] w fun r W' => r = .returned (.int .i64 (encF (orF (false, true, false) b))) ∧ Below w.heap.size w W' := by
  have hz : encF (orF (false, true, false) b) = 2 := by obtain ⟨b1, b2, b3⟩ := b; cases b1 <;> cases b2 <;> cases b3 <;> rfl
  rw [hz]
  have g1 : ((n : Int) + 2 == 1) = false := by rw [beq_eq_false_iff_ne]; omega
  have i0 : (0 : Int) < (n : Int) + 2 := by omega
  go_enter Try.func102, Try.ntmps102
  go_wp2_with fail
  go_ret
  exact ⟨rfl, Below.refl _ _⟩
set_option maxRecDepth 20000 in
set_option maxHeartbeats 4000000 in
theorem mayOne_3 (b : Fa) (n : Nat) (B o c : Nat) (w : World) (hc : n + 2 ≤ c) (hn : n ≤ 100) (c0 : w.cell? ⟨B, o, none⟩ = some (.int .i64 3))
    (hf : ∀ W, Below w.heap.size w W → Calls Try.prog 102 #[.slice (some ⟨B, o + 1, none⟩) (n + 1) (c - 1)] W fun r W' => r = .returned (.int .i64 (encF b)) ∧ Below W.heap.size W W') :
    Calls Try.prog 102 #[.slice (some ⟨B, o, none⟩) (n + 2) c] w fun r W' => r = .returned (.int .i64 (encF (orF (true, true, false) b))) ∧ Below w.heap.size w W' := by
  have hz : encF (orF (true, true, false) b) = 3 := by obtain ⟨b1, b2, b3⟩ := b; cases b1 <;> cases b2 <;> cases b3 <;> rfl
  rw [hz]
  have g1 : ((n : Int) + 2 == 1) = false := by rw [beq_eq_false_iff_ne]; omega
  have i0 : (0 : Int) < (n : Int) + 2 := by omega
  go_enter Try.func102, Try.ntmps102
  go_wp2_with fail
  go_ret
  exact ⟨rfl, Below.refl _ _⟩
set_option maxRecDepth 20000 in
set_option maxHeartbeats 4000000 in
theorem mayOne_4 (b : Fa) (n : Nat) (B o c : Nat) (w : World) (hc : n + 2 ≤ c) (hn : n ≤ 100) (c0 : w.cell? ⟨B, o, none⟩ = some (.int .i64 4))
    (hf : ∀ W, Below w.heap.size w W → Calls Try.prog 102 #[.slice (some ⟨B, o + 1, none⟩) (n + 1) (c - 1)] W fun r W' => r = .returned (.int .i64 (encF b)) ∧ Below W.heap.size W W') :
    Calls Try.prog 102 #[.slice (some ⟨B, o, none⟩) (n + 2) c] w fun r W' => r = .returned (.int .i64 (encF (orF (false, false, true) b))) ∧ Below w.heap.size w W' := by
  have hz : bits .or .i64 0 (encF b) = encF (orF (false, false, true) b) := by obtain ⟨b1, b2, b3⟩ := b; cases b1 <;> cases b2 <;> cases b3 <;> rfl
  have g1 : ((n : Int) + 2 == 1) = false := by rw [beq_eq_false_iff_ne]; omega
  have i0 : (0 : Int) < (n : Int) + 2 := by omega
  have i1 : (1 : Int) ≤ (n : Int) + 2 := by omega
  have i2 : (n : Int) + 2 ≤ (c : Int) := by omega
  have i3 : ¬ c = 1 := by omega
  have hB := World.block_lt_of_cell? w _ c0
  have hc0 : Hid (∀ W, Below w.heap.size w W → W.cell? ⟨B, o, none⟩ = w.cell? ⟨B, o, none⟩) := fun W hb => hb.cell (p := ⟨B, o, none⟩) hB
  go_enter Try.func102, Try.ntmps102
  go_wp2_with fail
  refine wp_region_lit (fun W => Below w.heap.size w W) _ _ (by kernel_rfl) rfl (by kernel_rfl) (by kernel_rfl) (below_drew1 (Below.refl _ w)) ?_
  dsimp only [List.dropLast]
  repeat (first
    | go_big_quiet_skip
    | (go_big_quiet_want
       apply Exists.intro
       refine ⟨fun W hW => ?_, ?_⟩
       · have q0 := (hc0.out W hW).trans c0
         unfold Oper.quietAt
         go_simp
         first
           | with_reducible exact rfl
           | with_reducible exact ⟨rfl, rfl⟩
           | (go_at_call 102
              refine (hf W hW).mono ?_
              rintro e W1 ⟨rfl, hb⟩
              exact ⟨rfl, hW.trans (hb.mono hW.size)⟩)
       go_big_quiet_on
       simp only [Act.put, List.setIfInBounds_toArray, List.set_cons_zero, List.set_cons_succ]))
  refine wpQuiet_nil ?_
  intro W hW
  rw [if_pos (by rfl)]
  go_simp
  clear hc0 hf c0 hB
  go_wp2_with fail
  go_ret
  exact ⟨by rw [← hz]; rfl, hW⟩
set_option maxRecDepth 20000 in
set_option maxHeartbeats 4000000 in
theorem mayOne_5 (b : Fa) (n : Nat) (B o c : Nat) (w : World) (hc : n + 2 ≤ c) (hn : n ≤ 100) (c0 : w.cell? ⟨B, o, none⟩ = some (.int .i64 5))
    (hf : ∀ W, Below w.heap.size w W → Calls Try.prog 102 #[.slice (some ⟨B, o + 1, none⟩) (n + 1) (c - 1)] W fun r W' => r = .returned (.int .i64 (encF b)) ∧ Below W.heap.size W W') :
    Calls Try.prog 102 #[.slice (some ⟨B, o, none⟩) (n + 2) c] w fun r W' => r = .returned (.int .i64 (encF (orF (true, false, true) b))) ∧ Below w.heap.size w W' := by
  have hz : bits .or .i64 1 (encF b) = encF (orF (true, false, true) b) := by obtain ⟨b1, b2, b3⟩ := b; cases b1 <;> cases b2 <;> cases b3 <;> rfl
  have g1 : ((n : Int) + 2 == 1) = false := by rw [beq_eq_false_iff_ne]; omega
  have i0 : (0 : Int) < (n : Int) + 2 := by omega
  have i1 : (1 : Int) ≤ (n : Int) + 2 := by omega
  have i2 : (n : Int) + 2 ≤ (c : Int) := by omega
  have i3 : ¬ c = 1 := by omega
  have hB := World.block_lt_of_cell? w _ c0
  have hc0 : Hid (∀ W, Below w.heap.size w W → W.cell? ⟨B, o, none⟩ = w.cell? ⟨B, o, none⟩) := fun W hb => hb.cell (p := ⟨B, o, none⟩) hB
  go_enter Try.func102, Try.ntmps102
  go_wp2_with fail
  refine wp_region_lit (fun W => Below w.heap.size w W) _ _ (by kernel_rfl) rfl (by kernel_rfl) (by kernel_rfl) (below_drew1 (Below.refl _ w)) ?_
  dsimp only [List.dropLast]
  repeat (first
    | go_big_quiet_skip
    | (go_big_quiet_want
       apply Exists.intro
       refine ⟨fun W hW => ?_, ?_⟩
       · have q0 := (hc0.out W hW).trans c0
         unfold Oper.quietAt
         go_simp
         first
           | with_reducible exact rfl
           | with_reducible exact ⟨rfl, rfl⟩
           | (go_at_call 102
              refine (hf W hW).mono ?_
              rintro e W1 ⟨rfl, hb⟩
              exact ⟨rfl, hW.trans (hb.mono hW.size)⟩)
       go_big_quiet_on
       simp only [Act.put, List.setIfInBounds_toArray, List.set_cons_zero, List.set_cons_succ]))
  refine wpQuiet_nil ?_
  intro W hW
  rw [if_pos (by rfl)]
  go_simp
  clear hc0 hf c0 hB
  go_wp2_with fail
  go_ret
  exact ⟨by rw [← hz]; rfl, hW⟩
set_option maxRecDepth 20000 in
set_option maxHeartbeats 4000000 in
theorem mayOne_6 (b : Fa) (n : Nat) (B o c : Nat) (w : World) (hc : n + 2 ≤ c) (hn : n ≤ 100) (c0 : w.cell? ⟨B, o, none⟩ = some (.int .i64 6))
    (hf : ∀ W, Below w.heap.size w W → Calls Try.prog 102 #[.slice (some ⟨B, o + 1, none⟩) (n + 1) (c - 1)] W fun r W' => r = .returned (.int .i64 (encF b)) ∧ Below W.heap.size W W') :
    Calls Try.prog 102 #[.slice (some ⟨B, o, none⟩) (n + 2) c] w fun r W' => r = .returned (.int .i64 (encF (orF (false, true, true) b))) ∧ Below w.heap.size w W' := by
  have hz : bits .or .i64 2 (encF b) = encF (orF (false, true, true) b) := by obtain ⟨b1, b2, b3⟩ := b; cases b1 <;> cases b2 <;> cases b3 <;> rfl
  have g1 : ((n : Int) + 2 == 1) = false := by rw [beq_eq_false_iff_ne]; omega
  have i0 : (0 : Int) < (n : Int) + 2 := by omega
  have i1 : (1 : Int) ≤ (n : Int) + 2 := by omega
  have i2 : (n : Int) + 2 ≤ (c : Int) := by omega
  have i3 : ¬ c = 1 := by omega
  have hB := World.block_lt_of_cell? w _ c0
  have hc0 : Hid (∀ W, Below w.heap.size w W → W.cell? ⟨B, o, none⟩ = w.cell? ⟨B, o, none⟩) := fun W hb => hb.cell (p := ⟨B, o, none⟩) hB
  go_enter Try.func102, Try.ntmps102
  go_wp2_with fail
  refine wp_region_lit (fun W => Below w.heap.size w W) _ _ (by kernel_rfl) rfl (by kernel_rfl) (by kernel_rfl) (below_drew1 (Below.refl _ w)) ?_
  dsimp only [List.dropLast]
  repeat (first
    | go_big_quiet_skip
    | (go_big_quiet_want
       apply Exists.intro
       refine ⟨fun W hW => ?_, ?_⟩
       · have q0 := (hc0.out W hW).trans c0
         unfold Oper.quietAt
         go_simp
         first
           | with_reducible exact rfl
           | with_reducible exact ⟨rfl, rfl⟩
           | (go_at_call 102
              refine (hf W hW).mono ?_
              rintro e W1 ⟨rfl, hb⟩
              exact ⟨rfl, hW.trans (hb.mono hW.size)⟩)
       go_big_quiet_on
       simp only [Act.put, List.setIfInBounds_toArray, List.set_cons_zero, List.set_cons_succ]))
  refine wpQuiet_nil ?_
  intro W hW
  rw [if_pos (by rfl)]
  go_simp
  clear hc0 hf c0 hB
  go_wp2_with fail
  go_ret
  exact ⟨by rw [← hz]; rfl, hW⟩
set_option maxRecDepth 20000 in
set_option maxHeartbeats 4000000 in
theorem mayOne_7 (b : Fa) (n : Nat) (B o c : Nat) (w : World) (hc : n + 2 ≤ c) (hn : n ≤ 100) (c0 : w.cell? ⟨B, o, none⟩ = some (.int .i64 7))
    (hf : ∀ W, Below w.heap.size w W → Calls Try.prog 102 #[.slice (some ⟨B, o + 1, none⟩) (n + 1) (c - 1)] W fun r W' => r = .returned (.int .i64 (encF b)) ∧ Below W.heap.size W W') :
    Calls Try.prog 102 #[.slice (some ⟨B, o, none⟩) (n + 2) c] w fun r W' => r = .returned (.int .i64 (encF (orF (true, true, true) b))) ∧ Below w.heap.size w W' := by
  have hz : bits .or .i64 3 (encF b) = encF (orF (true, true, true) b) := by obtain ⟨b1, b2, b3⟩ := b; cases b1 <;> cases b2 <;> cases b3 <;> rfl
  have g1 : ((n : Int) + 2 == 1) = false := by rw [beq_eq_false_iff_ne]; omega
  have i0 : (0 : Int) < (n : Int) + 2 := by omega
  have i1 : (1 : Int) ≤ (n : Int) + 2 := by omega
  have i2 : (n : Int) + 2 ≤ (c : Int) := by omega
  have i3 : ¬ c = 1 := by omega
  have hB := World.block_lt_of_cell? w _ c0
  have hc0 : Hid (∀ W, Below w.heap.size w W → W.cell? ⟨B, o, none⟩ = w.cell? ⟨B, o, none⟩) := fun W hb => hb.cell (p := ⟨B, o, none⟩) hB
  go_enter Try.func102, Try.ntmps102
  go_wp2_with fail
  refine wp_region_lit (fun W => Below w.heap.size w W) _ _ (by kernel_rfl) rfl (by kernel_rfl) (by kernel_rfl) (below_drew1 (Below.refl _ w)) ?_
  dsimp only [List.dropLast]
  repeat (first
    | go_big_quiet_skip
    | (go_big_quiet_want
       apply Exists.intro
       refine ⟨fun W hW => ?_, ?_⟩
       · have q0 := (hc0.out W hW).trans c0
         unfold Oper.quietAt
         go_simp
         first
           | with_reducible exact rfl
           | with_reducible exact ⟨rfl, rfl⟩
           | (go_at_call 102
              refine (hf W hW).mono ?_
              rintro e W1 ⟨rfl, hb⟩
              exact ⟨rfl, hW.trans (hb.mono hW.size)⟩)
       go_big_quiet_on
       simp only [Act.put, List.setIfInBounds_toArray, List.set_cons_zero, List.set_cons_succ]))
  refine wpQuiet_nil ?_
  intro W hW
  rw [if_pos (by rfl)]
  go_simp
  clear hc0 hf c0 hB
  go_wp2_with fail
  go_ret
  exact ⟨by rw [← hz]; rfl, hW⟩
theorem mayOne2 (a b : Fa) (n : Nat) (B o c : Nat) (w : World) (hc : n + 2 ≤ c) (hn : n ≤ 100) (c0 : w.cell? ⟨B, o, none⟩ = some (.int .i64 (encF a)))
    (hf : ∀ W, Below w.heap.size w W → Calls Try.prog 102 #[.slice (some ⟨B, o + 1, none⟩) (n + 1) (c - 1)] W fun r W' => r = .returned (.int .i64 (encF b)) ∧ Below W.heap.size W W') :
    Calls Try.prog 102 #[.slice (some ⟨B, o, none⟩) (n + 2) c] w fun r W' => r = .returned (.int .i64 (encF (orF a b))) ∧ Below w.heap.size w W' :=
  match a, b, c0, hf with
  | (false, false, false), b, c0, hf => mayOne_0 b n B o c w hc hn c0 hf
  | (true, false, false), b, c0, hf => mayOne_1 b n B o c w hc hn c0 hf
  | (false, true, false), b, c0, hf => mayOne_2 b n B o c w hc hn c0 hf
  | (true, true, false), b, c0, hf => mayOne_3 b n B o c w hc hn c0 hf
  | (false, false, true), b, c0, hf => mayOne_4 b n B o c w hc hn c0 hf
  | (true, false, true), b, c0, hf => mayOne_5 b n B o c w hc hn c0 hf
  | (false, true, true), b, c0, hf => mayOne_6 b n B o c w hc hn c0 hf
  | (true, true, true), b, c0, hf => mayOne_7 b n B o c w hc hn c0 hf
theorem mayOne_any : ∀ (l : List Fa) (a : Fa) (B o c : Nat) (w : World), FI w B o (a :: l) → l.length ≤ 100 → l.length + 1 ≤ c →
    Calls Try.prog 102 #[.slice (some ⟨B, o, none⟩) (l.length + 1) c] w fun r W' => r = .returned (.int .i64 (encF (foldF orF (a :: l)))) ∧ Below w.heap.size w W'
  | [], a, B, o, c, w, h, _, _ => by rw [foldF, if_pos rfl]; exact mayOne1 a B o c w h
  | b :: l, a, B, o, c, w, h, hl, hc => by
    rw [foldF, if_neg (by simp)]
    have hl' : l.length ≤ 100 := by simp at hl; omega
    have hc' : l.length + 2 ≤ c := by simp at hc; omega
    exact mayOne2 a _ l.length B o c w hc' hl' (h 0 a rfl) fun W hb => mayOne_any l b B (o + 1) (c - 1) W (h.below hb h.lt).tail hl' (by omega)
end Go.Proofs.Ytokdaapmejccbaa
