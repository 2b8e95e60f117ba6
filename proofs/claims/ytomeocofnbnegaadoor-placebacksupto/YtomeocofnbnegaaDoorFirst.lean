import Derived.Test.YtomeocofnbnegaaDoorGo
import Derived.WalkKit
import Derived.WalkSpells
import Derived.WalkLawsBesides
set_option linter.unusedVariables false
namespace Go.Proofs.YtomeocofnbnegaaDoor
open Go.RowKit
/-- v is the number that three bytes say. -/
def IsV3 (s : ByteArray) (v : Int) : Prop := ∀ (h0 : 0 < s.size) (h1 : 1 < s.size) (h2 : 2 < s.size), ((((s[0]'h0).toNat : Int) % (16 : Int) * (64 : Int) + ((s[1]'h1).toNat : Int) % (64 : Int)) * (64 : Int) + ((s[2]'h2).toNat : Int) % (64 : Int)) = v
/-- v is the number that four bytes say. -/
def IsV4 (s : ByteArray) (v : Int) : Prop := ∀ (h0 : 0 < s.size) (h1 : 1 < s.size) (h2 : 2 < s.size) (h3 : 3 < s.size), (((((s[0]'h0).toNat : Int) % (8 : Int) * (64 : Int) + ((s[1]'h1).toNat : Int) % (64 : Int)) * (64 : Int) + ((s[2]'h2).toNat : Int) % (64 : Int)) * (64 : Int) + ((s[3]'h3).toNat : Int) % (64 : Int)) = v
theorem IsV3.nonneg {s : ByteArray} {v : Int} (h : IsV3 s v) (h0 : 0 < s.size) (h1 : 1 < s.size) (h2 : 2 < s.size) : v ≤ 65535 := by have := h h0 h1 h2; omega
theorem IsV4.nonneg {s : ByteArray} {v : Int} (h : IsV4 s v) (h0 : 0 < s.size) (h1 : 1 < s.size) (h2 : 2 < s.size) (h3 : 3 < s.size) : v ≤ 2097151 := by have := h h0 h1 h2 h3; omega
set_option maxRecDepth 20000 in
set_option maxHeartbeats 1000000 in
theorem f1 (s : ByteArray) (w : World) (h0 : 0 < s.size) (ha : (0 : Int) ≤ ((s[0]'h0).toNat : Int)) (hb : ((s[0]'h0).toNat : Int) < 128) :
    Calls Tryd.prog 23 #[.string s] w fun e w' => e = .returned (.int .i64 1) ∧ w' = w := by
  have g0 : decide (((s[0]'h0).toNat : Int) < 128) = true := by simp; omega
  have g1 : decide ((194 : Int) ≤ ((s[0]'h0).toNat : Int)) = false := by simp; omega
  have g2 : decide (((s[0]'h0).toNat : Int) < 224) = true := by simp; omega
  have g3 : decide ((224 : Int) ≤ ((s[0]'h0).toNat : Int)) = false := by simp; omega
  have g4 : decide (((s[0]'h0).toNat : Int) < 240) = true := by simp; omega
  have g5 : decide ((240 : Int) ≤ ((s[0]'h0).toNat : Int)) = false := by simp; omega
  have g6 : decide (((s[0]'h0).toNat : Int) < 245) = true := by simp; omega
  have g7 : decide ((s.size : Int) < 1) = false := by simp; omega
  go_enter Tryd.func23, Tryd.ntmps23
  go_wp2_with fail
  go_ret
  exact ⟨rfl, rfl⟩
set_option maxRecDepth 20000 in
set_option maxHeartbeats 1000000 in
theorem f2ok (s : ByteArray) (w : World) (h0 : 0 < s.size) (ha : (194 : Int) ≤ ((s[0]'h0).toNat : Int)) (hb : ((s[0]'h0).toNat : Int) < 224) (h1 : 1 < s.size) (p1 : (128 : Int) ≤ ((s[1]'h1).toNat : Int)) (q1 : ((s[1]'h1).toNat : Int) ≤ 191) :
    Calls Tryd.prog 23 #[.string s] w fun e w' => e = .returned (.int .i64 2) ∧ w' = w := by
  have g0 : decide (((s[0]'h0).toNat : Int) < 128) = false := by simp; omega
  have g1 : decide ((194 : Int) ≤ ((s[0]'h0).toNat : Int)) = true := by simp; omega
  have g2 : decide (((s[0]'h0).toNat : Int) < 224) = true := by simp; omega
  have g3 : decide ((s.size : Int) < 2) = false := by simp; omega
  have g4 : decide (((s[1]'h1).toNat : Int) < 128) = false := by simp; omega
  have g5 : decide ((191 : Int) < ((s[1]'h1).toNat : Int)) = false := by simp; omega
  have g6 : decide ((((s[0]'h0).toNat : Int) % (32 : Int) * (64 : Int) + ((s[1]'h1).toNat : Int) % (64 : Int)) < 128) = false := by simp; omega
  have g7 : decide ((1114111 : Int) < (((s[0]'h0).toNat : Int) % (32 : Int) * (64 : Int) + ((s[1]'h1).toNat : Int) % (64 : Int))) = false := by simp; omega
  have g8 : decide ((55296 : Int) ≤ (((s[0]'h0).toNat : Int) % (32 : Int) * (64 : Int) + ((s[1]'h1).toNat : Int) % (64 : Int))) = false := by simp; omega
  go_enter Tryd.func23, Tryd.ntmps23
  go_wp2_with fail
  refine wp_loop_rounds 2 ?_
  rw [rounds_succ]
  go_wp2_with fail
  rw [rounds_succ]
  go_wp2_with fail
  go_ret
  exact ⟨rfl, rfl⟩
set_option maxRecDepth 20000 in
set_option maxHeartbeats 1000000 in
theorem f2short (s : ByteArray) (w : World) (h0 : 0 < s.size) (ha : (194 : Int) ≤ ((s[0]'h0).toNat : Int)) (hb : ((s[0]'h0).toNat : Int) < 224) (hsz : (s.size : Int) < 2) :
    Calls Tryd.prog 23 #[.string s] w fun e w' => e = .returned (.int .i64 0) ∧ w' = w := by
  have g0 : decide (((s[0]'h0).toNat : Int) < 128) = false := by simp; omega
  have g1 : decide ((194 : Int) ≤ ((s[0]'h0).toNat : Int)) = true := by simp; omega
  have g2 : decide (((s[0]'h0).toNat : Int) < 224) = true := by simp; omega
  have g3 : decide ((s.size : Int) < 2) = true := by simp; omega
  go_enter Tryd.func23, Tryd.ntmps23
  go_wp2_with fail
  go_ret
  exact ⟨rfl, rfl⟩
set_option maxRecDepth 20000 in
set_option maxHeartbeats 1000000 in
theorem f2lo (s : ByteArray) (w : World) (h0 : 0 < s.size) (ha : (194 : Int) ≤ ((s[0]'h0).toNat : Int)) (hb : ((s[0]'h0).toNat : Int) < 224) (h1 : 1 < s.size) (p1 : ((s[1]'h1).toNat : Int) < 128) :
    Calls Tryd.prog 23 #[.string s] w fun e w' => e = .returned (.int .i64 0) ∧ w' = w := by
  have g0 : decide (((s[0]'h0).toNat : Int) < 128) = false := by simp; omega
  have g1 : decide ((194 : Int) ≤ ((s[0]'h0).toNat : Int)) = true := by simp; omega
  have g2 : decide (((s[0]'h0).toNat : Int) < 224) = true := by simp; omega
  have g3 : decide ((s.size : Int) < 2) = false := by simp; omega
  have g4 : decide (((s[1]'h1).toNat : Int) < 128) = true := by simp; omega
  go_enter Tryd.func23, Tryd.ntmps23
  go_wp2_with fail
  refine wp_loop_rounds 2 ?_
  rw [rounds_succ]
  go_wp2_with fail
  go_ret
  exact ⟨rfl, rfl⟩
set_option maxRecDepth 20000 in
set_option maxHeartbeats 1000000 in
theorem f2hi (s : ByteArray) (w : World) (h0 : 0 < s.size) (ha : (194 : Int) ≤ ((s[0]'h0).toNat : Int)) (hb : ((s[0]'h0).toNat : Int) < 224) (h1 : 1 < s.size) (p1 : (191 : Int) < ((s[1]'h1).toNat : Int)) :
    Calls Tryd.prog 23 #[.string s] w fun e w' => e = .returned (.int .i64 0) ∧ w' = w := by
  have g0 : decide (((s[0]'h0).toNat : Int) < 128) = false := by simp; omega
  have g1 : decide ((194 : Int) ≤ ((s[0]'h0).toNat : Int)) = true := by simp; omega
  have g2 : decide (((s[0]'h0).toNat : Int) < 224) = true := by simp; omega
  have g3 : decide ((s.size : Int) < 2) = false := by simp; omega
  have g4 : decide (((s[1]'h1).toNat : Int) < 128) = false := by simp; omega
  have g5 : decide ((191 : Int) < ((s[1]'h1).toNat : Int)) = true := by simp; omega
  go_enter Tryd.func23, Tryd.ntmps23
  go_wp2_with fail
  refine wp_loop_rounds 2 ?_
  rw [rounds_succ]
  go_wp2_with fail
  go_ret
  exact ⟨rfl, rfl⟩
set_option maxRecDepth 20000 in
set_option maxHeartbeats 1000000 in
theorem f3short (s : ByteArray) (w : World) (h0 : 0 < s.size) (ha : (224 : Int) ≤ ((s[0]'h0).toNat : Int)) (hb : ((s[0]'h0).toNat : Int) < 240) (hsz : (s.size : Int) < 3) :
    Calls Tryd.prog 23 #[.string s] w fun e w' => e = .returned (.int .i64 0) ∧ w' = w := by
  have g0 : decide (((s[0]'h0).toNat : Int) < 128) = false := by simp; omega
  have g1 : decide ((194 : Int) ≤ ((s[0]'h0).toNat : Int)) = true := by simp; omega
  have g2 : decide (((s[0]'h0).toNat : Int) < 224) = false := by simp; omega
  have g3 : decide ((224 : Int) ≤ ((s[0]'h0).toNat : Int)) = true := by simp; omega
  have g4 : decide (((s[0]'h0).toNat : Int) < 240) = true := by simp; omega
  have g5 : decide ((s.size : Int) < 3) = true := by simp; omega
  go_enter Tryd.func23, Tryd.ntmps23
  go_wp2_with fail
  go_ret
  exact ⟨rfl, rfl⟩
set_option maxRecDepth 20000 in
set_option maxHeartbeats 1000000 in
theorem f3lo1 (s : ByteArray) (w : World) (h0 : 0 < s.size) (ha : (224 : Int) ≤ ((s[0]'h0).toNat : Int)) (hb : ((s[0]'h0).toNat : Int) < 240) (h1 : 1 < s.size) (h2 : 2 < s.size) (p1 : ((s[1]'h1).toNat : Int) < 128) :
    Calls Tryd.prog 23 #[.string s] w fun e w' => e = .returned (.int .i64 0) ∧ w' = w := by
  have g0 : decide (((s[0]'h0).toNat : Int) < 128) = false := by simp; omega
  have g1 : decide ((194 : Int) ≤ ((s[0]'h0).toNat : Int)) = true := by simp; omega
  have g2 : decide (((s[0]'h0).toNat : Int) < 224) = false := by simp; omega
  have g3 : decide ((224 : Int) ≤ ((s[0]'h0).toNat : Int)) = true := by simp; omega
  have g4 : decide (((s[0]'h0).toNat : Int) < 240) = true := by simp; omega
  have g5 : decide ((s.size : Int) < 3) = false := by simp; omega
  have g6 : decide (((s[1]'h1).toNat : Int) < 128) = true := by simp; omega
  go_enter Tryd.func23, Tryd.ntmps23
  go_wp2_with fail
  refine wp_loop_rounds 3 ?_
  rw [rounds_succ]
  go_wp2_with fail
  go_ret
  exact ⟨rfl, rfl⟩
set_option maxRecDepth 20000 in
set_option maxHeartbeats 1000000 in
theorem f3hi1 (s : ByteArray) (w : World) (h0 : 0 < s.size) (ha : (224 : Int) ≤ ((s[0]'h0).toNat : Int)) (hb : ((s[0]'h0).toNat : Int) < 240) (h1 : 1 < s.size) (h2 : 2 < s.size) (p1 : (191 : Int) < ((s[1]'h1).toNat : Int)) :
    Calls Tryd.prog 23 #[.string s] w fun e w' => e = .returned (.int .i64 0) ∧ w' = w := by
  have g0 : decide (((s[0]'h0).toNat : Int) < 128) = false := by simp; omega
  have g1 : decide ((194 : Int) ≤ ((s[0]'h0).toNat : Int)) = true := by simp; omega
  have g2 : decide (((s[0]'h0).toNat : Int) < 224) = false := by simp; omega
  have g3 : decide ((224 : Int) ≤ ((s[0]'h0).toNat : Int)) = true := by simp; omega
  have g4 : decide (((s[0]'h0).toNat : Int) < 240) = true := by simp; omega
  have g5 : decide ((s.size : Int) < 3) = false := by simp; omega
  have g6 : decide (((s[1]'h1).toNat : Int) < 128) = false := by simp; omega
  have g7 : decide ((191 : Int) < ((s[1]'h1).toNat : Int)) = true := by simp; omega
  go_enter Tryd.func23, Tryd.ntmps23
  go_wp2_with fail
  refine wp_loop_rounds 3 ?_
  rw [rounds_succ]
  go_wp2_with fail
  go_ret
  exact ⟨rfl, rfl⟩
set_option maxRecDepth 20000 in
set_option maxHeartbeats 1000000 in
theorem f3lo2 (s : ByteArray) (w : World) (h0 : 0 < s.size) (ha : (224 : Int) ≤ ((s[0]'h0).toNat : Int)) (hb : ((s[0]'h0).toNat : Int) < 240) (h1 : 1 < s.size) (h2 : 2 < s.size) (p1 : (128 : Int) ≤ ((s[1]'h1).toNat : Int)) (q1 : ((s[1]'h1).toNat : Int) ≤ 191) (p2 : ((s[2]'h2).toNat : Int) < 128) :
    Calls Tryd.prog 23 #[.string s] w fun e w' => e = .returned (.int .i64 0) ∧ w' = w := by
  have g0 : decide (((s[0]'h0).toNat : Int) < 128) = false := by simp; omega
  have g1 : decide ((194 : Int) ≤ ((s[0]'h0).toNat : Int)) = true := by simp; omega
  have g2 : decide (((s[0]'h0).toNat : Int) < 224) = false := by simp; omega
  have g3 : decide ((224 : Int) ≤ ((s[0]'h0).toNat : Int)) = true := by simp; omega
  have g4 : decide (((s[0]'h0).toNat : Int) < 240) = true := by simp; omega
  have g5 : decide ((s.size : Int) < 3) = false := by simp; omega
  have g6 : decide (((s[1]'h1).toNat : Int) < 128) = false := by simp; omega
  have g7 : decide ((191 : Int) < ((s[1]'h1).toNat : Int)) = false := by simp; omega
  have g8 : decide (((s[2]'h2).toNat : Int) < 128) = true := by simp; omega
  go_enter Tryd.func23, Tryd.ntmps23
  go_wp2_with fail
  refine wp_loop_rounds 3 ?_
  rw [rounds_succ]
  go_wp2_with fail
  rw [rounds_succ]
  go_wp2_with fail
  go_ret
  exact ⟨rfl, rfl⟩
set_option maxRecDepth 20000 in
set_option maxHeartbeats 1000000 in
theorem f3hi2 (s : ByteArray) (w : World) (h0 : 0 < s.size) (ha : (224 : Int) ≤ ((s[0]'h0).toNat : Int)) (hb : ((s[0]'h0).toNat : Int) < 240) (h1 : 1 < s.size) (h2 : 2 < s.size) (p1 : (128 : Int) ≤ ((s[1]'h1).toNat : Int)) (q1 : ((s[1]'h1).toNat : Int) ≤ 191) (p2 : (191 : Int) < ((s[2]'h2).toNat : Int)) :
    Calls Tryd.prog 23 #[.string s] w fun e w' => e = .returned (.int .i64 0) ∧ w' = w := by
  have g0 : decide (((s[0]'h0).toNat : Int) < 128) = false := by simp; omega
  have g1 : decide ((194 : Int) ≤ ((s[0]'h0).toNat : Int)) = true := by simp; omega
  have g2 : decide (((s[0]'h0).toNat : Int) < 224) = false := by simp; omega
  have g3 : decide ((224 : Int) ≤ ((s[0]'h0).toNat : Int)) = true := by simp; omega
  have g4 : decide (((s[0]'h0).toNat : Int) < 240) = true := by simp; omega
  have g5 : decide ((s.size : Int) < 3) = false := by simp; omega
  have g6 : decide (((s[1]'h1).toNat : Int) < 128) = false := by simp; omega
  have g7 : decide ((191 : Int) < ((s[1]'h1).toNat : Int)) = false := by simp; omega
  have g8 : decide (((s[2]'h2).toNat : Int) < 128) = false := by simp; omega
  have g9 : decide ((191 : Int) < ((s[2]'h2).toNat : Int)) = true := by simp; omega
  go_enter Tryd.func23, Tryd.ntmps23
  go_wp2_with fail
  refine wp_loop_rounds 3 ?_
  rw [rounds_succ]
  go_wp2_with fail
  rw [rounds_succ]
  go_wp2_with fail
  go_ret
  exact ⟨rfl, rfl⟩
set_option maxRecDepth 20000 in
set_option maxHeartbeats 1000000 in
theorem f3low (s : ByteArray) (w : World) (h0 : 0 < s.size) (ha : (224 : Int) ≤ ((s[0]'h0).toNat : Int)) (hb : ((s[0]'h0).toNat : Int) < 240) (h1 : 1 < s.size) (h2 : 2 < s.size) (p1 : (128 : Int) ≤ ((s[1]'h1).toNat : Int)) (q1 : ((s[1]'h1).toNat : Int) ≤ 191) (p2 : (128 : Int) ≤ ((s[2]'h2).toNat : Int)) (q2 : ((s[2]'h2).toNat : Int) ≤ 191) (v : Int) (hV : IsV3 s v) (hv : v < 2048) :
    Calls Tryd.prog 23 #[.string s] w fun e w' => e = .returned (.int .i64 0) ∧ w' = w := by
  have hvb := hV.nonneg h0 h1 h2
  have g0 : decide (((s[0]'h0).toNat : Int) < 128) = false := by simp; omega
  have g1 : decide ((194 : Int) ≤ ((s[0]'h0).toNat : Int)) = true := by simp; omega
  have g2 : decide (((s[0]'h0).toNat : Int) < 224) = false := by simp; omega
  have g3 : decide ((224 : Int) ≤ ((s[0]'h0).toNat : Int)) = true := by simp; omega
  have g4 : decide (((s[0]'h0).toNat : Int) < 240) = true := by simp; omega
  have g5 : decide ((s.size : Int) < 3) = false := by simp; omega
  have g6 : decide (((s[1]'h1).toNat : Int) < 128) = false := by simp; omega
  have g7 : decide ((191 : Int) < ((s[1]'h1).toNat : Int)) = false := by simp; omega
  have g8 : decide (((s[2]'h2).toNat : Int) < 128) = false := by simp; omega
  have g9 : decide ((191 : Int) < ((s[2]'h2).toNat : Int)) = false := by simp; omega
  have g10 : decide (v < 2048) = true := by simp; omega
  go_enter Tryd.func23, Tryd.ntmps23
  go_wp2_with fail
  refine wp_loop_rounds 3 ?_
  rw [rounds_succ]
  go_wp2_with fail
  rw [rounds_succ]
  go_wp2_with fail
  rw [show ((((s[0]'h0).toNat : Int) % (16 : Int) * (64 : Int) + ((s[1]'h1).toNat : Int) % (64 : Int)) * (64 : Int) + ((s[2]'h2).toNat : Int) % (64 : Int)) = v from hV h0 h1 h2]
  rw [rounds_succ]
  go_wp2_with fail
  go_ret
  exact ⟨rfl, rfl⟩
set_option maxRecDepth 20000 in
set_option maxHeartbeats 1000000 in
theorem f3sur (s : ByteArray) (w : World) (h0 : 0 < s.size) (ha : (224 : Int) ≤ ((s[0]'h0).toNat : Int)) (hb : ((s[0]'h0).toNat : Int) < 240) (h1 : 1 < s.size) (h2 : 2 < s.size) (p1 : (128 : Int) ≤ ((s[1]'h1).toNat : Int)) (q1 : ((s[1]'h1).toNat : Int) ≤ 191) (p2 : (128 : Int) ≤ ((s[2]'h2).toNat : Int)) (q2 : ((s[2]'h2).toNat : Int) ≤ 191) (v : Int) (hV : IsV3 s v) (hv : (55296 : Int) ≤ v) (hv2 : v < 57344) :
    Calls Tryd.prog 23 #[.string s] w fun e w' => e = .returned (.int .i64 0) ∧ w' = w := by
  have hvb := hV.nonneg h0 h1 h2
  have g0 : decide (((s[0]'h0).toNat : Int) < 128) = false := by simp; omega
  have g1 : decide ((194 : Int) ≤ ((s[0]'h0).toNat : Int)) = true := by simp; omega
  have g2 : decide (((s[0]'h0).toNat : Int) < 224) = false := by simp; omega
  have g3 : decide ((224 : Int) ≤ ((s[0]'h0).toNat : Int)) = true := by simp; omega
  have g4 : decide (((s[0]'h0).toNat : Int) < 240) = true := by simp; omega
  have g5 : decide ((s.size : Int) < 3) = false := by simp; omega
  have g6 : decide (((s[1]'h1).toNat : Int) < 128) = false := by simp; omega
  have g7 : decide ((191 : Int) < ((s[1]'h1).toNat : Int)) = false := by simp; omega
  have g8 : decide (((s[2]'h2).toNat : Int) < 128) = false := by simp; omega
  have g9 : decide ((191 : Int) < ((s[2]'h2).toNat : Int)) = false := by simp; omega
  have g10 : decide (v < 2048) = false := by simp; omega
  have g11 : decide ((1114111 : Int) < v) = false := by simp; omega
  have g12 : decide ((55296 : Int) ≤ v) = true := by simp; omega
  have g13 : decide (v < 57344) = true := by simp; omega
  go_enter Tryd.func23, Tryd.ntmps23
  go_wp2_with fail
  refine wp_loop_rounds 3 ?_
  rw [rounds_succ]
  go_wp2_with fail
  rw [rounds_succ]
  go_wp2_with fail
  rw [show ((((s[0]'h0).toNat : Int) % (16 : Int) * (64 : Int) + ((s[1]'h1).toNat : Int) % (64 : Int)) * (64 : Int) + ((s[2]'h2).toNat : Int) % (64 : Int)) = v from hV h0 h1 h2]
  rw [rounds_succ]
  go_wp2_with fail
  go_ret
  exact ⟨rfl, rfl⟩
set_option maxRecDepth 20000 in
set_option maxHeartbeats 1000000 in
theorem f3okA (s : ByteArray) (w : World) (h0 : 0 < s.size) (ha : (224 : Int) ≤ ((s[0]'h0).toNat : Int)) (hb : ((s[0]'h0).toNat : Int) < 240) (h1 : 1 < s.size) (h2 : 2 < s.size) (p1 : (128 : Int) ≤ ((s[1]'h1).toNat : Int)) (q1 : ((s[1]'h1).toNat : Int) ≤ 191) (p2 : (128 : Int) ≤ ((s[2]'h2).toNat : Int)) (q2 : ((s[2]'h2).toNat : Int) ≤ 191) (v : Int) (hV : IsV3 s v) (hv : (2048 : Int) ≤ v) (hv2 : v < 55296) :
    Calls Tryd.prog 23 #[.string s] w fun e w' => e = .returned (.int .i64 3) ∧ w' = w := by
  have hvb := hV.nonneg h0 h1 h2
  have g0 : decide (((s[0]'h0).toNat : Int) < 128) = false := by simp; omega
  have g1 : decide ((194 : Int) ≤ ((s[0]'h0).toNat : Int)) = true := by simp; omega
  have g2 : decide (((s[0]'h0).toNat : Int) < 224) = false := by simp; omega
  have g3 : decide ((224 : Int) ≤ ((s[0]'h0).toNat : Int)) = true := by simp; omega
  have g4 : decide (((s[0]'h0).toNat : Int) < 240) = true := by simp; omega
  have g5 : decide ((s.size : Int) < 3) = false := by simp; omega
  have g6 : decide (((s[1]'h1).toNat : Int) < 128) = false := by simp; omega
  have g7 : decide ((191 : Int) < ((s[1]'h1).toNat : Int)) = false := by simp; omega
  have g8 : decide (((s[2]'h2).toNat : Int) < 128) = false := by simp; omega
  have g9 : decide ((191 : Int) < ((s[2]'h2).toNat : Int)) = false := by simp; omega
  have g10 : decide (v < 2048) = false := by simp; omega
  have g11 : decide ((1114111 : Int) < v) = false := by simp; omega
  have g12 : decide ((55296 : Int) ≤ v) = false := by simp; omega
  go_enter Tryd.func23, Tryd.ntmps23
  go_wp2_with fail
  refine wp_loop_rounds 3 ?_
  rw [rounds_succ]
  go_wp2_with fail
  rw [rounds_succ]
  go_wp2_with fail
  rw [show ((((s[0]'h0).toNat : Int) % (16 : Int) * (64 : Int) + ((s[1]'h1).toNat : Int) % (64 : Int)) * (64 : Int) + ((s[2]'h2).toNat : Int) % (64 : Int)) = v from hV h0 h1 h2]
  rw [rounds_succ]
  go_wp2_with fail
  go_ret
  exact ⟨rfl, rfl⟩
set_option maxRecDepth 20000 in
set_option maxHeartbeats 1000000 in
theorem f3okB (s : ByteArray) (w : World) (h0 : 0 < s.size) (ha : (224 : Int) ≤ ((s[0]'h0).toNat : Int)) (hb : ((s[0]'h0).toNat : Int) < 240) (h1 : 1 < s.size) (h2 : 2 < s.size) (p1 : (128 : Int) ≤ ((s[1]'h1).toNat : Int)) (q1 : ((s[1]'h1).toNat : Int) ≤ 191) (p2 : (128 : Int) ≤ ((s[2]'h2).toNat : Int)) (q2 : ((s[2]'h2).toNat : Int) ≤ 191) (v : Int) (hV : IsV3 s v) (hv : (57344 : Int) ≤ v) :
    Calls Tryd.prog 23 #[.string s] w fun e w' => e = .returned (.int .i64 3) ∧ w' = w := by
  have hvb := hV.nonneg h0 h1 h2
  have g0 : decide (((s[0]'h0).toNat : Int) < 128) = false := by simp; omega
  have g1 : decide ((194 : Int) ≤ ((s[0]'h0).toNat : Int)) = true := by simp; omega
  have g2 : decide (((s[0]'h0).toNat : Int) < 224) = false := by simp; omega
  have g3 : decide ((224 : Int) ≤ ((s[0]'h0).toNat : Int)) = true := by simp; omega
  have g4 : decide (((s[0]'h0).toNat : Int) < 240) = true := by simp; omega
  have g5 : decide ((s.size : Int) < 3) = false := by simp; omega
  have g6 : decide (((s[1]'h1).toNat : Int) < 128) = false := by simp; omega
  have g7 : decide ((191 : Int) < ((s[1]'h1).toNat : Int)) = false := by simp; omega
  have g8 : decide (((s[2]'h2).toNat : Int) < 128) = false := by simp; omega
  have g9 : decide ((191 : Int) < ((s[2]'h2).toNat : Int)) = false := by simp; omega
  have g10 : decide (v < 2048) = false := by simp; omega
  have g11 : decide ((1114111 : Int) < v) = false := by simp; omega
  have g12 : decide ((55296 : Int) ≤ v) = true := by simp; omega
  have g13 : decide (v < 57344) = false := by simp; omega
  go_enter Tryd.func23, Tryd.ntmps23
  go_wp2_with fail
  refine wp_loop_rounds 3 ?_
  rw [rounds_succ]
  go_wp2_with fail
  rw [rounds_succ]
  go_wp2_with fail
  rw [show ((((s[0]'h0).toNat : Int) % (16 : Int) * (64 : Int) + ((s[1]'h1).toNat : Int) % (64 : Int)) * (64 : Int) + ((s[2]'h2).toNat : Int) % (64 : Int)) = v from hV h0 h1 h2]
  rw [rounds_succ]
  go_wp2_with fail
  go_ret
  exact ⟨rfl, rfl⟩
set_option maxRecDepth 20000 in
set_option maxHeartbeats 1000000 in
theorem f4short (s : ByteArray) (w : World) (h0 : 0 < s.size) (ha : (240 : Int) ≤ ((s[0]'h0).toNat : Int)) (hb : ((s[0]'h0).toNat : Int) < 245) (hsz : (s.size : Int) < 4) :
    Calls Tryd.prog 23 #[.string s] w fun e w' => e = .returned (.int .i64 0) ∧ w' = w := by
  have g0 : decide (((s[0]'h0).toNat : Int) < 128) = false := by simp; omega
  have g1 : decide ((194 : Int) ≤ ((s[0]'h0).toNat : Int)) = true := by simp; omega
  have g2 : decide (((s[0]'h0).toNat : Int) < 224) = false := by simp; omega
  have g3 : decide ((224 : Int) ≤ ((s[0]'h0).toNat : Int)) = true := by simp; omega
  have g4 : decide (((s[0]'h0).toNat : Int) < 240) = false := by simp; omega
  have g5 : decide ((240 : Int) ≤ ((s[0]'h0).toNat : Int)) = true := by simp; omega
  have g6 : decide (((s[0]'h0).toNat : Int) < 245) = true := by simp; omega
  have g7 : decide ((s.size : Int) < 4) = true := by simp; omega
  go_enter Tryd.func23, Tryd.ntmps23
  go_wp2_with fail
  go_ret
  exact ⟨rfl, rfl⟩
set_option maxRecDepth 20000 in
set_option maxHeartbeats 1000000 in
theorem f4lo1 (s : ByteArray) (w : World) (h0 : 0 < s.size) (ha : (240 : Int) ≤ ((s[0]'h0).toNat : Int)) (hb : ((s[0]'h0).toNat : Int) < 245) (h1 : 1 < s.size) (h2 : 2 < s.size) (h3 : 3 < s.size) (p1 : ((s[1]'h1).toNat : Int) < 128) :
    Calls Tryd.prog 23 #[.string s] w fun e w' => e = .returned (.int .i64 0) ∧ w' = w := by
  have g0 : decide (((s[0]'h0).toNat : Int) < 128) = false := by simp; omega
  have g1 : decide ((194 : Int) ≤ ((s[0]'h0).toNat : Int)) = true := by simp; omega
  have g2 : decide (((s[0]'h0).toNat : Int) < 224) = false := by simp; omega
  have g3 : decide ((224 : Int) ≤ ((s[0]'h0).toNat : Int)) = true := by simp; omega
  have g4 : decide (((s[0]'h0).toNat : Int) < 240) = false := by simp; omega
  have g5 : decide ((240 : Int) ≤ ((s[0]'h0).toNat : Int)) = true := by simp; omega
  have g6 : decide (((s[0]'h0).toNat : Int) < 245) = true := by simp; omega
  have g7 : decide ((s.size : Int) < 4) = false := by simp; omega
  have g8 : decide (((s[1]'h1).toNat : Int) < 128) = true := by simp; omega
  go_enter Tryd.func23, Tryd.ntmps23
  go_wp2_with fail
  refine wp_loop_rounds 4 ?_
  rw [rounds_succ]
  go_wp2_with fail
  go_ret
  exact ⟨rfl, rfl⟩
set_option maxRecDepth 20000 in
set_option maxHeartbeats 1000000 in
theorem f4hi1 (s : ByteArray) (w : World) (h0 : 0 < s.size) (ha : (240 : Int) ≤ ((s[0]'h0).toNat : Int)) (hb : ((s[0]'h0).toNat : Int) < 245) (h1 : 1 < s.size) (h2 : 2 < s.size) (h3 : 3 < s.size) (p1 : (191 : Int) < ((s[1]'h1).toNat : Int)) :
    Calls Tryd.prog 23 #[.string s] w fun e w' => e = .returned (.int .i64 0) ∧ w' = w := by
  have g0 : decide (((s[0]'h0).toNat : Int) < 128) = false := by simp; omega
  have g1 : decide ((194 : Int) ≤ ((s[0]'h0).toNat : Int)) = true := by simp; omega
  have g2 : decide (((s[0]'h0).toNat : Int) < 224) = false := by simp; omega
  have g3 : decide ((224 : Int) ≤ ((s[0]'h0).toNat : Int)) = true := by simp; omega
  have g4 : decide (((s[0]'h0).toNat : Int) < 240) = false := by simp; omega
  have g5 : decide ((240 : Int) ≤ ((s[0]'h0).toNat : Int)) = true := by simp; omega
  have g6 : decide (((s[0]'h0).toNat : Int) < 245) = true := by simp; omega
  have g7 : decide ((s.size : Int) < 4) = false := by simp; omega
  have g8 : decide (((s[1]'h1).toNat : Int) < 128) = false := by simp; omega
  have g9 : decide ((191 : Int) < ((s[1]'h1).toNat : Int)) = true := by simp; omega
  go_enter Tryd.func23, Tryd.ntmps23
  go_wp2_with fail
  refine wp_loop_rounds 4 ?_
  rw [rounds_succ]
  go_wp2_with fail
  go_ret
  exact ⟨rfl, rfl⟩
set_option maxRecDepth 20000 in
set_option maxHeartbeats 1000000 in
theorem f4lo2 (s : ByteArray) (w : World) (h0 : 0 < s.size) (ha : (240 : Int) ≤ ((s[0]'h0).toNat : Int)) (hb : ((s[0]'h0).toNat : Int) < 245) (h1 : 1 < s.size) (h2 : 2 < s.size) (h3 : 3 < s.size) (p1 : (128 : Int) ≤ ((s[1]'h1).toNat : Int)) (q1 : ((s[1]'h1).toNat : Int) ≤ 191) (p2 : ((s[2]'h2).toNat : Int) < 128) :
    Calls Tryd.prog 23 #[.string s] w fun e w' => e = .returned (.int .i64 0) ∧ w' = w := by
  have g0 : decide (((s[0]'h0).toNat : Int) < 128) = false := by simp; omega
  have g1 : decide ((194 : Int) ≤ ((s[0]'h0).toNat : Int)) = true := by simp; omega
  have g2 : decide (((s[0]'h0).toNat : Int) < 224) = false := by simp; omega
  have g3 : decide ((224 : Int) ≤ ((s[0]'h0).toNat : Int)) = true := by simp; omega
  have g4 : decide (((s[0]'h0).toNat : Int) < 240) = false := by simp; omega
  have g5 : decide ((240 : Int) ≤ ((s[0]'h0).toNat : Int)) = true := by simp; omega
  have g6 : decide (((s[0]'h0).toNat : Int) < 245) = true := by simp; omega
  have g7 : decide ((s.size : Int) < 4) = false := by simp; omega
  have g8 : decide (((s[1]'h1).toNat : Int) < 128) = false := by simp; omega
  have g9 : decide ((191 : Int) < ((s[1]'h1).toNat : Int)) = false := by simp; omega
  have g10 : decide (((s[2]'h2).toNat : Int) < 128) = true := by simp; omega
  go_enter Tryd.func23, Tryd.ntmps23
  go_wp2_with fail
  refine wp_loop_rounds 4 ?_
  rw [rounds_succ]
  go_wp2_with fail
  rw [rounds_succ]
  go_wp2_with fail
  go_ret
  exact ⟨rfl, rfl⟩
set_option maxRecDepth 20000 in
set_option maxHeartbeats 1000000 in
theorem f4hi2 (s : ByteArray) (w : World) (h0 : 0 < s.size) (ha : (240 : Int) ≤ ((s[0]'h0).toNat : Int)) (hb : ((s[0]'h0).toNat : Int) < 245) (h1 : 1 < s.size) (h2 : 2 < s.size) (h3 : 3 < s.size) (p1 : (128 : Int) ≤ ((s[1]'h1).toNat : Int)) (q1 : ((s[1]'h1).toNat : Int) ≤ 191) (p2 : (191 : Int) < ((s[2]'h2).toNat : Int)) :
    Calls Tryd.prog 23 #[.string s] w fun e w' => e = .returned (.int .i64 0) ∧ w' = w := by
  have g0 : decide (((s[0]'h0).toNat : Int) < 128) = false := by simp; omega
  have g1 : decide ((194 : Int) ≤ ((s[0]'h0).toNat : Int)) = true := by simp; omega
  have g2 : decide (((s[0]'h0).toNat : Int) < 224) = false := by simp; omega
  have g3 : decide ((224 : Int) ≤ ((s[0]'h0).toNat : Int)) = true := by simp; omega
  have g4 : decide (((s[0]'h0).toNat : Int) < 240) = false := by simp; omega
  have g5 : decide ((240 : Int) ≤ ((s[0]'h0).toNat : Int)) = true := by simp; omega
  have g6 : decide (((s[0]'h0).toNat : Int) < 245) = true := by simp; omega
  have g7 : decide ((s.size : Int) < 4) = false := by simp; omega
  have g8 : decide (((s[1]'h1).toNat : Int) < 128) = false := by simp; omega
  have g9 : decide ((191 : Int) < ((s[1]'h1).toNat : Int)) = false := by simp; omega
  have g10 : decide (((s[2]'h2).toNat : Int) < 128) = false := by simp; omega
  have g11 : decide ((191 : Int) < ((s[2]'h2).toNat : Int)) = true := by simp; omega
  go_enter Tryd.func23, Tryd.ntmps23
  go_wp2_with fail
  refine wp_loop_rounds 4 ?_
  rw [rounds_succ]
  go_wp2_with fail
  rw [rounds_succ]
  go_wp2_with fail
  go_ret
  exact ⟨rfl, rfl⟩
set_option maxRecDepth 20000 in
set_option maxHeartbeats 1000000 in
theorem f4lo3 (s : ByteArray) (w : World) (h0 : 0 < s.size) (ha : (240 : Int) ≤ ((s[0]'h0).toNat : Int)) (hb : ((s[0]'h0).toNat : Int) < 245) (h1 : 1 < s.size) (h2 : 2 < s.size) (h3 : 3 < s.size) (p1 : (128 : Int) ≤ ((s[1]'h1).toNat : Int)) (q1 : ((s[1]'h1).toNat : Int) ≤ 191) (p2 : (128 : Int) ≤ ((s[2]'h2).toNat : Int)) (q2 : ((s[2]'h2).toNat : Int) ≤ 191) (p3 : ((s[3]'h3).toNat : Int) < 128) :
    Calls Tryd.prog 23 #[.string s] w fun e w' => e = .returned (.int .i64 0) ∧ w' = w := by
  have g0 : decide (((s[0]'h0).toNat : Int) < 128) = false := by simp; omega
  have g1 : decide ((194 : Int) ≤ ((s[0]'h0).toNat : Int)) = true := by simp; omega
  have g2 : decide (((s[0]'h0).toNat : Int) < 224) = false := by simp; omega
  have g3 : decide ((224 : Int) ≤ ((s[0]'h0).toNat : Int)) = true := by simp; omega
  have g4 : decide (((s[0]'h0).toNat : Int) < 240) = false := by simp; omega
  have g5 : decide ((240 : Int) ≤ ((s[0]'h0).toNat : Int)) = true := by simp; omega
  have g6 : decide (((s[0]'h0).toNat : Int) < 245) = true := by simp; omega
  have g7 : decide ((s.size : Int) < 4) = false := by simp; omega
  have g8 : decide (((s[1]'h1).toNat : Int) < 128) = false := by simp; omega
  have g9 : decide ((191 : Int) < ((s[1]'h1).toNat : Int)) = false := by simp; omega
  have g10 : decide (((s[2]'h2).toNat : Int) < 128) = false := by simp; omega
  have g11 : decide ((191 : Int) < ((s[2]'h2).toNat : Int)) = false := by simp; omega
  have g12 : decide (((s[3]'h3).toNat : Int) < 128) = true := by simp; omega
  go_enter Tryd.func23, Tryd.ntmps23
  go_wp2_with fail
  refine wp_loop_rounds 4 ?_
  rw [rounds_succ]
  go_wp2_with fail
  rw [rounds_succ]
  go_wp2_with fail
  rw [rounds_succ]
  go_wp2_with fail
  go_ret
  exact ⟨rfl, rfl⟩
set_option maxRecDepth 20000 in
set_option maxHeartbeats 1000000 in
theorem f4hi3 (s : ByteArray) (w : World) (h0 : 0 < s.size) (ha : (240 : Int) ≤ ((s[0]'h0).toNat : Int)) (hb : ((s[0]'h0).toNat : Int) < 245) (h1 : 1 < s.size) (h2 : 2 < s.size) (h3 : 3 < s.size) (p1 : (128 : Int) ≤ ((s[1]'h1).toNat : Int)) (q1 : ((s[1]'h1).toNat : Int) ≤ 191) (p2 : (128 : Int) ≤ ((s[2]'h2).toNat : Int)) (q2 : ((s[2]'h2).toNat : Int) ≤ 191) (p3 : (191 : Int) < ((s[3]'h3).toNat : Int)) :
    Calls Tryd.prog 23 #[.string s] w fun e w' => e = .returned (.int .i64 0) ∧ w' = w := by
  have g0 : decide (((s[0]'h0).toNat : Int) < 128) = false := by simp; omega
  have g1 : decide ((194 : Int) ≤ ((s[0]'h0).toNat : Int)) = true := by simp; omega
  have g2 : decide (((s[0]'h0).toNat : Int) < 224) = false := by simp; omega
  have g3 : decide ((224 : Int) ≤ ((s[0]'h0).toNat : Int)) = true := by simp; omega
  have g4 : decide (((s[0]'h0).toNat : Int) < 240) = false := by simp; omega
  have g5 : decide ((240 : Int) ≤ ((s[0]'h0).toNat : Int)) = true := by simp; omega
  have g6 : decide (((s[0]'h0).toNat : Int) < 245) = true := by simp; omega
  have g7 : decide ((s.size : Int) < 4) = false := by simp; omega
  have g8 : decide (((s[1]'h1).toNat : Int) < 128) = false := by simp; omega
  have g9 : decide ((191 : Int) < ((s[1]'h1).toNat : Int)) = false := by simp; omega
  have g10 : decide (((s[2]'h2).toNat : Int) < 128) = false := by simp; omega
  have g11 : decide ((191 : Int) < ((s[2]'h2).toNat : Int)) = false := by simp; omega
  have g12 : decide (((s[3]'h3).toNat : Int) < 128) = false := by simp; omega
  have g13 : decide ((191 : Int) < ((s[3]'h3).toNat : Int)) = true := by simp; omega
  go_enter Tryd.func23, Tryd.ntmps23
  go_wp2_with fail
  refine wp_loop_rounds 4 ?_
  rw [rounds_succ]
  go_wp2_with fail
  rw [rounds_succ]
  go_wp2_with fail
  rw [rounds_succ]
  go_wp2_with fail
  go_ret
  exact ⟨rfl, rfl⟩
set_option maxRecDepth 20000 in
set_option maxHeartbeats 1000000 in
theorem f4low (s : ByteArray) (w : World) (h0 : 0 < s.size) (ha : (240 : Int) ≤ ((s[0]'h0).toNat : Int)) (hb : ((s[0]'h0).toNat : Int) < 245) (h1 : 1 < s.size) (h2 : 2 < s.size) (h3 : 3 < s.size) (p1 : (128 : Int) ≤ ((s[1]'h1).toNat : Int)) (q1 : ((s[1]'h1).toNat : Int) ≤ 191) (p2 : (128 : Int) ≤ ((s[2]'h2).toNat : Int)) (q2 : ((s[2]'h2).toNat : Int) ≤ 191) (p3 : (128 : Int) ≤ ((s[3]'h3).toNat : Int)) (q3 : ((s[3]'h3).toNat : Int) ≤ 191) (v : Int) (hV : IsV4 s v) (hv : v < 65536) :
    Calls Tryd.prog 23 #[.string s] w fun e w' => e = .returned (.int .i64 0) ∧ w' = w := by
  have hvb := hV.nonneg h0 h1 h2 h3
  have g0 : decide (((s[0]'h0).toNat : Int) < 128) = false := by simp; omega
  have g1 : decide ((194 : Int) ≤ ((s[0]'h0).toNat : Int)) = true := by simp; omega
  have g2 : decide (((s[0]'h0).toNat : Int) < 224) = false := by simp; omega
  have g3 : decide ((224 : Int) ≤ ((s[0]'h0).toNat : Int)) = true := by simp; omega
  have g4 : decide (((s[0]'h0).toNat : Int) < 240) = false := by simp; omega
  have g5 : decide ((240 : Int) ≤ ((s[0]'h0).toNat : Int)) = true := by simp; omega
  have g6 : decide (((s[0]'h0).toNat : Int) < 245) = true := by simp; omega
  have g7 : decide ((s.size : Int) < 4) = false := by simp; omega
  have g8 : decide (((s[1]'h1).toNat : Int) < 128) = false := by simp; omega
  have g9 : decide ((191 : Int) < ((s[1]'h1).toNat : Int)) = false := by simp; omega
  have g10 : decide (((s[2]'h2).toNat : Int) < 128) = false := by simp; omega
  have g11 : decide ((191 : Int) < ((s[2]'h2).toNat : Int)) = false := by simp; omega
  have g12 : decide (((s[3]'h3).toNat : Int) < 128) = false := by simp; omega
  have g13 : decide ((191 : Int) < ((s[3]'h3).toNat : Int)) = false := by simp; omega
  have g14 : decide (v < 65536) = true := by simp; omega
  go_enter Tryd.func23, Tryd.ntmps23
  go_wp2_with fail
  refine wp_loop_rounds 4 ?_
  rw [rounds_succ]
  go_wp2_with fail
  rw [rounds_succ]
  go_wp2_with fail
  rw [rounds_succ]
  go_wp2_with fail
  rw [show (((((s[0]'h0).toNat : Int) % (8 : Int) * (64 : Int) + ((s[1]'h1).toNat : Int) % (64 : Int)) * (64 : Int) + ((s[2]'h2).toNat : Int) % (64 : Int)) * (64 : Int) + ((s[3]'h3).toNat : Int) % (64 : Int)) = v from hV h0 h1 h2 h3]
  rw [rounds_succ]
  go_wp2_with fail
  go_ret
  exact ⟨rfl, rfl⟩
set_option maxRecDepth 20000 in
set_option maxHeartbeats 1000000 in
theorem f4high (s : ByteArray) (w : World) (h0 : 0 < s.size) (ha : (240 : Int) ≤ ((s[0]'h0).toNat : Int)) (hb : ((s[0]'h0).toNat : Int) < 245) (h1 : 1 < s.size) (h2 : 2 < s.size) (h3 : 3 < s.size) (p1 : (128 : Int) ≤ ((s[1]'h1).toNat : Int)) (q1 : ((s[1]'h1).toNat : Int) ≤ 191) (p2 : (128 : Int) ≤ ((s[2]'h2).toNat : Int)) (q2 : ((s[2]'h2).toNat : Int) ≤ 191) (p3 : (128 : Int) ≤ ((s[3]'h3).toNat : Int)) (q3 : ((s[3]'h3).toNat : Int) ≤ 191) (v : Int) (hV : IsV4 s v) (hv : (1114111 : Int) < v) :
    Calls Tryd.prog 23 #[.string s] w fun e w' => e = .returned (.int .i64 0) ∧ w' = w := by
  have hvb := hV.nonneg h0 h1 h2 h3
  have g0 : decide (((s[0]'h0).toNat : Int) < 128) = false := by simp; omega
  have g1 : decide ((194 : Int) ≤ ((s[0]'h0).toNat : Int)) = true := by simp; omega
  have g2 : decide (((s[0]'h0).toNat : Int) < 224) = false := by simp; omega
  have g3 : decide ((224 : Int) ≤ ((s[0]'h0).toNat : Int)) = true := by simp; omega
  have g4 : decide (((s[0]'h0).toNat : Int) < 240) = false := by simp; omega
  have g5 : decide ((240 : Int) ≤ ((s[0]'h0).toNat : Int)) = true := by simp; omega
  have g6 : decide (((s[0]'h0).toNat : Int) < 245) = true := by simp; omega
  have g7 : decide ((s.size : Int) < 4) = false := by simp; omega
  have g8 : decide (((s[1]'h1).toNat : Int) < 128) = false := by simp; omega
  have g9 : decide ((191 : Int) < ((s[1]'h1).toNat : Int)) = false := by simp; omega
  have g10 : decide (((s[2]'h2).toNat : Int) < 128) = false := by simp; omega
  have g11 : decide ((191 : Int) < ((s[2]'h2).toNat : Int)) = false := by simp; omega
  have g12 : decide (((s[3]'h3).toNat : Int) < 128) = false := by simp; omega
  have g13 : decide ((191 : Int) < ((s[3]'h3).toNat : Int)) = false := by simp; omega
  have g14 : decide (v < 65536) = false := by simp; omega
  have g15 : decide ((1114111 : Int) < v) = true := by simp; omega
  go_enter Tryd.func23, Tryd.ntmps23
  go_wp2_with fail
  refine wp_loop_rounds 4 ?_
  rw [rounds_succ]
  go_wp2_with fail
  rw [rounds_succ]
  go_wp2_with fail
  rw [rounds_succ]
  go_wp2_with fail
  rw [show (((((s[0]'h0).toNat : Int) % (8 : Int) * (64 : Int) + ((s[1]'h1).toNat : Int) % (64 : Int)) * (64 : Int) + ((s[2]'h2).toNat : Int) % (64 : Int)) * (64 : Int) + ((s[3]'h3).toNat : Int) % (64 : Int)) = v from hV h0 h1 h2 h3]
  rw [rounds_succ]
  go_wp2_with fail
  go_ret
  exact ⟨rfl, rfl⟩
set_option maxRecDepth 20000 in
set_option maxHeartbeats 1000000 in
theorem f4ok (s : ByteArray) (w : World) (h0 : 0 < s.size) (ha : (240 : Int) ≤ ((s[0]'h0).toNat : Int)) (hb : ((s[0]'h0).toNat : Int) < 245) (h1 : 1 < s.size) (h2 : 2 < s.size) (h3 : 3 < s.size) (p1 : (128 : Int) ≤ ((s[1]'h1).toNat : Int)) (q1 : ((s[1]'h1).toNat : Int) ≤ 191) (p2 : (128 : Int) ≤ ((s[2]'h2).toNat : Int)) (q2 : ((s[2]'h2).toNat : Int) ≤ 191) (p3 : (128 : Int) ≤ ((s[3]'h3).toNat : Int)) (q3 : ((s[3]'h3).toNat : Int) ≤ 191) (v : Int) (hV : IsV4 s v) (hv : (65536 : Int) ≤ v) (hv2 : v ≤ 1114111) :
    Calls Tryd.prog 23 #[.string s] w fun e w' => e = .returned (.int .i64 4) ∧ w' = w := by
  have hvb := hV.nonneg h0 h1 h2 h3
  have g0 : decide (((s[0]'h0).toNat : Int) < 128) = false := by simp; omega
  have g1 : decide ((194 : Int) ≤ ((s[0]'h0).toNat : Int)) = true := by simp; omega
  have g2 : decide (((s[0]'h0).toNat : Int) < 224) = false := by simp; omega
  have g3 : decide ((224 : Int) ≤ ((s[0]'h0).toNat : Int)) = true := by simp; omega
  have g4 : decide (((s[0]'h0).toNat : Int) < 240) = false := by simp; omega
  have g5 : decide ((240 : Int) ≤ ((s[0]'h0).toNat : Int)) = true := by simp; omega
  have g6 : decide (((s[0]'h0).toNat : Int) < 245) = true := by simp; omega
  have g7 : decide ((s.size : Int) < 4) = false := by simp; omega
  have g8 : decide (((s[1]'h1).toNat : Int) < 128) = false := by simp; omega
  have g9 : decide ((191 : Int) < ((s[1]'h1).toNat : Int)) = false := by simp; omega
  have g10 : decide (((s[2]'h2).toNat : Int) < 128) = false := by simp; omega
  have g11 : decide ((191 : Int) < ((s[2]'h2).toNat : Int)) = false := by simp; omega
  have g12 : decide (((s[3]'h3).toNat : Int) < 128) = false := by simp; omega
  have g13 : decide ((191 : Int) < ((s[3]'h3).toNat : Int)) = false := by simp; omega
  have g14 : decide (v < 65536) = false := by simp; omega
  have g15 : decide ((1114111 : Int) < v) = false := by simp; omega
  have g16 : decide ((55296 : Int) ≤ v) = true := by simp; omega
  have g17 : decide (v < 57344) = false := by simp; omega
  go_enter Tryd.func23, Tryd.ntmps23
  go_wp2_with fail
  refine wp_loop_rounds 4 ?_
  rw [rounds_succ]
  go_wp2_with fail
  rw [rounds_succ]
  go_wp2_with fail
  rw [rounds_succ]
  go_wp2_with fail
  rw [show (((((s[0]'h0).toNat : Int) % (8 : Int) * (64 : Int) + ((s[1]'h1).toNat : Int) % (64 : Int)) * (64 : Int) + ((s[2]'h2).toNat : Int) % (64 : Int)) * (64 : Int) + ((s[3]'h3).toNat : Int) % (64 : Int)) = v from hV h0 h1 h2 h3]
  rw [rounds_succ]
  go_wp2_with fail
  go_ret
  exact ⟨rfl, rfl⟩
set_option maxRecDepth 20000 in
set_option maxHeartbeats 1000000 in
theorem fbadA (s : ByteArray) (w : World) (h0 : 0 < s.size) (ha : (128 : Int) ≤ ((s[0]'h0).toNat : Int)) (hb : ((s[0]'h0).toNat : Int) < 194) :
    Calls Tryd.prog 23 #[.string s] w fun e w' => e = .returned (.int .i64 0) ∧ w' = w := by
  have g0 : decide (((s[0]'h0).toNat : Int) < 128) = false := by simp; omega
  have g1 : decide ((194 : Int) ≤ ((s[0]'h0).toNat : Int)) = false := by simp; omega
  have g2 : decide (((s[0]'h0).toNat : Int) < 224) = true := by simp; omega
  have g3 : decide ((224 : Int) ≤ ((s[0]'h0).toNat : Int)) = false := by simp; omega
  have g4 : decide (((s[0]'h0).toNat : Int) < 240) = true := by simp; omega
  have g5 : decide ((240 : Int) ≤ ((s[0]'h0).toNat : Int)) = false := by simp; omega
  have g6 : decide (((s[0]'h0).toNat : Int) < 245) = true := by simp; omega
  go_enter Tryd.func23, Tryd.ntmps23
  go_wp2_with fail
  go_ret
  exact ⟨rfl, rfl⟩
set_option maxRecDepth 20000 in
set_option maxHeartbeats 1000000 in
theorem fbadB (s : ByteArray) (w : World) (h0 : 0 < s.size) (ha : (245 : Int) ≤ ((s[0]'h0).toNat : Int)) (hb : ((s[0]'h0).toNat : Int) < 256) :
    Calls Tryd.prog 23 #[.string s] w fun e w' => e = .returned (.int .i64 0) ∧ w' = w := by
  have g0 : decide (((s[0]'h0).toNat : Int) < 128) = false := by simp; omega
  have g1 : decide ((194 : Int) ≤ ((s[0]'h0).toNat : Int)) = true := by simp; omega
  have g2 : decide (((s[0]'h0).toNat : Int) < 224) = false := by simp; omega
  have g3 : decide ((224 : Int) ≤ ((s[0]'h0).toNat : Int)) = true := by simp; omega
  have g4 : decide (((s[0]'h0).toNat : Int) < 240) = false := by simp; omega
  have g5 : decide ((240 : Int) ≤ ((s[0]'h0).toNat : Int)) = true := by simp; omega
  have g6 : decide (((s[0]'h0).toNat : Int) < 245) = false := by simp; omega
  go_enter Tryd.func23, Tryd.ntmps23
  go_wp2_with fail
  go_ret
  exact ⟨rfl, rfl⟩
end Go.Proofs.YtomeocofnbnegaaDoor
