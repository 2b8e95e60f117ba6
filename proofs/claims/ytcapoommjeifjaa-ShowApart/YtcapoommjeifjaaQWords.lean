import Derived.Test.YtcapoommjeifjaaProg
import Derived.Test.YtcapoommjeifjaaBits
import Derived.WalkKit
import Derived.WalkSpells
import Derived.WalkLawsBesides
import Derived.Deep.RegionWith
import Derived.BigRegion
namespace Go.Proofs.Ytcapoommjeifjaa
open Go.RowKit

theorem setCell_drewN (w : World) (n : Nat) (a : Addr) (v : Value) : (w.drewN n).setCell a v = (w.setCell a v).drewN n := rfl
theorem alloc_drewN (w : World) (n : Nat) (o : Obj) : (w.drewN n).alloc o = (w.alloc o).drewN n := rfl
theorem drewN_drewN (w : World) (n m : Nat) : (w.drewN n).drewN m = w.drewN (n + m) := by simp [World.drewN, Nat.add_assoc]
theorem drewN_drew (w : World) (n : Nat) : (w.drewN n).drew = w.drewN (n + 1) := rfl
theorem below4 (w : World) (a b c d : Obj) (n : Nat) : Below w.heap.size w (((((w.alloc a).alloc b).alloc c).alloc d).drewN n) :=
  below_drewN (((((Below.refl _ _).alloc (Nat.le_refl _) _).alloc (by simp) _).alloc (by simp; omega) _).alloc (by simp; omega) _) _
attribute [local go_sem] setCell_drewN alloc_drewN

set_option maxHeartbeats 400000 in
set_option maxHeartbeats 400000 in
theorem andNot_any (a b : Int) (w : World) :
    Calls Try.prog 65 #[.int .u64 a, .int .u64 b] w fun e w' => e = .returned (.int .u64 (bits .andNot .u64 a b)) ∧ w' = w := by
  go_enter Try.func65, Try.ntmps65
  go_wp2
  go_ret
  exact ⟨rfl, rfl⟩

set_option maxHeartbeats 4000000 in
set_option maxHeartbeats 4000000 in
theorem wbw_andNot (s0 s1 s2 s3 t0 t1 t2 t3 : Int) (w : World) :
    Calls Try.prog 63 #[.agg #[.int .u64 s0, .int .u64 s1, .int .u64 s2, .int .u64 s3], .agg #[.int .u64 t0, .int .u64 t1, .int .u64 t2, .int .u64 t3], .func (.func 65) #[] #[]] w fun e w' => e = .returned (.agg #[.int .u64 (bits .andNot .u64 s0 t0), .int .u64 (bits .andNot .u64 s1 t1), .int .u64 (bits .andNot .u64 s2 t2), .int .u64 (bits .andNot .u64 s3 t3)]) ∧ Below w.heap.size w w' := by
  go_enter Try.func63, Try.ntmps63
  go_wp2_with fail
  go_loopw [8, 9] (fun _ i wx => ∃ (n : Nat) (x0 x1 x2 x3 : Int), wx = ((((w.alloc (.cells #[.int .u64 s0, .int .u64 s1, .int .u64 s2, .int .u64 s3] 24)).alloc (.cells #[.int .u64 t0, .int .u64 t1, .int .u64 t2, .int .u64 t3] 24)).alloc (.cells #[.int .u64 0, .int .u64 0, .int .u64 0, .int .u64 0] 24)).alloc (.cells #[.int .u64 x0, .int .u64 x1, .int .u64 x2, .int .u64 x3] 24)).drewN n ∧ ((i = .int .i64 0 ∧ x0 = 0 ∧ x1 = 0 ∧ x2 = 0 ∧ x3 = 0) ∨ (i = .int .i64 1 ∧ x0 = (bits .andNot .u64 s0 t0) ∧ x1 = 0 ∧ x2 = 0 ∧ x3 = 0) ∨ (i = .int .i64 2 ∧ x0 = (bits .andNot .u64 s0 t0) ∧ x1 = (bits .andNot .u64 s1 t1) ∧ x2 = 0 ∧ x3 = 0) ∨ (i = .int .i64 3 ∧ x0 = (bits .andNot .u64 s0 t0) ∧ x1 = (bits .andNot .u64 s1 t1) ∧ x2 = (bits .andNot .u64 s2 t2) ∧ x3 = 0) ∨ (i = .int .i64 4 ∧ x0 = (bits .andNot .u64 s0 t0) ∧ x1 = (bits .andNot .u64 s1 t1) ∧ x2 = (bits .andNot .u64 s2 t2) ∧ x3 = (bits .andNot .u64 s3 t3)))) (fun _ i _ => 4 - (intOf i).toNat)
  case atStart => exact ⟨0, 0, 0, 0, 0, rfl, .inl ⟨rfl, rfl, rfl, rfl, rfl⟩⟩
  case round =>
    obtain ⟨n, x0, x1, x2, x3, rfl, ⟨rfl, rfl, rfl, rfl, rfl⟩ | ⟨rfl, rfl, rfl, rfl, rfl⟩ | ⟨rfl, rfl, rfl, rfl, rfl⟩ | ⟨rfl, rfl, rfl, rfl, rfl⟩ | ⟨rfl, rfl, rfl, rfl, rfl⟩⟩ := hrel
    · go_wp2_with fail
      go_region_with (go_at_call 65; refine (andNot_any _ _ _).mono ?_; rintro e w' ⟨rfl, rfl⟩)
      all_goals (go_wp2_with fail)
      all_goals (go_roundw)
      all_goals first | exact ⟨n + 1, _, _, _, _, rfl, .inr (.inl ⟨rfl, rfl, rfl, rfl, rfl⟩)⟩ | (simp [intOf])
    · go_wp2_with fail
      go_region_with (go_at_call 65; refine (andNot_any _ _ _).mono ?_; rintro e w' ⟨rfl, rfl⟩)
      all_goals (go_wp2_with fail)
      all_goals (go_roundw)
      all_goals first | exact ⟨n + 1, _, _, _, _, rfl, .inr (.inr (.inl ⟨rfl, rfl, rfl, rfl, rfl⟩))⟩ | (simp [intOf])
    · go_wp2_with fail
      go_region_with (go_at_call 65; refine (andNot_any _ _ _).mono ?_; rintro e w' ⟨rfl, rfl⟩)
      all_goals (go_wp2_with fail)
      all_goals (go_roundw)
      all_goals first | exact ⟨n + 1, _, _, _, _, rfl, .inr (.inr (.inr (.inl ⟨rfl, rfl, rfl, rfl, rfl⟩)))⟩ | (simp [intOf])
    · go_wp2_with fail
      go_region_with (go_at_call 65; refine (andNot_any _ _ _).mono ?_; rintro e w' ⟨rfl, rfl⟩)
      all_goals (go_wp2_with fail)
      all_goals (go_roundw)
      all_goals first | exact ⟨n + 1, _, _, _, _, rfl, .inr (.inr (.inr (.inr (⟨rfl, rfl, rfl, rfl, rfl⟩))))⟩ | (simp [intOf])
    · go_wp2_with fail
      exact bodyPost_ret (v := .agg #[.int .u64 (bits .andNot .u64 s0 t0), .int .u64 (bits .andNot .u64 s1 t1), .int .u64 (bits .andNot .u64 s2 t2), .int .u64 (bits .andNot .u64 s3 t3)]) (by simp [results, Try.results63, go_sem]) rfl ⟨rfl, below4 _ _ _ _ _ _⟩

theorem wbwS_andNot (S T : BitVec 256) (w : World) :
    Calls Try.prog 63 #[.agg #[.int .u64 (wd S 0), .int .u64 (wd S 1), .int .u64 (wd S 2), .int .u64 (wd S 3)], .agg #[.int .u64 (wd T 0), .int .u64 (wd T 1), .int .u64 (wd T 2), .int .u64 (wd T 3)], .func (.func 65) #[] #[]] w fun e w' => e = .returned (.agg #[.int .u64 (wd (S &&& ~~~T) 0), .int .u64 (wd (S &&& ~~~T) 1), .int .u64 (wd (S &&& ~~~T) 2), .int .u64 (wd (S &&& ~~~T) 3)]) ∧ Below w.heap.size w w' := by
  have h := wbw_andNot (wd S 0) (wd S 1) (wd S 2) (wd S 3) (wd T 0) (wd T 1) (wd T 2) (wd T 3) w
  rw [bits_andNot_wd S T 0 (by omega), bits_andNot_wd S T 1 (by omega), bits_andNot_wd S T 2 (by omega), bits_andNot_wd S T 3 (by omega)] at h
  exact h
end Go.Proofs.Ytcapoommjeifjaa
