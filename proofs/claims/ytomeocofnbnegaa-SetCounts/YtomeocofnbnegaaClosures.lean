import Derived.Test.YtomeocofnbnegaaWhere
import Derived.WalkKit
import Derived.WalkSpells
import Derived.WalkLawsBesides
import Derived.Deep.RegionWith
import Derived.BigRegion
namespace Go.Proofs.Ytomeocofnbnegaa
open Go.RowKit
attribute [local go_sem] setCell_drewN alloc_drewN

set_option maxHeartbeats 1000000 in
theorem clo17 (S T : BitVec 256) (N M k : Nat) (w : World) (hk : k < 256)
    (hS : Lies w N #[.int .u64 (wd S 0), .int .u64 (wd S 1), .int .u64 (wd S 2), .int .u64 (wd S 3)])
    (hT : Lies w M #[.int .u64 (wd T 0), .int .u64 (wd T 1), .int .u64 (wd T 2), .int .u64 (wd T 3)]) :
    Calls Try.prog 17 #[.int .i64 k, .pointer (some ⟨N, 0, none⟩), .pointer (some ⟨M, 0, none⟩)] w fun e w' => e = .returned (.bool (inS S k || inS T k)) ∧ Below w.heap.size w w' := by
  have cS := hS.cell
  have cT := hT.cell
  cases hs : inS S k
  · go_enter Try.func17, Try.ntmps17
    go_wp2_with fail
    refine (rhas_any S k _ hk).mono ?_
    rintro e w1 ⟨rfl, hb⟩
    simp only [hs]
    have cT1 := (hT.below hb hT.lt).cell
    go_wp2_with fail
    refine (rhas_any T k _ hk).mono ?_
    rintro e w2 ⟨rfl, hb2⟩
    go_wp2_with fail
    go_ret
    exact ⟨by simp, hb.trans (hb2.mono hb.size)⟩
  · go_enter Try.func17, Try.ntmps17
    go_wp2_with fail
    refine (rhas_any S k _ hk).mono ?_
    rintro e w1 ⟨rfl, hb⟩
    simp only [hs]
    go_wp2_with fail
    go_ret
    exact ⟨by simp, hb⟩
set_option maxHeartbeats 1000000 in
theorem clo19 (S T : BitVec 256) (N M k : Nat) (w : World) (hk : k < 256)
    (hS : Lies w N #[.int .u64 (wd S 0), .int .u64 (wd S 1), .int .u64 (wd S 2), .int .u64 (wd S 3)])
    (hT : Lies w M #[.int .u64 (wd T 0), .int .u64 (wd T 1), .int .u64 (wd T 2), .int .u64 (wd T 3)]) :
    Calls Try.prog 19 #[.int .i64 k, .pointer (some ⟨N, 0, none⟩), .pointer (some ⟨M, 0, none⟩)] w fun e w' => e = .returned (.bool (inS S k && inS T k)) ∧ Below w.heap.size w w' := by
  have cS := hS.cell
  have cT := hT.cell
  cases hs : inS S k
  · go_enter Try.func19, Try.ntmps19
    go_wp2_with fail
    refine (rhas_any S k _ hk).mono ?_
    rintro e w1 ⟨rfl, hb⟩
    simp only [hs]
    go_wp2_with fail
    go_ret
    exact ⟨by simp, hb⟩
  · go_enter Try.func19, Try.ntmps19
    go_wp2_with fail
    refine (rhas_any S k _ hk).mono ?_
    rintro e w1 ⟨rfl, hb⟩
    simp only [hs]
    have cT1 := (hT.below hb hT.lt).cell
    go_wp2_with fail
    refine (rhas_any T k _ hk).mono ?_
    rintro e w2 ⟨rfl, hb2⟩
    go_wp2_with fail
    go_ret
    exact ⟨by simp, hb.trans (hb2.mono hb.size)⟩
set_option maxHeartbeats 1000000 in
theorem clo21 (S : BitVec 256) (N k : Nat) (w : World) (hk : k < 256)
    (hS : Lies w N #[.int .u64 (wd S 0), .int .u64 (wd S 1), .int .u64 (wd S 2), .int .u64 (wd S 3)]) :
    Calls Try.prog 21 #[.int .i64 k, .pointer (some ⟨N, 0, none⟩)] w fun e w' => e = .returned (.bool (!inS S k)) ∧ Below w.heap.size w w' := by
  have cS := hS.cell
  go_enter Try.func21, Try.ntmps21
  go_wp2_with fail
  refine (rhas_any S k _ hk).mono ?_
  rintro e w1 ⟨rfl, hb⟩
  go_wp2_with fail
  go_ret
  exact ⟨rfl, hb⟩
end Go.Proofs.Ytomeocofnbnegaa
