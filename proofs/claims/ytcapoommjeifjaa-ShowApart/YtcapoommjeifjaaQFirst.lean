import Derived.Test.YtcapoommjeifjaaQHas
import Derived.Test.YtcapoommjeifjaaQLies
import Derived.WalkKit
import Derived.WalkSpells
import Derived.WalkLawsBesides
namespace Go.Proofs.Ytcapoommjeifjaa
open Go.RowKit
theorem ret_int {k : IntKind} {a b : Int} (h : a = b) : Ending.returned (.int k a) = .returned (.int k b) := by rw [h]
def ff (S : BitVec 256) : Nat → Nat → Int
  | _, 0 => -1
  | a, n + 1 => if inS S a then (a : Int) else ff S (a + 1) n
def fst (S : BitVec 256) (a : Int) : Int := ff S a.toNat (256 - a.toNat)
theorem fst_yes (S : BitVec 256) (k : Nat) (hk : k < 256) (h : inS S k = true) : fst S k = k := by
  unfold fst
  rw [Int.toNat_natCast, show 256 - k = (255 - k) + 1 from by omega, ff, if_pos h]
theorem fst_no (S : BitVec 256) (k : Nat) (hk : k < 256) (h : inS S k = false) : fst S k = fst S ((k + 1 : Nat) : Int) := by
  unfold fst
  rw [Int.toNat_natCast, Int.toNat_natCast, show 256 - k = (256 - (k + 1)) + 1 from by omega, ff, if_neg (by simp [h])]
theorem fst_out (S : BitVec 256) (k : Nat) (hk : 255 < k) : fst S k = -1 := by
  unfold fst
  rw [Int.toNat_natCast, show 256 - k = 0 from by omega, ff]
set_option maxHeartbeats 400000 in
theorem first_any (S : BitVec 256) (a : Int) (w : World) :
    Calls Try.prog 66 #[.agg #[.int .u64 (wd S 0), .int .u64 (wd S 1), .int .u64 (wd S 2), .int .u64 (wd S 3)], .int .i64 a] w fun e w' => e = .returned (.int .i64 (fst S a)) ∧ Below w.heap.size w w' := by
  by_cases h0 : a < 0
  all_goals go_enter Try.func66, Try.ntmps66
  all_goals go_wp2_with fail
  all_goals (
    go_loopw [5] (fun b wx => ∃ k : Nat, b = .int .i64 k ∧ Hid (fst S k = fst S a) ∧ Below w.heap.size w wx ∧ Lies wx w.heap.size #[.int .u64 (wd S 0), .int .u64 (wd S 1), .int .u64 (wd S 2), .int .u64 (wd S 3)]) (fun b _ => 256 - (intOf b).toNat)
    case atStart =>
      first
      | exact ⟨0, rfl, by unfold fst Hid; rw [show a.toNat = 0 from by omega]; rfl, (Below.refl _ _).alloc (Nat.le_refl _) _, Lies.new _ _⟩
      | exact ⟨a.toNat, by rw [Int.toNat_of_nonneg (by omega)], by unfold Hid; rw [Int.toNat_of_nonneg (by omega)], (Below.refl _ _).alloc (Nat.le_refl _) _, Lies.new _ _⟩
    case round =>
      obtain ⟨k, rfl, HS, hB, hL⟩ := hrel
      by_cases hh : (k : Int) ≤ 255
      · have hc := hL.cell
        cases hi : inS S k
        · have HI : Hid (inS S k = false) := hi
          clear hi
          go_wp2_with fail
          refine (has_any S k _ (by omega)).mono ?_
          rintro e w1 ⟨rfl, hb⟩
          rw [HI.out]
          go_wp2_with fail
          exact ⟨⟨k + 1, by go_num, by unfold Hid; rw [← fst_no S k (by omega) HI.out]; exact HS.out, hB.trans (hb.mono (by have := hL.lt; omega)), hL.below hb hL.lt⟩, by simp [intOf]; omega⟩
        · have HI : Hid (inS S k = true) := hi
          clear hi
          go_wp2_with fail
          refine (has_any S k _ (by omega)).mono ?_
          rintro e w1 ⟨rfl, hb⟩
          rw [HI.out]
          go_wp2_with fail
          go_ret
          exact ⟨ret_int (by rw [← HS.out, fst_yes S k (by omega) HI.out]), hB.trans (hb.mono (by have := hL.lt; omega))⟩
      · go_wp2_with fail
        go_ret
        exact ⟨ret_int (by rw [← HS.out, fst_out S k (by omega)]), hB⟩)
end Go.Proofs.Ytcapoommjeifjaa
