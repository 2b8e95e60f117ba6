import Derived.Test.YtomeocofnbnegaaEq
import Derived.WalkKit
import Derived.WalkSpells
import Derived.WalkLawsBesides
import Derived.Deep.RegionHeld3
namespace Go.Proofs.Ytomeocofnbnegaa
open Go.RowKit
attribute [local go_sem] setCell_drewN alloc_drewN eq_arr

def Keeps (w : World) (S T U : BitVec 256) (w' : World) : Prop := Below w.heap.size w w' ∧ w.heap.size + 2 < w'.heap.size ∧ w'.cell? ⟨w.heap.size, 0, none⟩ = some (.int .u64 (wd S 0)) ∧ w'.cell? ⟨w.heap.size, 1, none⟩ = some (.int .u64 (wd S 1)) ∧ w'.cell? ⟨w.heap.size, 2, none⟩ = some (.int .u64 (wd S 2)) ∧ w'.cell? ⟨w.heap.size, 3, none⟩ = some (.int .u64 (wd S 3)) ∧ w'.cell? ⟨w.heap.size + 1, 0, none⟩ = some (.int .u64 (wd T 0)) ∧ w'.cell? ⟨w.heap.size + 1, 1, none⟩ = some (.int .u64 (wd T 1)) ∧ w'.cell? ⟨w.heap.size + 1, 2, none⟩ = some (.int .u64 (wd T 2)) ∧ w'.cell? ⟨w.heap.size + 1, 3, none⟩ = some (.int .u64 (wd T 3)) ∧ w'.cell? ⟨w.heap.size + 1 + 1, 0, none⟩ = some (.int .u64 (wd U 0)) ∧ w'.cell? ⟨w.heap.size + 1 + 1, 1, none⟩ = some (.int .u64 (wd U 1)) ∧ w'.cell? ⟨w.heap.size + 1 + 1, 2, none⟩ = some (.int .u64 (wd U 2)) ∧ w'.cell? ⟨w.heap.size + 1 + 1, 3, none⟩ = some (.int .u64 (wd U 3))
theorem keeps_call {w W w' : World} {S T U : BitVec 256} (h : Keeps w S T U W) (hb : Below W.heap.size W w') : Keeps w S T U w' := by
  obtain ⟨hB, hz, h0, h1, h2, h3, h4, h5, h6, h7, h8, h9, h10, h11⟩ := h
  refine ⟨hB.trans (hb.mono (by omega)), Nat.lt_of_lt_of_le hz hb.size, ?_, ?_, ?_, ?_, ?_, ?_, ?_, ?_, ?_, ?_, ?_, ?_⟩
  all_goals (rw [hb.cell (by simp; omega)]; assumption)
theorem keeps_start (w : World) (S T U : BitVec 256) : Keeps w S T U (((w.alloc (.cells #[.int .u64 (wd S 0), .int .u64 (wd S 1), .int .u64 (wd S 2), .int .u64 (wd S 3)] 24)).alloc (.cells #[.int .u64 (wd T 0), .int .u64 (wd T 1), .int .u64 (wd T 2), .int .u64 (wd T 3)] 24)).alloc (.cells #[.int .u64 (wd U 0), .int .u64 (wd U 1), .int .u64 (wd U 2), .int .u64 (wd U 3)] 24)).drew := by
  refine ⟨((((Below.refl _ _).alloc (Nat.le_refl _) _).alloc (by simp) _).alloc (by simp; omega) _).drew, by simp, ?_, ?_, ?_, ?_, ?_, ?_, ?_, ?_, ?_, ?_, ?_, ?_⟩
  all_goals simp [go_sem]
theorem rng35 : rng 3 5 = 0x38#256 := by decide +kernel
theorem wd38 : wd 0x38#256 0 = 56 ∧ wd 0x38#256 1 = 0 ∧ wd 0x38#256 2 = 0 ∧ wd 0x38#256 3 = 0 := by decide +kernel
theorem or_full (S : BitVec 256) : S ||| ~~~S = rng 0 255 := by
  apply set_ext; intro i hi
  unfold rng
  rw [getLsbD_upto _ _ _ hi, BitVec.getLsbD_or, BitVec.getLsbD_not]
  have h1 : (0 : Int) ≤ i := by omega
  have h2 : (i : Int) ≤ 255 := by omega
  simp [hi, h1, h2]
theorem and_or_left (S T U : BitVec 256) : S &&& (T ||| U) = (S &&& T) ||| (S &&& U) := by
  ext i hi; simp; cases S[i] <;> simp
theorem or_and_self (S T : BitVec 256) : S ||| (S &&& T) = S := by
  ext i hi; simp; cases S[i] <;> simp
theorem and_not_self (S : BitVec 256) : S &&& ~~~S = 0#256 := by
  ext i hi; simp

set_option maxHeartbeats 8000000 in
theorem algebra_any (S T U : BitVec 256) (w : World) :
    Calls Try.prog 5 #[.agg #[.int .u64 (wd S 0), .int .u64 (wd S 1), .int .u64 (wd S 2), .int .u64 (wd S 3)], .agg #[.int .u64 (wd T 0), .int .u64 (wd T 1), .int .u64 (wd T 2), .int .u64 (wd T 3)], .agg #[.int .u64 (wd U 0), .int .u64 (wd U 1), .int .u64 (wd U 2), .int .u64 (wd U 3)]] w fun e w' => e = .returned (.bool true) ∧ Below w.heap.size w w' := by
  go_enter Try.func5, Try.ntmps5
  go_wp2_with fail
  simp only [List.append_eq, List.cons_append, List.nil_append]
  go_region_held3 (fun w' => Below w.heap.size w w' ∧ w.heap.size + 2 < w'.heap.size ∧ w'.cell? ⟨w.heap.size, 0, none⟩ = some (.int .u64 (wd S 0)) ∧ w'.cell? ⟨w.heap.size, 1, none⟩ = some (.int .u64 (wd S 1)) ∧ w'.cell? ⟨w.heap.size, 2, none⟩ = some (.int .u64 (wd S 2)) ∧ w'.cell? ⟨w.heap.size, 3, none⟩ = some (.int .u64 (wd S 3)) ∧ w'.cell? ⟨w.heap.size + 1, 0, none⟩ = some (.int .u64 (wd T 0)) ∧ w'.cell? ⟨w.heap.size + 1, 1, none⟩ = some (.int .u64 (wd T 1)) ∧ w'.cell? ⟨w.heap.size + 1, 2, none⟩ = some (.int .u64 (wd T 2)) ∧ w'.cell? ⟨w.heap.size + 1, 3, none⟩ = some (.int .u64 (wd T 3)) ∧ w'.cell? ⟨w.heap.size + 1 + 1, 0, none⟩ = some (.int .u64 (wd U 0)) ∧ w'.cell? ⟨w.heap.size + 1 + 1, 1, none⟩ = some (.int .u64 (wd U 1)) ∧ w'.cell? ⟨w.heap.size + 1 + 1, 2, none⟩ = some (.int .u64 (wd U 2)) ∧ w'.cell? ⟨w.heap.size + 1 + 1, 3, none⟩ = some (.int .u64 (wd U 3))) (first | exact keeps_call (w := w) (S := S) (T := T) (U := U) (by assumption) hb | exact keeps_start w S T U) (first
    | (go_at_call 16; refine (join_any _ _ _).mono ?_; rintro e w1 ⟨rfl, hb⟩; try simp only [or_and_self, or_full])
    | (go_at_call 18; refine (meet_any _ _ _).mono ?_; rintro e w1 ⟨rfl, hb⟩; try simp only [and_or_left, and_not_self, wd_zero])
    | (go_at_call 20; refine (not_any _ _).mono ?_; rintro e w1 ⟨rfl, hb⟩; try simp only [BitVec.not_or, BitVec.not_not])
    | (go_at_call 8; refine (range_any _ _ _).mono ?_; rintro e w1 ⟨rfl, hb⟩; try simp only [rng35, wd38.1, wd38.2.1, wd38.2.2.1, wd38.2.2.2]))
  go_wp2_with fail
  have hK : Keeps w S T U w1 := by assumption
  go_ret
  exact ⟨rfl, hK.1⟩
end Go.Proofs.Ytomeocofnbnegaa
