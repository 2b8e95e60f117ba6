import Derived.Test.YtediipndkejnkaaRefClass
import Derived.Test.YtediipndkejnkaaRunclassB
namespace Go.Proofs.Ytediipndkejnkaa
open Go.RowKit
attribute [local go_sem] setCell_drewN alloc_drewN eq_arr
def Keeps3 (w : World) (N M O : Nat) (S U : BitVec 256) (w' : World) : Prop := Below w.heap.size w w' ∧ Lies w' N #[.int .u64 (wd S 0), .int .u64 (wd S 1), .int .u64 (wd S 2), .int .u64 (wd S 3)] ∧ Lies w' M #[.int .u64 (wd U 0), .int .u64 (wd U 1), .int .u64 (wd U 2), .int .u64 (wd U 3)] ∧ Lies w' O #[.int .u64 (wd U 0), .int .u64 (wd U 1), .int .u64 (wd U 2), .int .u64 (wd U 3)] ∧ w'.cell? ⟨N, 0, none⟩ = some (.int .u64 (wd S 0)) ∧ w'.cell? ⟨N, 1, none⟩ = some (.int .u64 (wd S 1)) ∧ w'.cell? ⟨N, 2, none⟩ = some (.int .u64 (wd S 2)) ∧ w'.cell? ⟨N, 3, none⟩ = some (.int .u64 (wd S 3)) ∧ w'.cell? ⟨M, 0, none⟩ = some (.int .u64 (wd U 0)) ∧ w'.cell? ⟨M, 1, none⟩ = some (.int .u64 (wd U 1)) ∧ w'.cell? ⟨M, 2, none⟩ = some (.int .u64 (wd U 2)) ∧ w'.cell? ⟨M, 3, none⟩ = some (.int .u64 (wd U 3)) ∧ w'.cell? ⟨O, 0, none⟩ = some (.int .u64 (wd U 0)) ∧ w'.cell? ⟨O, 1, none⟩ = some (.int .u64 (wd U 1)) ∧ w'.cell? ⟨O, 2, none⟩ = some (.int .u64 (wd U 2)) ∧ w'.cell? ⟨O, 3, none⟩ = some (.int .u64 (wd U 3))
theorem keeps3_of {w w' : World} {N M O : Nat} {S U : BitVec 256} (hB : Below w.heap.size w w') (hS : Lies w' N #[.int .u64 (wd S 0), .int .u64 (wd S 1), .int .u64 (wd S 2), .int .u64 (wd S 3)]) (hU : Lies w' M #[.int .u64 (wd U 0), .int .u64 (wd U 1), .int .u64 (wd U 2), .int .u64 (wd U 3)]) (hV : Lies w' O #[.int .u64 (wd U 0), .int .u64 (wd U 1), .int .u64 (wd U 2), .int .u64 (wd U 3)]) : Keeps3 w N M O S U w' :=
  ⟨hB, hS, hU, hV, by rw [hS.cell]; rfl, by rw [hS.cell]; rfl, by rw [hS.cell]; rfl, by rw [hS.cell]; rfl, by rw [hU.cell]; rfl, by rw [hU.cell]; rfl, by rw [hU.cell]; rfl, by rw [hU.cell]; rfl, by rw [hV.cell]; rfl, by rw [hV.cell]; rfl, by rw [hV.cell]; rfl, by rw [hV.cell]; rfl⟩
theorem keeps3_call {w W w' : World} {N M O : Nat} {S U : BitVec 256} (h : Keeps3 w N M O S U W) (hb : Below W.heap.size W w') : Keeps3 w N M O S U w' := by
  obtain ⟨hB, hS, hU, hV, _⟩ := h
  exact keeps3_of (b_call hB hb) (hS.below hb hS.lt) (hU.below hb hU.lt) (hV.below hb hV.lt)
theorem keeps3_drew {w w' : World} {N M O : Nat} {S U : BitVec 256} (h : Keeps3 w N M O S U w') : Keeps3 w N M O S U w'.drew := keeps3_of h.1.drew h.2.1.drew h.2.2.1.drew h.2.2.2.1.drew
theorem runclass_any (s : ByteArray) (w : World) (hs : s.size ≤ 2000000) :
    Calls Try.prog 12 #[.string s] w fun e w' => e = .returned (.tuple #[.agg #[.int .u64 (wd (kS (unclass s.data.toList)) 0), .int .u64 (wd (kS (unclass s.data.toList)) 1), .int .u64 (wd (kS (unclass s.data.toList)) 2), .int .u64 (wd (kS (unclass s.data.toList)) 3)], .int .i64 (kN (unclass s.data.toList)), .int .i64 (kE (unclass s.data.toList))]) ∧ Below w.heap.size w w' := by
  by_cases h : s.data.toList.headD 0 = 91
  · exact runclass_yes s w hs h _ rfl
  · refine (runclass_no s w h).mono ?_
    rintro e w' ⟨rfl, hb⟩
    refine ⟨?_, hb⟩
    rw [uc_none _ h]
    simp only [kS, kN, kE, wd_zero]
set_option maxRecDepth 20000 in
set_option maxHeartbeats 4000000 in
theorem classes_any (S : BitVec 256) (t : ByteArray) (w : World) (hs : t.size ≤ 1048576) :
    Calls Try.prog 4 #[.agg #[.int .u64 (wd S 0), .int .u64 (wd S 1), .int .u64 (wd S 2), .int .u64 (wd S 3)], .string t] w fun e w' => e = .returned (.bool true) ∧ Below w.heap.size w w' := by
  go_enter Try.func4, Try.ntmps4
  go_wp2_with fail
  have hL0 := Lies.new w #[.int .u64 (wd S 0), .int .u64 (wd S 1), .int .u64 (wd S 2), .int .u64 (wd S 3)]
  have hB0 : Below w.heap.size w (w.alloc (.cells #[.int .u64 (wd S 0), .int .u64 (wd S 1), .int .u64 (wd S 2), .int .u64 (wd S 3)] 29)) := (Below.refl _ _).alloc (Nat.le_refl _) _
  generalize w.alloc (.cells #[.int .u64 (wd S 0), .int .u64 (wd S 1), .int .u64 (wd S 2), .int .u64 (wd S 3)] 29) = w0 at *
  refine (unclass_any t _ (by unfold maxLen; omega)).mono ?_
  rintro e w1 ⟨rfl, hb1⟩
  have hL1 := hL0.below hb1 hL0.lt
  have hB1 := b_call hB0 hb1
  clear hL0 hB0 hb1
  have HR := runclass_any t
  generalize kS (unclass t.data.toList) = U at *
  generalize kN (unclass t.data.toList) = n at *
  generalize kE (unclass t.data.toList) = e at *
  have HR' : Hid (∀ (w : World), t.size ≤ 2000000 → Calls Try.prog 12 #[.string t] w fun e_1 w' => e_1 = .returned (.tuple #[.agg #[.int .u64 (wd U 0), .int .u64 (wd U 1), .int .u64 (wd U 2), .int .u64 (wd U 3)], .int .i64 n, .int .i64 e]) ∧ Below w.heap.size w w') := HR
  clear HR
  go_wp2_with fail
  have hL2 := hL1.alloc (.cells #[.int .u64 (wd U 0), .int .u64 (wd U 1), .int .u64 (wd U 2), .int .u64 (wd U 3)] 29)
  have hU2 := Lies.new w1 #[.int .u64 (wd U 0), .int .u64 (wd U 1), .int .u64 (wd U 2), .int .u64 (wd U 3)]
  have hB2 := hB1.alloc hB1.size (.cells #[.int .u64 (wd U 0), .int .u64 (wd U 1), .int .u64 (wd U 2), .int .u64 (wd U 3)] 29)
  generalize w1.alloc (.cells #[.int .u64 (wd U 0), .int .u64 (wd U 1), .int .u64 (wd U 2), .int .u64 (wd U 3)] 29) = w2 at *
  refine (HR'.out _ (by omega)).mono ?_
  rintro e w3 ⟨rfl, hb3⟩
  have hL3 := hL2.below hb3 hL2.lt
  have hU3 := hU2.below hb3 hU2.lt
  have hB3 := b_call hB2 hb3
  clear hL1 hL2 hU2 hB1 hB2 hb3 HR'
  go_wp2_with fail
  have hK : Keeps3 w w.heap.size w1.heap.size w3.heap.size S U (w3.alloc (.cells #[.int .u64 (wd U 0), .int .u64 (wd U 1), .int .u64 (wd U 2), .int .u64 (wd U 3)] 29)) := keeps3_of (hB3.alloc hB3.size _) (hL3.alloc _) (hU3.alloc _) (Lies.new _ _)
  generalize w3.alloc (.cells #[.int .u64 (wd U 0), .int .u64 (wd U 1), .int .u64 (wd U 2), .int .u64 (wd U 3)] 29) = w4 at *
  clear hL3 hU3 hB3
  go_region_held3 (fun w' => Below w.heap.size w w' ∧ Lies w' w.heap.size #[.int .u64 (wd S 0), .int .u64 (wd S 1), .int .u64 (wd S 2), .int .u64 (wd S 3)] ∧ Lies w' w1.heap.size #[.int .u64 (wd U 0), .int .u64 (wd U 1), .int .u64 (wd U 2), .int .u64 (wd U 3)] ∧ Lies w' w3.heap.size #[.int .u64 (wd U 0), .int .u64 (wd U 1), .int .u64 (wd U 2), .int .u64 (wd U 3)] ∧ w'.cell? ⟨w.heap.size, 0, none⟩ = some (.int .u64 (wd S 0)) ∧ w'.cell? ⟨w.heap.size, 1, none⟩ = some (.int .u64 (wd S 1)) ∧ w'.cell? ⟨w.heap.size, 2, none⟩ = some (.int .u64 (wd S 2)) ∧ w'.cell? ⟨w.heap.size, 3, none⟩ = some (.int .u64 (wd S 3)) ∧ w'.cell? ⟨w1.heap.size, 0, none⟩ = some (.int .u64 (wd U 0)) ∧ w'.cell? ⟨w1.heap.size, 1, none⟩ = some (.int .u64 (wd U 1)) ∧ w'.cell? ⟨w1.heap.size, 2, none⟩ = some (.int .u64 (wd U 2)) ∧ w'.cell? ⟨w1.heap.size, 3, none⟩ = some (.int .u64 (wd U 3)) ∧ w'.cell? ⟨w3.heap.size, 0, none⟩ = some (.int .u64 (wd U 0)) ∧ w'.cell? ⟨w3.heap.size, 1, none⟩ = some (.int .u64 (wd U 1)) ∧ w'.cell? ⟨w3.heap.size, 2, none⟩ = some (.int .u64 (wd U 2)) ∧ w'.cell? ⟨w3.heap.size, 3, none⟩ = some (.int .u64 (wd U 3))) (first | exact keeps3_call (w := w) (N := w.heap.size) (M := w1.heap.size) (O := w3.heap.size) (S := S) (U := U) (by assumption) hb | exact keeps3_drew (w := w) (N := w.heap.size) (M := w1.heap.size) (O := w3.heap.size) (S := S) (U := U) hK) (first
    | (go_at_call 13; refine (class_any _ _).mono ?_; rintro e w5 ⟨rfl, hb⟩)
    | (go_at_call 14; refine (rclass_any _ _).mono ?_; rintro e w5 ⟨rfl, hb⟩))
  all_goals
    have hK2 : Keeps3 w w.heap.size w1.heap.size w3.heap.size S U w5 := by assumption
    clear hK
    go_wp2_with fail
    go_ret
    exact ⟨rfl, hK2.1⟩
end Go.Proofs.Ytediipndkejnkaa
