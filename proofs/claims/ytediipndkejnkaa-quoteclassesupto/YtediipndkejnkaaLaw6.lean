import Derived.Test.YtediipndkejnkaaUnclass
import Derived.Test.YtediipndkejnkaaEq
namespace Go.Proofs.Ytediipndkejnkaa
open Go.RowKit
attribute [local go_sem] setCell_drewN alloc_drewN eq_arr
theorem clsA (S : BitVec 256) (more : ByteArray) : ∀ t : ByteArray, ⟨(cls S).toArray⟩ = t → 2 ≤ t.size ∧ t.size ≤ 2306 ∧ unclass (t ++ more).data.toList = some (S, t.size) ∧ unclass ((⟨#[91, 94]⟩ : ByteArray) ++ t.extract 1 t.size).data.toList = some (~~~S, t.size + 1) := by
  rintro t rfl
  have hlen := cls_len S
  refine ⟨by rw [mk_size]; exact hlen.1, by rw [mk_size]; exact hlen.2, ?_, ?_⟩
  · rw [app_list, mk_size, ba_list]; exact unclass_back S _
  · rw [app_list, cut_list, mk_size, ba_list]; exact unclass_not S
def Keeps (w : World) (N M : Nat) (S T : BitVec 256) (w' : World) : Prop := Below w.heap.size w w' ∧ Lies w' N #[.int .u64 (wd S 0), .int .u64 (wd S 1), .int .u64 (wd S 2), .int .u64 (wd S 3)] ∧ Lies w' M #[.int .u64 (wd T 0), .int .u64 (wd T 1), .int .u64 (wd T 2), .int .u64 (wd T 3)] ∧ w'.cell? ⟨N, 0, none⟩ = some (.int .u64 (wd S 0)) ∧ w'.cell? ⟨N, 1, none⟩ = some (.int .u64 (wd S 1)) ∧ w'.cell? ⟨N, 2, none⟩ = some (.int .u64 (wd S 2)) ∧ w'.cell? ⟨N, 3, none⟩ = some (.int .u64 (wd S 3)) ∧ w'.cell? ⟨M, 0, none⟩ = some (.int .u64 (wd T 0)) ∧ w'.cell? ⟨M, 1, none⟩ = some (.int .u64 (wd T 1)) ∧ w'.cell? ⟨M, 2, none⟩ = some (.int .u64 (wd T 2)) ∧ w'.cell? ⟨M, 3, none⟩ = some (.int .u64 (wd T 3))
theorem keeps_of {w w' : World} {N M : Nat} {S T : BitVec 256} (hB : Below w.heap.size w w') (hS : Lies w' N #[.int .u64 (wd S 0), .int .u64 (wd S 1), .int .u64 (wd S 2), .int .u64 (wd S 3)]) (hT : Lies w' M #[.int .u64 (wd T 0), .int .u64 (wd T 1), .int .u64 (wd T 2), .int .u64 (wd T 3)]) : Keeps w N M S T w' :=
  ⟨hB, hS, hT, by rw [hS.cell]; rfl, by rw [hS.cell]; rfl, by rw [hS.cell]; rfl, by rw [hS.cell]; rfl, by rw [hT.cell]; rfl, by rw [hT.cell]; rfl, by rw [hT.cell]; rfl, by rw [hT.cell]; rfl⟩
theorem keeps_call {w W w' : World} {N M : Nat} {S T : BitVec 256} (h : Keeps w N M S T W) (hb : Below W.heap.size W w') : Keeps w N M S T w' := by
  obtain ⟨hB, hS, hT, _⟩ := h
  exact keeps_of (b_call hB hb) (hS.below hb hS.lt) (hT.below hb hT.lt)
theorem keeps_drew {w w' : World} {N M : Nat} {S T : BitVec 256} (h : Keeps w N M S T w') : Keeps w N M S T w'.drew := keeps_of h.1.drew h.2.1.drew h.2.2.1.drew
theorem cls_ac : cls (rng 97 99) = [91, 97, 45, 99, 93] := by decide +kernel
set_option maxRecDepth 20000 in
set_option maxHeartbeats 4000000 in
theorem classBack_any (S : BitVec 256) (more : ByteArray) (w : World) (hs : more.size ≤ 9223372036854770000) :
    Calls Try.prog 6 #[.agg #[.int .u64 (wd S 0), .int .u64 (wd S 1), .int .u64 (wd S 2), .int .u64 (wd S 3)], .string more] w fun e w' => e = .returned (.bool true) ∧ Below w.heap.size w w' := by
  go_enter Try.func6, Try.ntmps6
  go_wp2_with fail
  refine (class_any S _).mono ?_
  rintro e w1 ⟨rfl, hb1⟩
  have hL1 := (Lies.new w #[.int .u64 (wd S 0), .int .u64 (wd S 1), .int .u64 (wd S 2), .int .u64 (wd S 3)]).below hb1 (by simp)
  have hB1 := ((Below.refl w.heap.size w).alloc (Nat.le_refl _) (.cells #[.int .u64 (wd S 0), .int .u64 (wd S 1), .int .u64 (wd S 2), .int .u64 (wd S 3)] 29)).trans (hb1.mono (by simp))
  have hA := clsA S more
  generalize (⟨(cls S).toArray⟩ : ByteArray) = t at *
  obtain ⟨ht1, ht2, hu1, hu2⟩ := hA t rfl
  have H1 : Hid (unclass (t ++ more).data.toList = some (S, t.size)) := hu1
  have H2 : Hid (unclass ((⟨#[91, 94]⟩ : ByteArray) ++ t.extract 1 t.size).data.toList = some (~~~S, t.size + 1)) := hu2
  clear hA hu1 hu2 hb1
  go_wp2_with fail
  refine (unclass_any (t ++ more) _ (by rw [app_size]; unfold maxLen; omega)).mono ?_
  rintro e w2 ⟨rfl, hb2⟩
  rw [H1.out]
  simp only [kS, kN, kE]
  have hL2 := hL1.below hb2 hL1.lt
  have hB2 := b_call hB1 hb2
  have hc2 := hL2.cell
  have hlt2 := hL2.lt
  clear hL1 hB1 hb2 H1
  have ht3 : ((t.size : Int) < 2) = False := by simp; omega
  go_wp2_with fail
  have hL3' := hL2.alloc (.cells #[.int .u64 (wd S 0), .int .u64 (wd S 1), .int .u64 (wd S 2), .int .u64 (wd S 3)] 29)
  have hB3' := hB2.alloc hB2.size (.cells #[.int .u64 (wd S 0), .int .u64 (wd S 1), .int .u64 (wd S 2), .int .u64 (wd S 3)] 29)
  generalize w2.alloc (.cells #[.int .u64 (wd S 0), .int .u64 (wd S 1), .int .u64 (wd S 2), .int .u64 (wd S 3)] 29) = w2' at *
  refine (unclass_any _ _ (by rw [app_size, ext_size, show (⟨#[91, 94]⟩ : ByteArray).size = 2 from rfl]; unfold maxLen; omega)).mono ?_
  rintro e w3 ⟨rfl, hb3⟩
  rw [H2.out]
  simp only [kS, kN, kE]
  have hL3 := hL3'.below hb3 hL3'.lt
  have hB3 := b_call hB3' hb3
  have hlt3 := hL3.lt
  clear hL3' hB3' hb3 H2 hL2 hB2 hc2 hlt2
  go_wp2_with fail
  have hK : Keeps w w.heap.size w3.heap.size S (~~~S) (w3.alloc (.cells #[.int .u64 (wd (~~~S) 0), .int .u64 (wd (~~~S) 1), .int .u64 (wd (~~~S) 2), .int .u64 (wd (~~~S) 3)] 29)) := keeps_of (hB3.alloc hB3.size _) (hL3.alloc _) (Lies.new _ _)
  generalize w3.alloc (.cells #[.int .u64 (wd (~~~S) 0), .int .u64 (wd (~~~S) 1), .int .u64 (wd (~~~S) 2), .int .u64 (wd (~~~S) 3)] 29) = w4 at *
  have hwr : IntKind.i64.wrap ((t.size : Int) + 1) = (t.size : Int) + 1 := wrapSmall _ (by omega) (by omega)
  go_region_held3 (fun w' => Below w.heap.size w w' ∧ Lies w' w.heap.size #[.int .u64 (wd S 0), .int .u64 (wd S 1), .int .u64 (wd S 2), .int .u64 (wd S 3)] ∧ Lies w' w3.heap.size #[.int .u64 (wd (~~~S) 0), .int .u64 (wd (~~~S) 1), .int .u64 (wd (~~~S) 2), .int .u64 (wd (~~~S) 3)] ∧ w'.cell? ⟨w.heap.size, 0, none⟩ = some (.int .u64 (wd S 0)) ∧ w'.cell? ⟨w.heap.size, 1, none⟩ = some (.int .u64 (wd S 1)) ∧ w'.cell? ⟨w.heap.size, 2, none⟩ = some (.int .u64 (wd S 2)) ∧ w'.cell? ⟨w.heap.size, 3, none⟩ = some (.int .u64 (wd S 3)) ∧ w'.cell? ⟨w3.heap.size, 0, none⟩ = some (.int .u64 (wd (~~~S) 0)) ∧ w'.cell? ⟨w3.heap.size, 1, none⟩ = some (.int .u64 (wd (~~~S) 1)) ∧ w'.cell? ⟨w3.heap.size, 2, none⟩ = some (.int .u64 (wd (~~~S) 2)) ∧ w'.cell? ⟨w3.heap.size, 3, none⟩ = some (.int .u64 (wd (~~~S) 3))) (first | exact keeps_call (w := w) (N := w.heap.size) (M := w3.heap.size) (S := S) (T := ~~~S) (by assumption) hb | exact keeps_drew (w := w) (N := w.heap.size) (M := w3.heap.size) (S := S) (T := ~~~S) hK) (first
    | (go_at_call 15; refine (not_any _ _).mono ?_; rintro e w5 ⟨rfl, hb⟩)
    | (go_at_call 16; refine (range_any _ _ _).mono ?_; rintro e w5 ⟨rfl, hb⟩)
    | (go_at_call 13; refine (class_any _ _).mono ?_; rintro e w5 ⟨rfl, hb⟩; rw [cls_ac]))
  have hK2 : Keeps w w.heap.size w3.heap.size S (~~~S) w5 := by assumption
  clear hK
  go_wp2_with fail
  go_ret
  exact ⟨rfl, hK2.1⟩
end Go.Proofs.Ytediipndkejnkaa
