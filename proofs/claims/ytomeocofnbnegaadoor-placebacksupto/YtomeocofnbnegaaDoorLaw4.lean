import Derived.Test.YtomeocofnbnegaaDoorPlaceLine
import Derived.Test.YtomeocofnbnegaaDoorLaw3
import Derived.OpenShut
namespace Go.Proofs.YtomeocofnbnegaaDoor
open Go.RowKit
theorem backAns_pair (a : Nat) (l : List UInt8) (c : Nat) : ∃ x y, backAns a l c = .tuple #[.int .i64 x, .int .i64 y] := by
  by_cases h : c ≤ nS l
  · exact ⟨_, _, backAns_yes h⟩
  · exact ⟨_, _, backAns_no h⟩
/-- What Back and the reference both answer. -/
theorem both_any (s : ByteArray) (L C : Int) (hs : (s.size : Int) ≤ 1048576) (hL : L ≤ 9223372036854775807) (hC : C ≤ 9223372036854775807) : ∃ x y : Int,
    (∀ w : World, Calls Tryd.prog 7 #[.string s, .agg #[.int .i64 L, .int .i64 C]] w fun e w' => e = .returned (.tuple #[.int .i64 x, .int .i64 y]) ∧ Below w.heap.size w w') ∧
    (∀ (w : World) (m : Int), w.cell? ⟨0, 0, none⟩ = some (.int .i64 m) → Calls Tryd.prog 8 #[.string s, .agg #[.int .i64 L, .int .i64 C]] w fun e w' => e = .returned (.tuple #[.int .i64 x, .int .i64 y]) ∧ Below w.heap.size w w') := by
  by_cases h1 : L < 1
  · exact ⟨0, 12, fun w => back_bad s L C w (.inl h1), fun w m hm => place_none s L C m w hs hm (.inl h1)⟩
  · obtain ⟨n, rfl⟩ : ∃ n : Nat, L = 1 + (n : Int) := ⟨(L - 1).toNat, by omega⟩
    by_cases h2 : n ≤ List.count 10 s.data.toList
    · obtain ⟨A, l, R, hl, hLi, hA⟩ := spl_line _ s.data.toList rfl n h2
      by_cases h3 : C < 1
      · exact ⟨0, 12, fun w => back_bad s _ C w (.inr h3), fun w m hm => place_line s A l R n C m _ w hs hm h2 hLi hl hA hC (fun _ => rfl) (fun q hq => by omega)⟩
      · obtain ⟨c, rfl⟩ : ∃ c : Nat, C = 1 + (c : Int) := ⟨(C - 1).toNat, by omega⟩
        obtain ⟨x, y, hxy⟩ := backAns_pair A.length l c
        refine ⟨x, y, fun w => ?_, fun w m hm => place_line s A l R n _ m _ w hs hm h2 hLi hl hA hC (fun h => absurd h h3) (fun q hq => ?_)⟩
        · rw [← hxy]
          exact back_line s A l R n c w hs hLi (by omega)
        · obtain rfl : c = q := by omega
          exact hxy.symm
    · by_cases h3 : C < 1
      · exact ⟨0, 12, fun w => back_bad s _ C w (.inr h3), fun w m hm => place_none s _ C m w hs hm (.inr (by omega))⟩
      · exact ⟨0, 12, fun w => back_noLine s n C w hs (by omega) (by unfold Hid; omega) (by omega), fun w m hm => place_none s _ C m w hs hm (.inr (by omega))⟩
set_option maxRecDepth 20000 in
set_option maxHeartbeats 1000000 in
theorem backs_any (s : ByteArray) (L C m : Int) (w : World) (hs : (s.size : Int) ≤ 1048576) (hm : w.cell? ⟨0, 0, none⟩ = some (.int .i64 m)) (wL : (Lit.int .i64 L).wf = true) (wC : (Lit.int .i64 C).wf = true) :
    Calls Tryd.prog 4 #[.string s, .agg #[.int .i64 L, .int .i64 C]] w fun e w' => e = .returned (.bool true) ∧ Below w.heap.size w w' := by
  have hw0 := lt_of_cell hm
  obtain ⟨x, y, hB, hP⟩ := both_any s L C hs (bounds_i64 wL).2 (bounds_i64 wC).2
  have HB : Hid _ := hB
  have HP : Hid _ := hP
  clear hB hP wL wC
  go_enter Tryd.func4, Tryd.ntmps4
  go_wp2_with fail
  refine (HB.out _).mono ?_
  rintro e w1 ⟨rfl, hb1⟩
  have hm1 : w1.cell? ⟨0, 0, none⟩ = some (.int .i64 m) := by rw [hb1.cell (p := ⟨0, 0, none⟩) (by simp), World.cell?_alloc_past _ _ _ hw0]; exact hm
  have d0 : w1.cell? ⟨w.heap.size, 0, none⟩ = some (.int .i64 L) := by rw [(bcell hb1).1 _ _ (by simp)]; simp [go_sem]
  have d1 : w1.cell? ⟨w.heap.size, 1, none⟩ = some (.int .i64 C) := by rw [(bcell hb1).1 _ _ (by simp)]; simp [go_sem]
  have hB1 : Below w.heap.size w w1 := ((Below.refl _ _).alloc (Nat.le_refl _) _).trans (hb1.mono (by simp))
  clear hb1
  go_wp2_with fail
  refine (HP.out _ m hm1).mono ?_
  rintro e w2 ⟨rfl, hb2⟩
  have hB2 : Below w.heap.size w w2 := hB1.trans (hb2.mono hB1.size)
  clear hB1 hb2
  go_wp2_with fail
  go_ret
  exact ⟨rfl, hB2⟩
end Go.Proofs.YtomeocofnbnegaaDoor
