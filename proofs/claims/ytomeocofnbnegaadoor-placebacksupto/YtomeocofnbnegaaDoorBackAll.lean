import Derived.Test.YtomeocofnbnegaaDoorLines
namespace Go.Proofs.YtomeocofnbnegaaDoor
open Go.RowKit
/-- What Back answers in a line that begins at a. -/
def backAns (a : Nat) (l : List UInt8) (c : Nat) : Value := if c ≤ nS l then .tuple #[.int .i64 ((a : Int) + (bp l c : Int)), .int .i64 0] else .tuple #[.int .i64 0, .int .i64 12]
theorem backAns_yes {a : Nat} {l : List UInt8} {c : Nat} (h : c ≤ nS l) : backAns a l c = .tuple #[.int .i64 ((a : Int) + (bp l c : Int)), .int .i64 0] := by unfold backAns; rw [if_pos h]
theorem backAns_no {a : Nat} {l : List UInt8} {c : Nat} (h : ¬ c ≤ nS l) : backAns a l c = .tuple #[.int .i64 0, .int .i64 12] := by unfold backAns; rw [if_neg h]
set_option maxRecDepth 20000 in
set_option maxHeartbeats 1000000 in
theorem back_bad (s : ByteArray) (L C : Int) (w : World) (h : L < 1 ∨ C < 1) :
    Calls Tryd.prog 7 #[.string s, .agg #[.int .i64 L, .int .i64 C]] w fun e w' => e = .returned (.tuple #[.int .i64 0, .int .i64 12]) ∧ Below w.heap.size w w' := by
  by_cases h1 : L < 1
  · have g1 : decide (L < 1) = true := by simpa using h1
    go_enter Tryd.func7, Tryd.ntmps7
    go_wp2_with fail
    go_ret2
    exact ⟨rfl, (Below.refl _ _).alloc (Nat.le_refl _) _⟩
  · have g1 : decide (L < 1) = false := by simpa using h1
    have h2 : C < 1 := by omega
    have g2 : decide (C < 1) = true := by simpa using h2
    go_enter Tryd.func7, Tryd.ntmps7
    go_wp2_with fail
    go_ret2
    exact ⟨rfl, (Below.refl _ _).alloc (Nat.le_refl _) _⟩
set_option maxRecDepth 20000 in
set_option maxHeartbeats 1000000 in
theorem back_noLine (s : ByteArray) (n : Nat) (C : Int) (w : World) (hs : (s.size : Int) ≤ 1048576) (hn : (n : Int) ≤ 9223372036854775806) (HN : Hid (List.count 10 s.data.toList < n)) (hC : 1 ≤ C) :
    Calls Tryd.prog 7 #[.string s, .agg #[.int .i64 (1 + (n : Int)), .int .i64 C]] w fun e w' => e = .returned (.tuple #[.int .i64 0, .int .i64 12]) ∧ Below w.heap.size w w' := by
  have g1 : decide (1 + (n : Int) < 1) = false := by rw [decide_eq_false_iff_not]; omega
  have g2 : decide (C < 1) = false := by rw [decide_eq_false_iff_not]; omega
  go_enter Tryd.func7, Tryd.ntmps7
  go_wp2_with fail
  refine (bol_no s n _ hs hn HN).mono ?_
  rintro e w1 ⟨rfl, hw1⟩
  subst hw1
  go_wp2_with fail
  go_ret2
  exact ⟨rfl, (Below.refl _ _).alloc (Nat.le_refl _) _⟩
set_option maxRecDepth 20000 in
set_option maxHeartbeats 1000000 in
theorem back_line (s : ByteArray) (A l R : List UInt8) (n c : Nat) (w : World) (hs : (s.size : Int) ≤ 1048576) (HLi : Hid (Line s.data.toList A l R n)) (hc63 : (c : Int) ≤ 9223372036854775806) :
    Calls Tryd.prog 7 #[.string s, .agg #[.int .i64 (1 + (n : Int)), .int .i64 (1 + (c : Int))]] w fun e w' => e = .returned (backAns A.length l c) ∧ Below w.heap.size w w' := by
  have HL : Hid (s.data.toList.length = s.size) := size_list s
  have g1 : decide (1 + (n : Int) < 1) = false := by rw [decide_eq_false_iff_not]; omega
  have g2 : decide (1 + (c : Int) < 1) = false := by rw [decide_eq_false_iff_not]; omega
  have hlen := congrArg List.length HLi.out.eq
  rw [List.length_append, List.length_append, HL.out] at hlen
  have HH : Hid (s.size = A.length + (l.length + R.length)) := hlen
  have hal : A.length ≤ s.size := by omega
  clear hlen
  go_enter Tryd.func7, Tryd.ntmps7
  go_wp2_with fail
  refine (bol_ok s A (l ++ R) n _ hs HLi.out.eq HLi.out.cnt HLi.out.fin).mono ?_
  rintro e w1 ⟨rfl, hw1⟩
  subst hw1
  go_wp2_with fail
  refine (cut_any (s.extract A.length s.size) _ (by rw [ext_size]; omega)).mono ?_
  rintro e w2 ⟨L, R2, v1, v2, hL1, hL2, hL3, rfl, hb2⟩
  rw [ext_list, HLi.out.eq, List.drop_left] at hL1
  have HLl : Hid (L.data.toList = l) := cut_uniq HLi.out.no hL2 hL1 HLi.out.rest hL3
  have hLs : (L.size : Int) ≤ 1048576 := by
    have h1 : L.data.toList.length = L.size := rfl
    rw [HLl.out] at h1
    have := HH.out
    omega
  obtain ⟨hc, hf⟩ := bcell hb2
  have hy2 : w.heap.size < w2.heap.size := by have := hb2.size; simp at this; omega
  have hB2 : Below w.heap.size w w2 := ((Below.refl _ _).alloc (Nat.le_refl _) _).trans (hb2.mono (by simp))
  have d1 : w2.cell? ⟨w.heap.size, 1, none⟩ = some (.int .i64 (1 + (c : Int))) := by rw [hc _ _ (by simp)]; simp [go_sem]
  clear hL1 hL2 hL3 hb2 hc hf
  go_wp2_with fail
  rw [show (1 + (c : Int) - 1) = (c : Int) from by omega]
  by_cases hcn : c ≤ nS l
  · have HCN : Hid (c ≤ nS l) := hcn
    have HR : Hid (Runs c L.data.toList (L.data.toList.drop (bp L.data.toList c))) := (bp_runs L.data.toList c (by rw [HLl.out]; exact hcn)).1
    have HB : Hid (L.size - (L.data.toList.drop (bp L.data.toList c)).length = bp l c ∧ bp l c ≤ l.length) := by
      have h1 := (bp_runs L.data.toList c (by rw [HLl.out]; exact hcn)).2.1
      have h2 : L.data.toList.length = L.size := rfl
      unfold Hid
      rw [List.length_drop, h2]
      rw [HLl.out] at h1 h2 ⊢
      omega
    clear hcn
    refine (behind_yes L c _ _ (by omega) HR).mono ?_
    rintro e w3 ⟨rfl, hb3⟩
    rw [HB.out.1]
    have hHl : ((A.length : Nat) : Int) + ((bp l c : Nat) : Int) ≤ 1048576 := by have := HH.out; have := HB.out.2; omega
    have hB3 := hB2.trans (hb3.mono (by omega))
    clear hB2 hb3
    go_wp2_with fail
    go_ret2
    refine ⟨?_, hB3⟩
    rw [backAns_yes HCN.out]; rfl
  · have HCN : Hid (¬ c ≤ nS l) := hcn
    have HN : Hid (nS L.data.toList < c) := by unfold Hid; rw [HLl.out]; omega
    clear hcn
    refine (behind_no L c _ hLs HN).mono ?_
    rintro e w3 ⟨v, rfl, hb3⟩
    have hB3 := hB2.trans (hb3.mono (by omega))
    clear hB2 hb3
    go_wp2_with fail
    go_ret2
    refine ⟨?_, hB3⟩
    rw [backAns_no HCN.out]; rfl
end Go.Proofs.YtomeocofnbnegaaDoor
