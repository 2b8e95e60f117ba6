import Derived.Test.YtokdaapmejccbaaName
import Derived.Test.YtokdaapmejccbaaEq
import Derived.Test.YtokdaapmejccbaaGo
import Derived.BigRegion
import Derived.BigQuiet
namespace Go.Proofs.Ytokdaapmejccbaa
open Go.RowKit
/-- Whether a set is empty, by its words. -/
def noS (S : BitVec 256) : Bool := (wd S 0 == 0) && ((wd S 1 == 0) && ((wd S 2 == 0) && (wd S 3 == 0)))
def textOk (e : Ex) : Bool := if e.k = 3 then !decide (e.t.size = 0) && decide (e.t.size ≤ 12) else if e.k = 4 then isName e.t.data.toList else decide (e.t.size = 0)
def setOk (e : Ex) : Bool := decide (e.k = 2) || noS e.S
def kidsOk (e : Ex) : Bool := if e.k = 1 ∨ e.k = 2 ∨ e.k = 3 ∨ e.k = 4 then decide (e.kids.length = 0) else if e.k = 5 ∨ e.k = 6 then decide (2 ≤ e.kids.length) && decide (e.kids.length ≤ 8) else if 7 ≤ e.k ∧ e.k ≤ 11 then decide (e.kids.length = 1) else false
/-- A node is in its form, its kids aside. -/
def formOk (e : Ex) : Bool := textOk e && setOk e && kidsOk e
attribute [local go_sem] eq_arr
set_option linter.unusedSimpArgs false
theorem tl_iff (s : ByteArray) : s.toList = [] ↔ s.size = 0 := by
  rw [ByteArray.toList_eq]
  obtain ⟨⟨l⟩⟩ := s
  cases l <;> simp [ByteArray.size]
theorem tl_emp (s : ByteArray) : s.toList.isEmpty = decide (s.size = 0) := by
  rw [Bool.eq_iff_iff, List.isEmpty_iff, tl_iff]; simp
set_option maxRecDepth 20000 in
set_option maxHeartbeats 1000000 in
theorem textFits_any (e : Ex) (w : World) :
    Calls Try.prog 137 #[e.val] w fun r w' => r = .returned (.bool (textOk e)) ∧ Below w.heap.size w w' := by
  have hB := (Below.refl w.heap.size w).alloc (Nat.le_refl _) (.cells e.cells 57)
  rw [val_eq]
  rw [cells_eq] at hB
  unfold textOk
  generalize e.k = k at *
  generalize e.t = t at *
  by_cases h3 : k = 3
  · subst h3
    rw [if_pos rfl]
    go_enter Try.func137, Try.ntmps137
    go_wp2_with fail
    all_goals (go_ret; refine ⟨ret_bool ?_, hB⟩; clear hB; rw [Bool.eq_iff_iff]; simp only [tl_iff, tl_emp] at *; simp only [Bool.and_eq_true, Bool.not_eq_true', decide_eq_true_eq, decide_eq_false_iff_not, Bool.false_eq_true, true_iff, false_iff]; omega)
  · rw [if_neg h3]
    have g3 : (k == 3) = false := by simpa using h3
    by_cases h4 : k = 4
    · subst h4
      rw [if_pos rfl]
      go_enter Try.func137, Try.ntmps137
      go_wp2_with (go_at_call 85; refine (name_any t _).mono ?_; rintro r w1 ⟨rfl, rfl⟩)
      go_ret
      exact ⟨rfl, hB⟩
    · rw [if_neg h4]
      have g4 : (k == 4) = false := by simpa using h4
      clear h3 h4
      go_enter Try.func137, Try.ntmps137
      go_wp2_with fail
      all_goals (go_ret; refine ⟨ret_bool ?_, hB⟩; clear hB; rw [Bool.eq_iff_iff]; simp only [tl_iff, tl_emp] at *)
set_option maxRecDepth 20000 in
set_option maxHeartbeats 1000000 in
theorem setFits_any (e : Ex) (w : World) :
    Calls Try.prog 138 #[e.val] w fun r w' => r = .returned (.bool (setOk e)) ∧ Below w.heap.size w w' := by
  have hB := (Below.refl w.heap.size w).alloc (Nat.le_refl _) (.cells e.cells 57)
  rw [val_eq]
  rw [cells_eq] at hB
  unfold setOk noS
  generalize e.k = k at *
  by_cases h2 : k = 2
  · subst h2
    go_enter Try.func138, Try.ntmps138
    go_wp2_with fail
    go_ret
    exact ⟨rfl, hB⟩
  · have g2 : (k == 2) = false := by simpa using h2
    rw [decide_eq_false h2]
    clear h2
    go_enter Try.func138, Try.ntmps138
    go_wp2_with fail
    go_ret
    exact ⟨rfl, hB⟩
set_option maxRecDepth 20000 in
set_option maxHeartbeats 1000000 in
theorem kidsFit_any (e : Ex) (w : World) :
    Calls Try.prog 139 #[e.val] w fun r w' => r = .returned (.bool (kidsOk e)) ∧ Below w.heap.size w w' := by
  have hB := (Below.refl w.heap.size w).alloc (Nat.le_refl _) (.cells e.cells 57)
  rw [val_eq]
  rw [cells_eq] at hB
  unfold kidsOk
  generalize e.kids.length = n at *
  generalize e.k = k at *
  by_cases hk : 1 ≤ k ∧ k ≤ 11
  · obtain rfl | rfl | rfl | rfl | rfl | rfl | rfl | rfl | rfl | rfl | rfl : k = 1 ∨ k = 2 ∨ k = 3 ∨ k = 4 ∨ k = 5 ∨ k = 6 ∨ k = 7 ∨ k = 8 ∨ k = 9 ∨ k = 10 ∨ k = 11 := by omega
    all_goals
      go_enter Try.func139, Try.ntmps139
      go_wp2_with fail
      all_goals (go_ret; refine ⟨ret_bool ?_, hB⟩; clear hB; rw [Bool.eq_iff_iff]; simp; try omega)
  · have g : ∀ m : Int, 1 ≤ m → m ≤ 11 → (k == m) = false := fun m h1 h2 => by simp; omega
    have g1 := g 1 (by omega) (by omega)
    have g2 := g 2 (by omega) (by omega)
    have g3 := g 3 (by omega) (by omega)
    have g4 := g 4 (by omega) (by omega)
    have g5 := g 5 (by omega) (by omega)
    have g6 := g 6 (by omega) (by omega)
    have g7 := g 7 (by omega) (by omega)
    have g8 := g 8 (by omega) (by omega)
    have g9 := g 9 (by omega) (by omega)
    have g10 := g 10 (by omega) (by omega)
    have g11 := g 11 (by omega) (by omega)
    clear g
    rw [if_neg (by omega), if_neg (by omega), if_neg (by omega)]
    clear hk
    go_enter Try.func139, Try.ntmps139
    go_wp2_with fail
    go_ret
    exact ⟨rfl, hB⟩
set_option maxRecDepth 20000 in
set_option maxHeartbeats 1000000 in
theorem inForm_any (e : Ex) (w : World) :
    Calls Try.prog 116 #[e.val] w fun r w' => r = .returned (.bool (formOk e)) ∧ Below w.heap.size w w' := by
  have hB := (Below.refl w.heap.size w).alloc (Nat.le_refl _) (.cells e.cells 57)
  have h37 := fun w => textFits_any e w
  have h38 := fun w => setFits_any e w
  have h39 := fun w => kidsFit_any e w
  have hL : ∀ {w'}, Below (w.heap.size + 1) (w.alloc (.cells e.cells 57)) w' → Below w.heap.size w w' ∧ ∀ j, w'.cell? ⟨w.heap.size, j, none⟩ = e.cells[j]? := fun h =>
    ⟨hB.trans (h.mono (by omega)), fun j => by rw [h.cell (p := ⟨w.heap.size, j, none⟩) (by show w.heap.size < _; omega)]; unfold World.cell?; rw [World.alloc_heap_new]; rfl⟩
  have hsz : (w.alloc (.cells e.cells 57)).heap.size = w.heap.size + 1 := by simp
  rw [val_eq] at h37 h38 h39 ⊢
  rw [cells_eq] at hB hL hsz
  unfold formOk
  go_enter Try.func116, Try.ntmps116
  go_wp2_with fail
  refine (h37 _).mono ?_
  rintro r w1 ⟨rfl, hb1⟩
  rw [hsz] at hb1
  obtain ⟨hB1, hc1⟩ := hL hb1
  cases hT : textOk e with
  | false =>
    clear h37 h38 h39 hL hb1
    go_wp2_with fail
    go_ret
    exact ⟨ret_bool (by rw [hT]; rfl), hB1⟩
  | true =>
    have hs1 := hb1.size
    rw [hsz] at hs1
    go_wp2_with fail
    refine (h38 _).mono ?_
    rintro r w2 ⟨rfl, hb2⟩
    have hb2' := hb1.trans (hb2.mono hs1)
    obtain ⟨hB2, hc2⟩ := hL hb2'
    have hs2 : w.heap.size + 1 ≤ w2.heap.size := Nat.le_trans hs1 hb2.size
    clear hB1 hc1 hb1 hb2
    cases hS : setOk e with
    | false =>
      clear h37 h38 h39 hL hb2'
      go_wp2_with fail
      go_ret
      exact ⟨ret_bool (by rw [hT, hS]; rfl), hB2⟩
    | true =>
      go_wp2_with fail
      refine (h39 _).mono ?_
      rintro r w3 ⟨rfl, hb3⟩
      obtain ⟨hB3, hc3⟩ := hL (hb2'.trans (hb3.mono hs2))
      clear h37 h38 h39 hL hb2' hb3 hc2 hB2
      go_wp2_with fail
      go_ret
      exact ⟨ret_bool (by rw [hT, hS]; rfl), hB3⟩
theorem right_eq (e : Ex) (b : Bool) (h : b = (if e.k = 1 then decide (e.kids.length = 0) && decide (e.t.size = 0) && noS e.S else if e.k = 2 then decide (e.kids.length = 0) && decide (e.t.size = 0) else if e.k = 3 then decide (e.kids.length = 0) && noS e.S && !decide (e.t.size = 0) && decide (e.t.size ≤ 12) else if e.k = 4 then decide (e.kids.length = 0) && noS e.S && isName e.t.data.toList else if e.k = 5 ∨ e.k = 6 then decide (e.t.size = 0) && noS e.S && decide (2 ≤ e.kids.length) && decide (e.kids.length ≤ 8) else if 7 ≤ e.k ∧ e.k ≤ 11 then decide (e.t.size = 0) && noS e.S && decide (e.kids.length = 1) else false)) : b = formOk e := by
  subst h
  unfold formOk textOk setOk kidsOk
  generalize e.kids.length = n
  generalize isName e.t.data.toList = q
  generalize e.t.size = m
  generalize noS e.S = z
  generalize e.k = k
  by_cases hk : 1 ≤ k ∧ k ≤ 11
  · obtain rfl | rfl | rfl | rfl | rfl | rfl | rfl | rfl | rfl | rfl | rfl : k = 1 ∨ k = 2 ∨ k = 3 ∨ k = 4 ∨ k = 5 ∨ k = 6 ∨ k = 7 ∨ k = 8 ∨ k = 9 ∨ k = 10 ∨ k = 11 := by omega
    all_goals (rw [Bool.eq_iff_iff]; simp; try (cases z <;> cases q <;> simp <;> try omega))
    all_goals (try exact and_comm)
  · rw [if_neg (by omega), if_neg (by omega), if_neg (by omega), if_neg (by omega), if_neg (by omega), if_neg (by omega), if_neg (by omega : ¬ (k = 1 ∨ k = 2 ∨ k = 3 ∨ k = 4)), if_neg (by omega : ¬ (k = 5 ∨ k = 6)), if_neg (by omega : ¬ (7 ≤ k ∧ k ≤ 11))]
    simp
end Go.Proofs.Ytokdaapmejccbaa
