import Derived.Test.YtokdaapmejccbaaXCheck
namespace Go.Proofs.Ytokdaapmejccbaa
open Go.RowKit
attribute [local go_sem] eq_arr
set_option linter.unusedVariables false
set_option linter.unusedSimpArgs false
theorem int_one (n : Nat) : ((n : Int) == 1) = decide (n = 1) := by rw [Bool.eq_iff_iff]; simp; omega
set_option maxRecDepth 20000 in
set_option maxHeartbeats 4000000 in
theorem right_1 (e : Ex) (w : World) (ht : e.t.size ≤ 140737488355328) (hk : e.k = 1) :
    Calls Try.prog 126 #[e.val] w fun r w' => r = .returned (.bool (formOk e)) ∧ Below w.heap.size w w' := by
  have hB := (Below.refl w.heap.size w).alloc (Nat.le_refl _) (.cells e.cells 57)
  have HR : Hid (∀ b, _ → b = formOk e) := right_eq e
  rw [val_eq]
  rw [cells_eq] at hB
  generalize formOk e = F at *
  unfold noS at HR
  generalize e.kids.length = n at *
  generalize e.k = k at *
  generalize e.t = t at *
  have H1 : ∃ d1 : Bool, ((n : Int) == 0) = d1 ∧ Hid (decide (n = 0) = d1) := ⟨_, rfl, by unfold Hid; rw [Bool.eq_iff_iff]; simp⟩
  have H2 : ∃ d2 : Bool, t.toList.isEmpty = d2 ∧ Hid (decide (t.size = 0) = d2) := ⟨_, rfl, (tl_emp t).symm⟩
  obtain ⟨d1, hd1, H1⟩ := H1
  obtain ⟨d2, hd2, H2⟩ := H2
  subst hk
  go_enter Try.func126, Try.ntmps126
  go_wp2_with fail
  go_region
  clear hd1 hd2
  generalize ((wd e.S 0 == 0) && ((wd e.S 1 == 0) && ((wd e.S 2 == 0) && (wd e.S 3 == 0)))) = z at *
  go_wp2_with (go_at_call 97; refine (rname_any t _ ht).mono ?_; rintro r w1 ⟨rfl, rfl⟩)
  all_goals
    go_ret
    refine ⟨ret_bool (HR.out _ ?_), hB.drew⟩
    clear hB HR
    have h1 := H1.out
    have h2 := H2.out
    rw [h1, h2]
    first | rfl | (simp only [*]; simp; done) | (simp; done) | (simp; exact int_one n) | (rw [Bool.eq_iff_iff]; simp [int_one]; done) | (rw [Bool.eq_iff_iff]; simp; omega) | (clear h1 h2; cases d1 <;> cases d2 <;> cases z <;> first | contradiction | (rw [Bool.eq_iff_iff]; simp; done) | (rw [Bool.eq_iff_iff]; simp; omega))
set_option maxRecDepth 20000 in
set_option maxHeartbeats 4000000 in
theorem right_2 (e : Ex) (w : World) (ht : e.t.size ≤ 140737488355328) (hk : e.k = 2) :
    Calls Try.prog 126 #[e.val] w fun r w' => r = .returned (.bool (formOk e)) ∧ Below w.heap.size w w' := by
  have hB := (Below.refl w.heap.size w).alloc (Nat.le_refl _) (.cells e.cells 57)
  have HR : Hid (∀ b, _ → b = formOk e) := right_eq e
  rw [val_eq]
  rw [cells_eq] at hB
  generalize formOk e = F at *
  unfold noS at HR
  generalize e.kids.length = n at *
  generalize e.k = k at *
  generalize e.t = t at *
  have H1 : ∃ d1 : Bool, ((n : Int) == 0) = d1 ∧ Hid (decide (n = 0) = d1) := ⟨_, rfl, by unfold Hid; rw [Bool.eq_iff_iff]; simp⟩
  have H2 : ∃ d2 : Bool, t.toList.isEmpty = d2 ∧ Hid (decide (t.size = 0) = d2) := ⟨_, rfl, (tl_emp t).symm⟩
  obtain ⟨d1, hd1, H1⟩ := H1
  obtain ⟨d2, hd2, H2⟩ := H2
  subst hk
  go_enter Try.func126, Try.ntmps126
  go_wp2_with fail
  go_region
  clear hd1 hd2
  generalize ((wd e.S 0 == 0) && ((wd e.S 1 == 0) && ((wd e.S 2 == 0) && (wd e.S 3 == 0)))) = z at *
  go_wp2_with (go_at_call 97; refine (rname_any t _ ht).mono ?_; rintro r w1 ⟨rfl, rfl⟩)
  all_goals
    go_ret
    refine ⟨ret_bool (HR.out _ ?_), hB.drew⟩
    clear hB HR
    have h1 := H1.out
    have h2 := H2.out
    rw [h1, h2]
    first | rfl | (simp only [*]; simp; done) | (simp; done) | (simp; exact int_one n) | (rw [Bool.eq_iff_iff]; simp [int_one]; done) | (rw [Bool.eq_iff_iff]; simp; omega) | (clear h1 h2; cases d1 <;> cases d2 <;> cases z <;> first | contradiction | (rw [Bool.eq_iff_iff]; simp; done) | (rw [Bool.eq_iff_iff]; simp; omega))
set_option maxRecDepth 20000 in
set_option maxHeartbeats 4000000 in
theorem right_3 (e : Ex) (w : World) (ht : e.t.size ≤ 140737488355328) (hk : e.k = 3) :
    Calls Try.prog 126 #[e.val] w fun r w' => r = .returned (.bool (formOk e)) ∧ Below w.heap.size w w' := by
  have hB := (Below.refl w.heap.size w).alloc (Nat.le_refl _) (.cells e.cells 57)
  have HR : Hid (∀ b, _ → b = formOk e) := right_eq e
  rw [val_eq]
  rw [cells_eq] at hB
  generalize formOk e = F at *
  unfold noS at HR
  generalize e.kids.length = n at *
  generalize e.k = k at *
  generalize e.t = t at *
  have H1 : ∃ d1 : Bool, ((n : Int) == 0) = d1 ∧ Hid (decide (n = 0) = d1) := ⟨_, rfl, by unfold Hid; rw [Bool.eq_iff_iff]; simp⟩
  have H2 : ∃ d2 : Bool, t.toList.isEmpty = d2 ∧ Hid (decide (t.size = 0) = d2) := ⟨_, rfl, (tl_emp t).symm⟩
  obtain ⟨d1, hd1, H1⟩ := H1
  obtain ⟨d2, hd2, H2⟩ := H2
  subst hk
  go_enter Try.func126, Try.ntmps126
  go_wp2_with fail
  go_region
  clear hd1 hd2
  generalize ((wd e.S 0 == 0) && ((wd e.S 1 == 0) && ((wd e.S 2 == 0) && (wd e.S 3 == 0)))) = z at *
  go_wp2_with (go_at_call 97; refine (rname_any t _ ht).mono ?_; rintro r w1 ⟨rfl, rfl⟩)
  all_goals
    go_ret
    refine ⟨ret_bool (HR.out _ ?_), hB.drew⟩
    clear hB HR
    have h1 := H1.out
    have h2 := H2.out
    rw [h1, h2]
    first | rfl | (simp only [*]; simp; done) | (simp; done) | (simp; exact int_one n) | (rw [Bool.eq_iff_iff]; simp [int_one]; done) | (rw [Bool.eq_iff_iff]; simp; omega) | (clear h1 h2; cases d1 <;> cases d2 <;> cases z <;> first | contradiction | (rw [Bool.eq_iff_iff]; simp; done) | (rw [Bool.eq_iff_iff]; simp; omega))
set_option maxRecDepth 20000 in
set_option maxHeartbeats 4000000 in
theorem right_4 (e : Ex) (w : World) (ht : e.t.size ≤ 140737488355328) (hk : e.k = 4) :
    Calls Try.prog 126 #[e.val] w fun r w' => r = .returned (.bool (formOk e)) ∧ Below w.heap.size w w' := by
  have hB := (Below.refl w.heap.size w).alloc (Nat.le_refl _) (.cells e.cells 57)
  have HR : Hid (∀ b, _ → b = formOk e) := right_eq e
  rw [val_eq]
  rw [cells_eq] at hB
  generalize formOk e = F at *
  unfold noS at HR
  generalize e.kids.length = n at *
  generalize e.k = k at *
  generalize e.t = t at *
  have H1 : ∃ d1 : Bool, ((n : Int) == 0) = d1 ∧ Hid (decide (n = 0) = d1) := ⟨_, rfl, by unfold Hid; rw [Bool.eq_iff_iff]; simp⟩
  have H2 : ∃ d2 : Bool, t.toList.isEmpty = d2 ∧ Hid (decide (t.size = 0) = d2) := ⟨_, rfl, (tl_emp t).symm⟩
  obtain ⟨d1, hd1, H1⟩ := H1
  obtain ⟨d2, hd2, H2⟩ := H2
  subst hk
  go_enter Try.func126, Try.ntmps126
  go_wp2_with fail
  go_region
  clear hd1 hd2
  generalize ((wd e.S 0 == 0) && ((wd e.S 1 == 0) && ((wd e.S 2 == 0) && (wd e.S 3 == 0)))) = z at *
  go_wp2_with (go_at_call 97; refine (rname_any t _ ht).mono ?_; rintro r w1 ⟨rfl, rfl⟩)
  all_goals
    go_ret
    refine ⟨ret_bool (HR.out _ ?_), hB.drew⟩
    clear hB HR
    have h1 := H1.out
    have h2 := H2.out
    rw [h1, h2]
    first | rfl | (simp only [*]; simp; done) | (simp; done) | (simp; exact int_one n) | (rw [Bool.eq_iff_iff]; simp [int_one]; done) | (rw [Bool.eq_iff_iff]; simp; omega) | (clear h1 h2; cases d1 <;> cases d2 <;> cases z <;> first | contradiction | (rw [Bool.eq_iff_iff]; simp; done) | (rw [Bool.eq_iff_iff]; simp; omega))
set_option maxRecDepth 20000 in
set_option maxHeartbeats 4000000 in
theorem right_5 (e : Ex) (w : World) (ht : e.t.size ≤ 140737488355328) (hk : e.k = 5) :
    Calls Try.prog 126 #[e.val] w fun r w' => r = .returned (.bool (formOk e)) ∧ Below w.heap.size w w' := by
  have hB := (Below.refl w.heap.size w).alloc (Nat.le_refl _) (.cells e.cells 57)
  have HR : Hid (∀ b, _ → b = formOk e) := right_eq e
  rw [val_eq]
  rw [cells_eq] at hB
  generalize formOk e = F at *
  unfold noS at HR
  generalize e.kids.length = n at *
  generalize e.k = k at *
  generalize e.t = t at *
  have H1 : ∃ d1 : Bool, ((n : Int) == 0) = d1 ∧ Hid (decide (n = 0) = d1) := ⟨_, rfl, by unfold Hid; rw [Bool.eq_iff_iff]; simp⟩
  have H2 : ∃ d2 : Bool, t.toList.isEmpty = d2 ∧ Hid (decide (t.size = 0) = d2) := ⟨_, rfl, (tl_emp t).symm⟩
  obtain ⟨d1, hd1, H1⟩ := H1
  obtain ⟨d2, hd2, H2⟩ := H2
  subst hk
  go_enter Try.func126, Try.ntmps126
  go_wp2_with fail
  go_region
  clear hd1 hd2
  generalize ((wd e.S 0 == 0) && ((wd e.S 1 == 0) && ((wd e.S 2 == 0) && (wd e.S 3 == 0)))) = z at *
  go_wp2_with (go_at_call 97; refine (rname_any t _ ht).mono ?_; rintro r w1 ⟨rfl, rfl⟩)
  all_goals
    go_ret
    refine ⟨ret_bool (HR.out _ ?_), hB.drew⟩
    clear hB HR
    have h1 := H1.out
    have h2 := H2.out
    rw [h1, h2]
    first | rfl | (simp only [*]; simp; done) | (simp; done) | (simp; exact int_one n) | (rw [Bool.eq_iff_iff]; simp [int_one]; done) | (rw [Bool.eq_iff_iff]; simp; omega) | (clear h1 h2; cases d1 <;> cases d2 <;> cases z <;> first | contradiction | (rw [Bool.eq_iff_iff]; simp; done) | (rw [Bool.eq_iff_iff]; simp; omega))
set_option maxRecDepth 20000 in
set_option maxHeartbeats 4000000 in
theorem right_6 (e : Ex) (w : World) (ht : e.t.size ≤ 140737488355328) (hk : e.k = 6) :
    Calls Try.prog 126 #[e.val] w fun r w' => r = .returned (.bool (formOk e)) ∧ Below w.heap.size w w' := by
  have hB := (Below.refl w.heap.size w).alloc (Nat.le_refl _) (.cells e.cells 57)
  have HR : Hid (∀ b, _ → b = formOk e) := right_eq e
  rw [val_eq]
  rw [cells_eq] at hB
  generalize formOk e = F at *
  unfold noS at HR
  generalize e.kids.length = n at *
  generalize e.k = k at *
  generalize e.t = t at *
  have H1 : ∃ d1 : Bool, ((n : Int) == 0) = d1 ∧ Hid (decide (n = 0) = d1) := ⟨_, rfl, by unfold Hid; rw [Bool.eq_iff_iff]; simp⟩
  have H2 : ∃ d2 : Bool, t.toList.isEmpty = d2 ∧ Hid (decide (t.size = 0) = d2) := ⟨_, rfl, (tl_emp t).symm⟩
  obtain ⟨d1, hd1, H1⟩ := H1
  obtain ⟨d2, hd2, H2⟩ := H2
  subst hk
  go_enter Try.func126, Try.ntmps126
  go_wp2_with fail
  go_region
  clear hd1 hd2
  generalize ((wd e.S 0 == 0) && ((wd e.S 1 == 0) && ((wd e.S 2 == 0) && (wd e.S 3 == 0)))) = z at *
  go_wp2_with (go_at_call 97; refine (rname_any t _ ht).mono ?_; rintro r w1 ⟨rfl, rfl⟩)
  all_goals
    go_ret
    refine ⟨ret_bool (HR.out _ ?_), hB.drew⟩
    clear hB HR
    have h1 := H1.out
    have h2 := H2.out
    rw [h1, h2]
    first | rfl | (simp only [*]; simp; done) | (simp; done) | (simp; exact int_one n) | (rw [Bool.eq_iff_iff]; simp [int_one]; done) | (rw [Bool.eq_iff_iff]; simp; omega) | (clear h1 h2; cases d1 <;> cases d2 <;> cases z <;> first | contradiction | (rw [Bool.eq_iff_iff]; simp; done) | (rw [Bool.eq_iff_iff]; simp; omega))
set_option maxRecDepth 20000 in
set_option maxHeartbeats 4000000 in
theorem right_7 (e : Ex) (w : World) (ht : e.t.size ≤ 140737488355328) (hk : e.k = 7) :
    Calls Try.prog 126 #[e.val] w fun r w' => r = .returned (.bool (formOk e)) ∧ Below w.heap.size w w' := by
  have hB := (Below.refl w.heap.size w).alloc (Nat.le_refl _) (.cells e.cells 57)
  have HR : Hid (∀ b, _ → b = formOk e) := right_eq e
  rw [val_eq]
  rw [cells_eq] at hB
  generalize formOk e = F at *
  unfold noS at HR
  generalize e.kids.length = n at *
  generalize e.k = k at *
  generalize e.t = t at *
  have H1 : ∃ d1 : Bool, ((n : Int) == 0) = d1 ∧ Hid (decide (n = 0) = d1) := ⟨_, rfl, by unfold Hid; rw [Bool.eq_iff_iff]; simp⟩
  have H2 : ∃ d2 : Bool, t.toList.isEmpty = d2 ∧ Hid (decide (t.size = 0) = d2) := ⟨_, rfl, (tl_emp t).symm⟩
  obtain ⟨d1, hd1, H1⟩ := H1
  obtain ⟨d2, hd2, H2⟩ := H2
  subst hk
  go_enter Try.func126, Try.ntmps126
  go_wp2_with fail
  go_region
  clear hd1 hd2
  generalize ((wd e.S 0 == 0) && ((wd e.S 1 == 0) && ((wd e.S 2 == 0) && (wd e.S 3 == 0)))) = z at *
  go_wp2_with (go_at_call 97; refine (rname_any t _ ht).mono ?_; rintro r w1 ⟨rfl, rfl⟩)
  all_goals
    go_ret
    refine ⟨ret_bool (HR.out _ ?_), hB.drew⟩
    clear hB HR
    have h1 := H1.out
    have h2 := H2.out
    rw [h1, h2]
    first | rfl | (simp only [*]; simp; done) | (simp; done) | (simp; exact int_one n) | (rw [Bool.eq_iff_iff]; simp [int_one]; done) | (rw [Bool.eq_iff_iff]; simp; omega) | (clear h1 h2; cases d1 <;> cases d2 <;> cases z <;> first | contradiction | (rw [Bool.eq_iff_iff]; simp; done) | (rw [Bool.eq_iff_iff]; simp; omega))
set_option maxRecDepth 20000 in
set_option maxHeartbeats 4000000 in
theorem right_8 (e : Ex) (w : World) (ht : e.t.size ≤ 140737488355328) (hk : e.k = 8) :
    Calls Try.prog 126 #[e.val] w fun r w' => r = .returned (.bool (formOk e)) ∧ Below w.heap.size w w' := by
  have hB := (Below.refl w.heap.size w).alloc (Nat.le_refl _) (.cells e.cells 57)
  have HR : Hid (∀ b, _ → b = formOk e) := right_eq e
  rw [val_eq]
  rw [cells_eq] at hB
  generalize formOk e = F at *
  unfold noS at HR
  generalize e.kids.length = n at *
  generalize e.k = k at *
  generalize e.t = t at *
  have H1 : ∃ d1 : Bool, ((n : Int) == 0) = d1 ∧ Hid (decide (n = 0) = d1) := ⟨_, rfl, by unfold Hid; rw [Bool.eq_iff_iff]; simp⟩
  have H2 : ∃ d2 : Bool, t.toList.isEmpty = d2 ∧ Hid (decide (t.size = 0) = d2) := ⟨_, rfl, (tl_emp t).symm⟩
  obtain ⟨d1, hd1, H1⟩ := H1
  obtain ⟨d2, hd2, H2⟩ := H2
  subst hk
  go_enter Try.func126, Try.ntmps126
  go_wp2_with fail
  go_region
  clear hd1 hd2
  generalize ((wd e.S 0 == 0) && ((wd e.S 1 == 0) && ((wd e.S 2 == 0) && (wd e.S 3 == 0)))) = z at *
  go_wp2_with (go_at_call 97; refine (rname_any t _ ht).mono ?_; rintro r w1 ⟨rfl, rfl⟩)
  all_goals
    go_ret
    refine ⟨ret_bool (HR.out _ ?_), hB.drew⟩
    clear hB HR
    have h1 := H1.out
    have h2 := H2.out
    rw [h1, h2]
    first | rfl | (simp only [*]; simp; done) | (simp; done) | (simp; exact int_one n) | (rw [Bool.eq_iff_iff]; simp [int_one]; done) | (rw [Bool.eq_iff_iff]; simp; omega) | (clear h1 h2; cases d1 <;> cases d2 <;> cases z <;> first | contradiction | (rw [Bool.eq_iff_iff]; simp; done) | (rw [Bool.eq_iff_iff]; simp; omega))
set_option maxRecDepth 20000 in
set_option maxHeartbeats 4000000 in
theorem right_9 (e : Ex) (w : World) (ht : e.t.size ≤ 140737488355328) (hk : e.k = 9) :
    Calls Try.prog 126 #[e.val] w fun r w' => r = .returned (.bool (formOk e)) ∧ Below w.heap.size w w' := by
  have hB := (Below.refl w.heap.size w).alloc (Nat.le_refl _) (.cells e.cells 57)
  have HR : Hid (∀ b, _ → b = formOk e) := right_eq e
  rw [val_eq]
  rw [cells_eq] at hB
  generalize formOk e = F at *
  unfold noS at HR
  generalize e.kids.length = n at *
  generalize e.k = k at *
  generalize e.t = t at *
  have H1 : ∃ d1 : Bool, ((n : Int) == 0) = d1 ∧ Hid (decide (n = 0) = d1) := ⟨_, rfl, by unfold Hid; rw [Bool.eq_iff_iff]; simp⟩
  have H2 : ∃ d2 : Bool, t.toList.isEmpty = d2 ∧ Hid (decide (t.size = 0) = d2) := ⟨_, rfl, (tl_emp t).symm⟩
  obtain ⟨d1, hd1, H1⟩ := H1
  obtain ⟨d2, hd2, H2⟩ := H2
  subst hk
  go_enter Try.func126, Try.ntmps126
  go_wp2_with fail
  go_region
  clear hd1 hd2
  generalize ((wd e.S 0 == 0) && ((wd e.S 1 == 0) && ((wd e.S 2 == 0) && (wd e.S 3 == 0)))) = z at *
  go_wp2_with (go_at_call 97; refine (rname_any t _ ht).mono ?_; rintro r w1 ⟨rfl, rfl⟩)
  all_goals
    go_ret
    refine ⟨ret_bool (HR.out _ ?_), hB.drew⟩
    clear hB HR
    have h1 := H1.out
    have h2 := H2.out
    rw [h1, h2]
    first | rfl | (simp only [*]; simp; done) | (simp; done) | (simp; exact int_one n) | (rw [Bool.eq_iff_iff]; simp [int_one]; done) | (rw [Bool.eq_iff_iff]; simp; omega) | (clear h1 h2; cases d1 <;> cases d2 <;> cases z <;> first | contradiction | (rw [Bool.eq_iff_iff]; simp; done) | (rw [Bool.eq_iff_iff]; simp; omega))
set_option maxRecDepth 20000 in
set_option maxHeartbeats 4000000 in
theorem right_10 (e : Ex) (w : World) (ht : e.t.size ≤ 140737488355328) (hk : e.k = 10) :
    Calls Try.prog 126 #[e.val] w fun r w' => r = .returned (.bool (formOk e)) ∧ Below w.heap.size w w' := by
  have hB := (Below.refl w.heap.size w).alloc (Nat.le_refl _) (.cells e.cells 57)
  have HR : Hid (∀ b, _ → b = formOk e) := right_eq e
  rw [val_eq]
  rw [cells_eq] at hB
  generalize formOk e = F at *
  unfold noS at HR
  generalize e.kids.length = n at *
  generalize e.k = k at *
  generalize e.t = t at *
  have H1 : ∃ d1 : Bool, ((n : Int) == 0) = d1 ∧ Hid (decide (n = 0) = d1) := ⟨_, rfl, by unfold Hid; rw [Bool.eq_iff_iff]; simp⟩
  have H2 : ∃ d2 : Bool, t.toList.isEmpty = d2 ∧ Hid (decide (t.size = 0) = d2) := ⟨_, rfl, (tl_emp t).symm⟩
  obtain ⟨d1, hd1, H1⟩ := H1
  obtain ⟨d2, hd2, H2⟩ := H2
  subst hk
  go_enter Try.func126, Try.ntmps126
  go_wp2_with fail
  go_region
  clear hd1 hd2
  generalize ((wd e.S 0 == 0) && ((wd e.S 1 == 0) && ((wd e.S 2 == 0) && (wd e.S 3 == 0)))) = z at *
  go_wp2_with (go_at_call 97; refine (rname_any t _ ht).mono ?_; rintro r w1 ⟨rfl, rfl⟩)
  all_goals
    go_ret
    refine ⟨ret_bool (HR.out _ ?_), hB.drew⟩
    clear hB HR
    have h1 := H1.out
    have h2 := H2.out
    rw [h1, h2]
    first | rfl | (simp only [*]; simp; done) | (simp; done) | (simp; exact int_one n) | (rw [Bool.eq_iff_iff]; simp [int_one]; done) | (rw [Bool.eq_iff_iff]; simp; omega) | (clear h1 h2; cases d1 <;> cases d2 <;> cases z <;> first | contradiction | (rw [Bool.eq_iff_iff]; simp; done) | (rw [Bool.eq_iff_iff]; simp; omega))
set_option maxRecDepth 20000 in
set_option maxHeartbeats 4000000 in
theorem right_11 (e : Ex) (w : World) (ht : e.t.size ≤ 140737488355328) (hk : e.k = 11) :
    Calls Try.prog 126 #[e.val] w fun r w' => r = .returned (.bool (formOk e)) ∧ Below w.heap.size w w' := by
  have hB := (Below.refl w.heap.size w).alloc (Nat.le_refl _) (.cells e.cells 57)
  have HR : Hid (∀ b, _ → b = formOk e) := right_eq e
  rw [val_eq]
  rw [cells_eq] at hB
  generalize formOk e = F at *
  unfold noS at HR
  generalize e.kids.length = n at *
  generalize e.k = k at *
  generalize e.t = t at *
  have H1 : ∃ d1 : Bool, ((n : Int) == 0) = d1 ∧ Hid (decide (n = 0) = d1) := ⟨_, rfl, by unfold Hid; rw [Bool.eq_iff_iff]; simp⟩
  have H2 : ∃ d2 : Bool, t.toList.isEmpty = d2 ∧ Hid (decide (t.size = 0) = d2) := ⟨_, rfl, (tl_emp t).symm⟩
  obtain ⟨d1, hd1, H1⟩ := H1
  obtain ⟨d2, hd2, H2⟩ := H2
  subst hk
  go_enter Try.func126, Try.ntmps126
  go_wp2_with fail
  go_region
  clear hd1 hd2
  generalize ((wd e.S 0 == 0) && ((wd e.S 1 == 0) && ((wd e.S 2 == 0) && (wd e.S 3 == 0)))) = z at *
  go_wp2_with (go_at_call 97; refine (rname_any t _ ht).mono ?_; rintro r w1 ⟨rfl, rfl⟩)
  all_goals
    go_ret
    refine ⟨ret_bool (HR.out _ ?_), hB.drew⟩
    clear hB HR
    have h1 := H1.out
    have h2 := H2.out
    rw [h1, h2]
    first | rfl | (simp only [*]; simp; done) | (simp; done) | (simp; exact int_one n) | (rw [Bool.eq_iff_iff]; simp [int_one]; done) | (rw [Bool.eq_iff_iff]; simp; omega) | (clear h1 h2; cases d1 <;> cases d2 <;> cases z <;> first | contradiction | (rw [Bool.eq_iff_iff]; simp; done) | (rw [Bool.eq_iff_iff]; simp; omega))
set_option maxRecDepth 20000 in
set_option maxHeartbeats 4000000 in
theorem right_not (e : Ex) (w : World) (ht : e.t.size ≤ 140737488355328) (hk : ¬ (1 ≤ e.k ∧ e.k ≤ 11)) :
    Calls Try.prog 126 #[e.val] w fun r w' => r = .returned (.bool (formOk e)) ∧ Below w.heap.size w w' := by
  have hB := (Below.refl w.heap.size w).alloc (Nat.le_refl _) (.cells e.cells 57)
  have HR : Hid (∀ b, _ → b = formOk e) := right_eq e
  rw [val_eq]
  rw [cells_eq] at hB
  generalize formOk e = F at *
  unfold noS at HR
  generalize e.kids.length = n at *
  generalize e.k = k at *
  generalize e.t = t at *
  have H1 : ∃ d1 : Bool, ((n : Int) == 0) = d1 ∧ Hid (decide (n = 0) = d1) := ⟨_, rfl, by unfold Hid; rw [Bool.eq_iff_iff]; simp⟩
  have H2 : ∃ d2 : Bool, t.toList.isEmpty = d2 ∧ Hid (decide (t.size = 0) = d2) := ⟨_, rfl, (tl_emp t).symm⟩
  obtain ⟨d1, hd1, H1⟩ := H1
  obtain ⟨d2, hd2, H2⟩ := H2
  have HK : Hid (¬ (1 ≤ k ∧ k ≤ 11)) := hk
  have g : ∀ m : Int, 1 ≤ m → m ≤ 11 → (k == m) = false := fun m h1 h2 => by simp; omega
  have g1 := g 1 (by omega) (by omega)
  have g2 := g 2 (by omega) (by omega)
  have g3 := g 3 (by omega) (by omega)
  have g4 := g 4 (by omega) (by omega)
  have g5 := g 5 (by omega) (by omega)
  have g6 := g 6 (by omega) (by omega)
  have hor : (decide (7 ≤ k) = false) ∨ (decide (7 ≤ k) = true ∧ decide (k ≤ 11) = false) := by
    by_cases h : 7 ≤ k
    · exact .inr ⟨by simpa using h, by simp; omega⟩
    · exact .inl (by simpa using h)
  clear g hk
  go_enter Try.func126, Try.ntmps126
  go_wp2_with fail
  go_region
  clear hd1 hd2
  generalize ((wd e.S 0 == 0) && ((wd e.S 1 == 0) && ((wd e.S 2 == 0) && (wd e.S 3 == 0)))) = z at *
  rcases hor with h7 | ⟨h7, h8⟩
  all_goals
    go_wp2_with fail
    go_ret
    refine ⟨ret_bool (HR.out _ ?_), hB.drew⟩
    clear hB HR
    have hk := HK.out
    rw [if_neg (by omega), if_neg (by omega), if_neg (by omega), if_neg (by omega), if_neg (by omega), if_neg (by omega)]
theorem right_any (e : Ex) (w : World) (ht : e.t.size ≤ 140737488355328) :
    Calls Try.prog 126 #[e.val] w fun r w' => r = .returned (.bool (formOk e)) ∧ Below w.heap.size w w' := by
  by_cases hk : 1 ≤ e.k ∧ e.k ≤ 11
  · obtain h | h | h | h | h | h | h | h | h | h | h : e.k = 1 ∨ e.k = 2 ∨ e.k = 3 ∨ e.k = 4 ∨ e.k = 5 ∨ e.k = 6 ∨ e.k = 7 ∨ e.k = 8 ∨ e.k = 9 ∨ e.k = 10 ∨ e.k = 11 := by omega
    · exact right_1 e w ht h
    · exact right_2 e w ht h
    · exact right_3 e w ht h
    · exact right_4 e w ht h
    · exact right_5 e w ht h
    · exact right_6 e w ht h
    · exact right_7 e w ht h
    · exact right_8 e w ht h
    · exact right_9 e w ht h
    · exact right_10 e w ht h
    · exact right_11 e w ht h
  · exact right_not e w ht hk
end Go.Proofs.Ytokdaapmejccbaa
