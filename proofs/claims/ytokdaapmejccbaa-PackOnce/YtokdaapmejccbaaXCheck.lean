import Derived.Test.YtokdaapmejccbaaXName
import Derived.Test.YtokdaapmejccbaaXEq
import Derived.Test.YtokdaapmejccbaaXGoT
import Derived.BigRegion
import Derived.BigQuiet
namespace Go.Proofs.Ytokdaapmejccbaa
open Go.RowKit
/-- Whether a set is empty, by its words. -/
def noS (S : BitVec 256) : Bool := (wd S 0 == 0) && ((wd S 1 == 0) && ((wd S 2 == 0) && (wd S 3 == 0)))
def textOk (e : Ex) : Bool := if e.k = 3 then !decide (e.t.size = 0) && decide (e.t.size ≤ 12) else if e.k = 4 then isName e.t.data.toList else decide (e.t.size = 0)
def setOk (e : Ex) : Bool := decide (e.k = 2) || noS e.S
def kidsOk (e : Ex) : Bool := if e.k = 1 ∨ e.k = 2 ∨ e.k = 3 ∨ e.k = 4 then decide (e.kids.length = 0) else if e.k = 5 ∨ e.k = 6 then decide (2 ≤ e.kids.length) && decide (e.kids.length ≤ 8) else if 7 ≤ e.k ∧ e.k ≤ 11 then decide (e.kids.length = 1) else false
/-- A node is in its form, its kids aside. -/
def formOk (e : Ex) : Bool := textOk e && setOk e && kidsOk e
attribute [local go_sem] eq_arr
set_option linter.unusedSimpArgs false
theorem tl_iff (s : ByteArray) : s.toList = [] ↔ s.size = 0 := by
  rw [ByteArray.toList_eq]
  obtain ⟨⟨l⟩⟩ := s
  cases l <;> simp [ByteArray.size]
theorem tl_emp (s : ByteArray) : s.toList.isEmpty = decide (s.size = 0) := by
  rw [Bool.eq_iff_iff, List.isEmpty_iff, tl_iff]; simp
set_option maxRecDepth 20000 in
set_option maxHeartbeats 1000000 in
theorem textFits_any (e : Ex) (w : World) :
    Calls Try.prog 137 #[e.val] w fun r w' => r = .returned (.bool (textOk e)) ∧ Below w.heap.size w w' := by
  have hB := (Below.refl w.heap.size w).alloc (Nat.le_refl _) (.cells e.cells 57)
  rw [val_eq]
  rw [cells_eq] at hB
  unfold textOk
  generalize e.k = k at *
  generalize e.t = t at *
  by_cases h3 : k = 3
  · subst h3
    rw [if_pos rfl]
    go_enter Try.func137, Try.ntmps137
    go_wp2_with fail
    all_goals (go_ret; refine ⟨ret_bool ?_, hB⟩; clear hB; rw [Bool.eq_iff_iff]; simp only [tl_iff, tl_emp] at *; simp only [Bool.and_eq_true, Bool.not_eq_true', decide_eq_true_eq, decide_eq_false_iff_not, Bool.false_eq_true, true_iff, false_iff]; omega)
  · rw [if_neg h3]
    have g3 : (k == 3) = false := by simpa using h3
    by_cases h4 : k = 4
    · subst h4
      rw [if_pos rfl]
      go_enter Try.func137, Try.ntmps137
      go_wp2_with (go_at_call 85; refine (name_any t _).mono ?_; rintro r w1 ⟨rfl, rfl⟩)
      go_ret
      exact ⟨rfl, hB⟩
    · rw [if_neg h4]
      have g4 : (k == 4) = false := by simpa using h4
      clear h3 h4
      go_enter Try.func137, Try.ntmps137
      go_wp2_with fail
      all_goals (go_ret; refine ⟨ret_bool ?_, hB⟩; clear hB; rw [Bool.eq_iff_iff]; simp only [tl_iff, tl_emp] at *)
set_option maxRecDepth 20000 in
set_option maxHeartbeats 1000000 in
theorem setFits_any (e : Ex) (w : World) :
    Calls Try.prog 138 #[e.val] w fun r w' => r = .returned (.bool (setOk e)) ∧ Below w.heap.size w w' := by
  have hB := (Below.refl w.heap.size w).alloc (Nat.le_refl _) (.cells e.cells 57)
  rw [val_eq]
  rw [cells_eq] at hB
  unfold setOk noS
  generalize e.k = k at *
  by_cases h2 : k = 2
  · subst h2
    go_enter Try.func138, Try.ntmps138
    go_wp2_with fail
    go_ret
    exact ⟨rfl, hB⟩
  · have g2 : (k == 2) = false := by simpa using h2
    rw [decide_eq_false h2]
    clear h2
    go_enter Try.func138, Try.ntmps138
    go_wp2_with fail
    go_ret
    exact ⟨rfl, hB⟩
set_option maxRecDepth 20000 in
set_option maxHeartbeats 1000000 in
theorem kidsFit_any (e : Ex) (w : World) :
    Calls Try.prog 139 #[e.val] w fun r w' => r = .returned (.bool (kidsOk e)) ∧ Below w.heap.size w w' := by
  have hB := (Below.refl w.heap.size w).alloc (Nat.le_refl _) (.cells e.cells 57)
  rw [val_eq]
  rw [cells_eq] at hB
  unfold kidsOk
  generalize e.kids.length = n at *
  generalize e.k = k at *
  by_cases hk : 1 ≤ k ∧ k ≤ 11
  · obtain rfl | rfl | rfl | rfl | rfl | rfl | rfl | rfl | rfl | rfl | rfl : k = 1 ∨ k = 2 ∨ k = 3 ∨ k = 4 ∨ k = 5 ∨ k = 6 ∨ k = 7 ∨ k = 8 ∨ k = 9 ∨ k = 10 ∨ k = 11 := by omega
    all_goals
      go_enter Try.func139, Try.ntmps139
      go_wp2_with fail
      all_goals (go_ret; refine ⟨ret_bool ?_, hB⟩; clear hB; rw [Bool.eq_iff_iff]; simp; try omega)
  · have g : ∀ m : Int, 1 ≤ m → m ≤ 11 → (k == m) = false := fun m h1 h2 => by simp; omega
    have g1 := g 1 (by omega) (by omega)
    have g2 := g 2 (by omega) (by omega)
    have g3 := g 3 (by omega) (by omega)
    have g4 := g 4 (by omega) (by omega)
    have g5 := g 5 (by omega) (by omega)
    have g6 := g 6 (by omega) (by omega)
    have g7 := g 7 (by omega) (by omega)
    have g8 := g 8 (by omega) (by omega)
    have g9 := g 9 (by omega) (by omega)
    have g10 := g 10 (by omega) (by omega)
    have g11 := g 11 (by omega) (by omega)
    clear g
    rw [if_neg (by omega), if_neg (by omega), if_neg (by omega)]
    clear hk
    go_enter Try.func139, Try.ntmps139
    go_wp2_with fail
    go_ret
    exact ⟨rfl, hB⟩
set_option maxRecDepth 20000 in
set_option maxHeartbeats 1000000 in
theorem inForm_any (e : Ex) (w : World) :
    Calls Try.prog 116 #[e.val] w fun r w' => r = .returned (.bool (formOk e)) ∧ Below w.heap.size w w' := by
  have hB := (Below.refl w.heap.size w).alloc (Nat.le_refl _) (.cells e.cells 57)
  have h37 := fun w => textFits_any e w
  have h38 := fun w => setFits_any e w
  have h39 := fun w => kidsFit_any e w
  have hL : ∀ {w'}, Below (w.heap.size + 1) (w.alloc (.cells e.cells 57)) w' → Below w.heap.size w w' ∧ ∀ j, w'.cell? ⟨w.heap.size, j, none⟩ = e.cells[j]? := fun h =>
    ⟨hB.trans (h.mono (by omega)), fun j => by rw [h.cell (p := ⟨w.heap.size, j, none⟩) (by show w.heap.size < _; omega)]; unfold World.cell?; rw [World.alloc_heap_new]; rfl⟩
  have hsz : (w.alloc (.cells e.cells 57)).heap.size = w.heap.size + 1 := by simp
  rw [val_eq] at h37 h38 h39 ⊢
  rw [cells_eq] at hB hL hsz
  unfold formOk
  go_enter Try.func116, Try.ntmps116
  go_wp2_with fail
  refine (h37 _).mono ?_
  rintro r w1 ⟨rfl, hb1⟩
  rw [hsz] at hb1
  obtain ⟨hB1, hc1⟩ := hL hb1
  cases hT : textOk e with
  | false =>
    clear h37 h38 h39 hL hb1
    go_wp2_with fail
    go_ret
    exact ⟨ret_bool (by rw [hT]; rfl), hB1⟩
  | true =>
    have hs1 := hb1.size
    rw [hsz] at hs1
    go_wp2_with fail
    refine (h38 _).mono ?_
    rintro r w2 ⟨rfl, hb2⟩
    have hb2' := hb1.trans (hb2.mono hs1)
    obtain ⟨hB2, hc2⟩ := hL hb2'
    have hs2 : w.heap.size + 1 ≤ w2.heap.size := Nat.le_trans hs1 hb2.size
    clear hB1 hc1 hb1 hb2
    cases hS : setOk e with
    | false =>
      clear h37 h38 h39 hL hb2'
      go_wp2_with fail
      go_ret
      exact ⟨ret_bool (by rw [hT, hS]; rfl), hB2⟩
    | true =>
      go_wp2_with fail
      refine (h39 _).mono ?_
      rintro r w3 ⟨rfl, hb3⟩
      obtain ⟨hB3, hc3⟩ := hL (hb2'.trans (hb3.mono hs2))
      clear h37 h38 h39 hL hb2' hb3 hc2 hB2
      go_wp2_with fail
      go_ret
      exact ⟨ret_bool (by rw [hT, hS]; rfl), hB3⟩
theorem right_eq (e : Ex) (b : Bool) (h : b = (if e.k = 1 then decide (e.kids.length = 0) && decide (e.t.size = 0) && noS e.S else if e.k = 2 then decide (e.kids.length = 0) && decide (e.t.size = 0) else if e.k = 3 then decide (e.kids.length = 0) && noS e.S && !decide (e.t.size = 0) && decide (e.t.size ≤ 12) else if e.k = 4 then decide (e.kids.length = 0) && noS e.S && isName e.t.data.toList else if e.k = 5 ∨ e.k = 6 then decide (e.t.size = 0) && noS e.S && decide (2 ≤ e.kids.length) && decide (e.kids.length ≤ 8) else if 7 ≤ e.k ∧ e.k ≤ 11 then decide (e.t.size = 0) && noS e.S && decide (e.kids.length = 1) else false)) : b = formOk e := by
  subst h
  unfold formOk textOk setOk kidsOk
  generalize e.kids.length = n
  generalize isName e.t.data.toList = q
  generalize e.t.size = m
  generalize noS e.S = z
  generalize e.k = k
  by_cases hk : 1 ≤ k ∧ k ≤ 11
  · obtain rfl | rfl | rfl | rfl | rfl | rfl | rfl | rfl | rfl | rfl | rfl : k = 1 ∨ k = 2 ∨ k = 3 ∨ k = 4 ∨ k = 5 ∨ k = 6 ∨ k = 7 ∨ k = 8 ∨ k = 9 ∨ k = 10 ∨ k = 11 := by omega
    all_goals (rw [Bool.eq_iff_iff]; simp; try (cases z <;> cases q <;> simp <;> try omega))
    all_goals (try exact and_comm)
  · rw [if_neg (by omega), if_neg (by omega), if_neg (by omega), if_neg (by omega), if_neg (by omega), if_neg (by omega), if_neg (by omega : ¬ (k = 1 ∨ k = 2 ∨ k = 3 ∨ k = 4)), if_neg (by omega : ¬ (k = 5 ∨ k = 6)), if_neg (by omega : ¬ (7 ≤ k ∧ k ≤ 11))]
    simp
end Go.Proofs.Ytokdaapmejccbaa
namespace Go.Proofs.Ytokdaapmejccbaa
open Go.RowKit Go.Shelf
attribute [local go_sem] Oper.semAt_some
/-- What is wrong first, n nodes having come. -/
def chk : Nat → List (Int × Ex) → Int
  | _, [] => 0
  | n, (d, x) :: r => if 60 < n + 1 then 2 else if 12 < d then 5 else if formOk x then chk (n + 1) r else 3
/-- What Check tells. -/
def check (e : Ex) : Int := chk 0 (e.nodes 1)
/-- Block B holds the cells cs of type t, and may be written. -/
def BoxN (W : World) (B : Nat) (t : TypeId) (cs : Array Value) : Prop := W.heap[B]? = some (.cells cs t (0, 0))
theorem BoxN.lt {W : World} {B : Nat} {t : TypeId} {cs : Array Value} (h : BoxN W B t cs) : B < W.heap.size := (Array.getElem?_eq_some_iff.1 h).1
theorem BoxN.cell {W : World} {B : Nat} {t : TypeId} {cs : Array Value} (h : BoxN W B t cs) (j : Nat) : W.cell? ⟨B, j, none⟩ = cs[j]? := by simp [World.cell?, show W.heap[B]? = _ from h]
theorem BoxN.new (W : World) (t : TypeId) (cs : Array Value) : BoxN (W.alloc (.cells cs t)) W.heap.size t cs := World.alloc_heap_new W _
theorem BoxN.kept {W W' : World} {row : Option Nat} {B : Nat} {t : TypeId} {cs : Array Value} (h : BoxN W B t cs) (hg : W.grownBy W' row) (hne : some B ≠ row) : BoxN W' B t cs := (hg.block B h.lt hne).trans h
theorem BoxN.alloc {W : World} {B : Nat} {t : TypeId} {cs : Array Value} (h : BoxN W B t cs) (o : Obj) : BoxN (W.alloc o) B t cs := h.kept (World.grownBy_alloc W o none) (by simp)
theorem BoxN.below {W W' : World} {B n : Nat} {t : TypeId} {cs : Array Value} (h : BoxN W B t cs) (hb : Below n W W') (hB : B < n) : BoxN W' B t cs := by
  unfold BoxN at h ⊢; rw [hb.block B hB]; exact h
theorem boxN_own {β : Type} (B : Nat) (t : TypeId) (f : β → Array Value) : Own (fun s W => BoxN W B t (f s)) := fun s X Y row hs hg hrow =>
  hs.kept hg (fun e' => by obtain ⟨o, ho, hc⟩ := hrow B e'.symm; rw [show X.heap[B]? = _ from hs] at ho; cases ho; cases hc)
theorem BoxN.other {W : World} {B B' : Nat} {t : TypeId} {cs : Array Value} (h : BoxN W B t cs) (hne : B ≠ B') (u : Value) : BoxN (W.setCell ⟨B', 0, none⟩ u) B t cs := h.kept (grownBy_setCell' W B' u) (fun e => hne (by cases e; rfl))
theorem boxed_below {W W' : World} {B n : Nat} {t : TypeId} {v : Value} (h : Boxed W B t v) (hb : Below n W W') (hB : B < n) : Boxed W' B t v := by
  unfold Boxed at h ⊢; rw [hb.block B hB]; exact h
theorem Kp.setCell {lo hi : Nat} (W : World) (B : Nat) (v : Value) (h1 : lo ≤ B) (h2 : B < hi) : Kp lo hi W (W.setCell ⟨B, 0, none⟩ v) :=
  ⟨by simp, fun k o hk h _ => by
    have hg := grownBy_setCell' W B v
    exact (hg.block k (Array.getElem?_eq_some_iff.1 h).1 (fun e => by cases e; omega)).trans h⟩
theorem Kp.below {lo hi n : Nat} {W W' : World} (h : Below n W W') (hs : W.heap.size ≤ n) : Kp lo hi W W' :=
  ⟨h.size, fun k _ _ ho _ => (h.block k (Nat.lt_of_lt_of_le (Array.getElem?_eq_some_iff.1 ho).1 hs)).trans ho⟩
theorem KeepsOthers.below {n : Nat} {W W' : World} (h : Below n W W') (hs : W.heap.size ≤ n) : KeepsOthers W W' :=
  ⟨h.size, fun k _ hk _ => (h.block k (Nat.lt_of_lt_of_le (Array.getElem?_eq_some_iff.1 hk).1 hs)).trans hk⟩
def chkI (pre : List (Int × Ex)) : Prop := pre.length ≤ 60 ∧ ∀ r, chk 0 (pre ++ r) = chk pre.length r
theorem chkI_step (pre : List (Int × Ex)) (x : Int × Ex) (h : chkI pre) (h1 : pre.length < 60) (h2 : x.1 ≤ 12) (h3 : formOk x.2 = true) : chkI (pre ++ [x]) := by
  refine ⟨by simp; omega, fun r => ?_⟩
  rw [List.append_assoc, h.2]
  obtain ⟨d, y⟩ := x
  show chk pre.length ((d, y) :: r) = _
  rw [chk, if_neg (by omega), if_neg (by simp at h2; omega), if_pos h3]
  simp
theorem chkI_stop (pre : List (Int × Ex)) (x : Int × Ex) (h : chkI pre) (v : Int) (hv : ∀ r, chk pre.length (x :: r) = v) (r : List (Int × Ex)) : chk 0 ((pre ++ [x]) ++ r) = v := by
  rw [List.append_assoc, h.2]
  exact hv r
theorem chk_large (n : Nat) (x : Int × Ex) (r : List (Int × Ex)) (h : 60 ≤ n) : chk n (x :: r) = 2 := by
  obtain ⟨d, y⟩ := x
  rw [chk, if_pos (by omega)]
theorem chk_deep (n : Nat) (x : Int × Ex) (r : List (Int × Ex)) (h : n < 60) (hd : 12 < x.1) : chk n (x :: r) = 5 := by
  obtain ⟨d, y⟩ := x
  rw [chk, if_neg (by omega), if_pos hd]
theorem chk_form (n : Nat) (x : Int × Ex) (r : List (Int × Ex)) (h : n < 60) (hd : x.1 ≤ 12) (hf : formOk x.2 = false) : chk n (x :: r) = 3 := by
  obtain ⟨d, y⟩ := x
  rw [chk, if_neg (by omega), if_neg (by simp at hd; omega), if_neg (by simpa using hf)]
set_option maxRecDepth 100000 in
set_option maxHeartbeats 2000000 in
theorem check_in (n : Nat) (hn : 3 ≤ n) (e : Ex) (w : World) (hin : e.In w.heap.size w) :
    CallsIn Fence.wide n Try.prog 86 #[e.val] w fun r W' => r = .returned (.int .i64 (check e)) ∧ Below w.heap.size w W' := by
  have h1 : 1 ≤ n := by omega
  have hdd : ∀ k : Nat, (Fence.wide.depth.isSome = true → 1 ≤ k) := fun k h => by cases h
  have hnodes := fun w => nodes_in (n - 1) e w
  have bE := ((BoxN.new w 57 e.cells).alloc (.cells #[.int .i64 0] 25)).alloc (.cells #[.int .i64 0] 3)
  have bR := (Boxed.new (w.alloc (.cells e.cells 57)) 25 (.int .i64 0)).alloc (.cells #[.int .i64 0] 3)
  have bC := Boxed.new ((w.alloc (.cells e.cells 57)).alloc (.cells #[.int .i64 0] 25)) 3 (.int .i64 0)
  have hB0 : Below w.heap.size w (((w.alloc (.cells e.cells 57)).alloc (.cells #[.int .i64 0] 25)).alloc (.cells #[.int .i64 0] 3)) := (((Below.refl _ w).alloc (Nat.le_refl _) _).alloc (by simp) _).alloc (by simp; omega) _
  have hsz : (((w.alloc (.cells e.cells 57)).alloc (.cells #[.int .i64 0] 25)).alloc (.cells #[.int .i64 0] 3)).heap.size = w.heap.size + 3 := by simp
  simp only [World.size_alloc] at bR bC
  refine callsIn_of_wp_marks Try.func86 rfl trivial ?_ rfl
  rw [val_eq] at hnodes ⊢
  simp only [Try.ntmps86, List.size_toArray, List.length_cons, List.length_nil, Nat.reduceAdd, Nat.reduceSub, Array.replicate_succ, Array.replicate_zero, List.push_toArray, List.append_toArray, List.nil_append, List.cons_append]
  gi_wp2_with ((try refine ⟨trivial, ?_⟩); gi_at_call 115; refine (hnodes _).mono ?_; rintro r w' ⟨rfl, rfl⟩)
  simp only [← cells_eq]
  have bE := bE.alloc (.cells e.cells 57)
  have bR := bR.alloc (.cells e.cells 57)
  have bC := bC.alloc (.cells e.cells 57)
  have bN := BoxN.new (((w.alloc (.cells e.cells 57)).alloc (.cells #[.int .i64 0] 25)).alloc (.cells #[.int .i64 0] 3)) 57 e.cells
  have hB0 := hB0.alloc (by omega) (.cells e.cells 57)
  rw [show (((w.alloc (.cells e.cells 57)).alloc (.cells #[.int .i64 0] 25)).alloc (.cells #[.int .i64 0] 3)).heap.size = w.heap.size + 1 + 1 + 1 from by simp] at bN
  obtain ⟨W0, hW0⟩ : ∃ W0, (((w.alloc (.cells e.cells 57)).alloc (.cells #[.int .i64 0] 25)).alloc (.cells #[.int .i64 0] 3)).alloc (.cells e.cells 57) = W0 := ⟨_, rfl⟩
  have hsz : W0.heap.size = w.heap.size + 4 := by rw [← hW0]; simp
  rw [hW0] at bE bR bC bN hB0 ⊢
  clear hW0 hnodes
  refine wpIn_rangeFunc_ownH rfl h1 (gf := 135) (lb := #[.pointer (some ⟨w.heap.size + 1 + 1 + 1, 0, none⟩)]) rfl trivial (enters_of Try.func135 (by kernel_rfl) rfl)
    (nodes_stops (n - 1) (w.heap.size + 1 + 1 + 1) w.heap.size (w.heap.size + 1) (w.heap.size + 3) (by omega) e W0 (by omega) (by omega) (by omega) bN.cell (hin.below hB0)) Kp.trans (fun W l o o' _ hl hc _ => Kp.put W l o o' hl hc) (Below.refl _ _) (fun _ => rfl)
    (fun pre W => ((Boxed W (w.heap.size + 1 + 1) 3 (.int .i64 (pre.length : Int)) ∧ Boxed W (w.heap.size + 1) 25 (.int .i64 0)) ∧ Hid (chkI pre)) ∧ Below w.heap.size w W)
    (fun c pre W => ((c = .ret) ∧ ∃ v : Int, Boxed W (w.heap.size + 1) 25 (.int .i64 v) ∧ ∀ r, chk 0 (pre ++ r) = v) ∧ Below w.heap.size w W)
    (OwnFrom.and (OwnFrom.and (OwnFrom.and (Own.from (boxed_own _ _ _) _) (Own.from (boxed_own _ _ _) _)) (ownFrom_pure _ _)) (ownFrom_below (Nat.le_refl _) (by omega)))
    (fun c => OwnFrom.and (fun s X Y row hs hg hr => ⟨hs.1, by obtain ⟨v, h1, h2⟩ := hs.2; exact ⟨v, boxed_own (w.heap.size + 1) 25 (fun (_ : Unit) => Value.int .i64 v) () X Y row h1 hg (fun r e => (hr r e).2), h2⟩⟩) (ownFrom_below (Nat.le_refl _) (by omega)))
    ⟨⟨⟨bC, bR⟩, ⟨by simp, fun r => rfl⟩⟩, hB0⟩
    (fun x a' W => ∃ Bx, w.heap.size + 1 + 1 < Bx ∧ BoxN W Bx 57 x.2.cells ∧ a' = { tmps := #[.agg e.cells, .pointer (some ⟨w.heap.size, 0, none⟩), .pointer (some ⟨w.heap.size + 1, 0, none⟩), .pointer (some ⟨w.heap.size + 1 + 1, 0, none⟩), .int .i64 x.1, .pointer (some ⟨Bx, 0, none⟩), .agg e.cells, .func (.func 135) #[] #[.pointer (some ⟨w.heap.size + 1 + 1 + 1, 0, none⟩)], .int .i64 x.1, x.2.val, undef, undef, undef, undef, undef, undef, undef, undef, undef, undef, undef, undef], defers := [] })
    (fun x a' _ X Y row hs hg hr => by obtain ⟨Bx, h1, h2, h3⟩ := hs; exact ⟨Bx, h1, boxN_own Bx 57 (fun (_ : Unit) => x.2.cells) () X Y row h2 hg (fun r e => (hr r e).2), h3⟩)
    ?assign ?body ?done ?stop
  case assign =>
    rintro l pre x W K ⟨⟨⟨bC1, bR1⟩, HC⟩, hB1⟩ hK
    rw [val_eq]
    gi_wp2
    simp only [← cells_eq]
    exact hK _ _ ((KeepsOthers.alloc _ _).from _) (Kp.alloc _ _ _ _) ⟨⟨⟨bC1.alloc _, bR1.alloc _⟩, HC⟩, hB1.alloc hB1.size _⟩ ⟨W.heap.size, bC1.lt, BoxN.new W 57 _, rfl⟩
  case body =>
    rintro l pre x a' W hl ⟨r, hr⟩ ⟨⟨⟨bC1, bR1⟩, HC⟩, hB1⟩ ⟨Bx, hBx, bX, rfl⟩ hlt
    have cC := bC1.cell
    have fC := bC1.frozen
    have h1' : 1 ≤ n - 1 - 1 ∨ True := .inr trivial
    have hlen : pre.length ≤ 60 := HC.out.1
    have bC2 := bC1.set (.int .i64 ((pre.length : Int) + 1))
    have bR2 := bR1.other (by omega : w.heap.size + 1 ≠ w.heap.size + 1 + 1) (.int .i64 ((pre.length : Int) + 1))
    have bX2 := bX.other (by omega : Bx ≠ w.heap.size + 1 + 1) (.int .i64 ((pre.length : Int) + 1))
    have hB2 := hB1.setCell (p := ⟨w.heap.size + 1 + 1, 0, none⟩) (by simp; omega) (.int .i64 ((pre.length : Int) + 1))
    have hK2 : KeepsFrom W0.heap.size W (W.setCell ⟨w.heap.size + 1 + 1, 0, none⟩ (.int .i64 ((pre.length : Int) + 1))) := (KeepsOthers.setCell _ _ _).from _
    have hP2 : Kp (w.heap.size + 1) (w.heap.size + 3) W (W.setCell ⟨w.heap.size + 1 + 1, 0, none⟩ (.int .i64 ((pre.length : Int) + 1))) := Kp.setCell W _ _ (by omega) (by omega)
    have cC2 := bC2.cell
    have cR2 := bR2.cell
    have fR2 := bR2.frozen
    have cX2 := bX2.cell
    have hwr : wrap64 ((pre.length : Int) + 1) = (pre.length : Int) + 1 := by unfold wrap64; omega
    generalize hWW : W.setCell ⟨w.heap.size + 1 + 1, 0, none⟩ (.int .i64 ((pre.length : Int) + 1)) = W2 at *
    have HW : Hid (W.setCell ⟨w.heap.size + 1 + 1, 0, none⟩ (.int .i64 ((pre.length : Int) + 1)) = W2) := hWW
    have hout : ∀ (W' : World) (v : Int), Boxed W' (w.heap.size + 1) 25 (.int .i64 0) → (∀ r, chk pre.length (x :: r) = v) → KeepsFrom W0.heap.size W W' → Below w.heap.size w W' →
        KeepsFrom W0.heap.size W (W'.setCell ⟨w.heap.size + 1, 0, none⟩ (.int .i64 v)) ∧ ((∃ u : Int, Boxed (W'.setCell ⟨w.heap.size + 1, 0, none⟩ (.int .i64 v)) (w.heap.size + 1) 25 (.int .i64 u) ∧ ∀ r, chk 0 ((pre ++ [x]) ++ r) = u) ∧ Below w.heap.size w (W'.setCell ⟨w.heap.size + 1, 0, none⟩ (.int .i64 v))) :=
      fun W' v hb hv hk hbw => ⟨hk.trans ((KeepsOthers.setCell _ _ _).from _), ⟨v, hb.set _, fun r => chkI_stop pre x HC.out v hv r⟩, hbw.setCell (p := ⟨w.heap.size + 1, 0, none⟩) (by simp) _⟩
    have HO : Hid _ := hout
    clear hout hsz
    clear hsz
    have hback : ∀ W3, Below W2.heap.size W2 W3 → Boxed W3 (w.heap.size + 1) 25 (.int .i64 0) ∧ Boxed W3 (w.heap.size + 1 + 1) 3 (.int .i64 ((pre.length : Int) + 1)) ∧ KeepsFrom W0.heap.size W W3 ∧ Below w.heap.size w W3 ∧ Kp (w.heap.size + 1) (w.heap.size + 3) W W3 := fun W3 hb =>
      ⟨boxed_below bR2 hb bR2.lt, boxed_below bC2 hb bC2.lt, hK2.trans ((KeepsOthers.below hb (Nat.le_refl _)).from _), hB2.trans (hb.mono hB2.size), hP2.trans (Kp.below hb (Nat.le_refl _))⟩
    have HBk : Hid _ := hback
    have HR2 : Hid (Boxed W2 (w.heap.size + 1) 25 (.int .i64 0) ∧ KeepsFrom W0.heap.size W W2 ∧ Below w.heap.size w W2) := ⟨bR2, hK2, hB2⟩
    clear hback bC2 bR2 bX2 hB2 hK2 hP2 bC1 bR1 bX hB1
    by_cases h60 : pre.length = 60
    · have g : decide ((60 : Int) < (pre.length : Int) + 1) = true := by simp; omega
      have H60 : Hid (60 ≤ pre.length) := Nat.le_of_eq h60.symm
      clear h60
      gi_wp2
      have q := HO.out W2 2 HR2.out.1 (fun r => chk_large _ x r H60.out) HR2.out.2.1 HR2.out.2.2
      exact ⟨q.1, ⟨rfl, q.2.1⟩, q.2.2⟩
    · have g : decide ((60 : Int) < (pre.length : Int) + 1) = false := by simp; omega
      have h59 : pre.length < 60 := by omega
      clear h60
      by_cases h12 : 12 < x.1
      · have g2 : decide ((12 : Int) < x.1) = true := by simpa using h12
        have H12 : Hid (12 < x.1) := h12
        clear h12
        gi_wp2
        have q := HO.out W2 5 HR2.out.1 (fun r => chk_deep _ x r h59 H12.out) HR2.out.2.1 HR2.out.2.2
        exact ⟨q.1, ⟨rfl, q.2.1⟩, q.2.2⟩
      · have g2 : decide ((12 : Int) < x.1) = false := by simpa using h12
        have H12 : Hid (x.1 ≤ 12) := by unfold Hid; omega
        clear h12
        have hform := fun w => CallsIn.inRound l (callsIn_wide (n := n - 1 - 1 - 1) |>.2 (inForm_any x.2 w))
        rw [val_eq] at hform
        rw [cells_eq] at cX2
        cases hf : formOk x.2 with
        | false =>
          have HF : Hid (formOk x.2 = false) := hf
          rw [hf] at hform
          clear hf
          gi_wp2_with ((try refine ⟨trivial, hdd _, ?_⟩); gi_at_call 116; refine (hform _).mono ?_; clear hform; rintro r W3 ⟨rfl, hb3⟩; have HB3 : Hid _ := HBk.out W3 hb3; have cR3 := HB3.out.1.cell; have fR3 := HB3.out.1.frozen; clear hb3)
          obtain ⟨q1, q2, q3, q4, q5⟩ := HB3.out
          have q := HO.out W3 3 q1 (fun r => chk_form _ x r h59 H12.out HF.out) q3 q4
          exact ⟨q.1, ⟨rfl, q.2.1⟩, q.2.2⟩
        | true =>
          have HF : Hid (formOk x.2 = true) := hf
          rw [hf] at hform
          clear hf
          gi_wp2_with ((try refine ⟨trivial, hdd _, ?_⟩); gi_at_call 116; refine (hform _).mono ?_; clear hform; rintro r W3 ⟨rfl, hb3⟩; have HB3 : Hid _ := HBk.out W3 hb3; clear hb3)
          obtain ⟨q1, q2, q3, q4, q5⟩ := HB3.out
          exact ⟨q3, q5, ⟨⟨by rw [List.length_append]; exact q2, q1⟩, chkI_step pre x HC.out h59 H12.out HF.out⟩, q4⟩
  case done =>
    rintro D zs W hD rfl ⟨⟨⟨bC1, bR1⟩, HC⟩, hB1⟩ hK
    have cR := bR1.cell
    have fR := bR1.frozen
    gi_wp2
    have hK' := (KeepsOthers.setCell W ⟨w.heap.size + 1, 0, none⟩ (.int .i64 0)).same D _ hK rfl
    refine ⟨by simp, .inl ⟨_, _, rfl, run_takeDeferred hK', ?_⟩⟩
    have hc5 := cell_kept (World.cell?_setCell_same' W ⟨w.heap.size + 1, 0, none⟩ (.int .i64 0) (by rw [cR]; rfl)) (grownBy_putObj' _ D (.deferred none)) (fun r e => by cases e; exact ⟨_, hK', rfl⟩)
    have hv : check e = 0 := by
      have := HC.out.2 []
      rw [List.append_nil] at this
      exact this
    refine ⟨.int .i64 0, ?_, by rw [hv], (hB1.setCell (p := ⟨w.heap.size + 1, 0, none⟩) (by simp) _).trans (belowK_b (w := w) (Nat.le_refl _) _ D _ _ (by omega) hK' rfl rfl)⟩
    simp [results, Try.f86, go_sem, hc5]
  case stop =>
    rintro D c pre W hD hpre ⟨⟨rfl, v, bR1, hv⟩, hB1⟩ hK
    have cR := bR1.cell
    gi_wp2
    refine ⟨by simp, .inl ⟨_, _, rfl, run_takeDeferred hK, ?_⟩⟩
    have hc5 := cell_kept cR (grownBy_putObj' _ D (.deferred none)) (fun r e => by cases e; exact ⟨_, hK, rfl⟩)
    obtain ⟨z, hz⟩ := hpre
    have hv2 : check e = v := by unfold check; rw [← hz]; exact hv z
    refine ⟨.int .i64 v, ?_, by rw [hv2], hB1.trans (belowK_b (w := w) (Nat.le_refl _) W D _ _ (by omega) hK rfl rfl)⟩
    simp [results, Try.f86, go_sem, hc5]
end Go.Proofs.Ytokdaapmejccbaa
