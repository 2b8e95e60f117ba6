import Derived.Test.YthcnificamidhaaWell
import Derived.WalkKit
import Derived.Below
import Derived.Deep.QuietTactic
namespace Go.Proofs.Ythcnificamidhaa
open Go.RowKit
open Ex.iw (iwL)
set_option linter.unusedVariables false
set_option linter.unusedSimpArgs false
/-- An expression without a set. -/
def exo (k : Int) (t : ByteArray) (a : Option Addr) (c : Nat) (l : List Ex) : Ex := .mk k 0 t a c l
theorem wd_none (i : Nat) : wd 0 i = 0 := by simp [wd]
theorem exo_val (k : Int) (t : ByteArray) (a : Option Addr) (c : Nat) (l : List Ex) : (exo k t a c l).val = .agg #[.int .i64 k, .int .u64 0, .int .u64 0, .int .u64 0, .int .u64 0, .string t, .slice a l.length c] := by
  simp only [Ex.val, Ex.cells, exo, Ex.k, Ex.S, Ex.t, Ex.a, Ex.c, Ex.kids, wd_none]
theorem lit_any (s : ByteArray) (w : World) : Calls Try.prog 13 #[.string s] w fun r W' => r = .returned (exo 3 s none 0 []).val ∧ Below w.heap.size w W' := by
  rw [exo_val]
  go_enter Try.func13, Try.ntmps13
  go_wp2_with fail
  exact bodyPost_ret (by simp [results, Try.results13, go_sem]) rfl ⟨rfl, (Below.refl w.heap.size w).alloc (Nat.le_refl _) _⟩
theorem ref_any (s : ByteArray) (w : World) : Calls Try.prog 14 #[.string s] w fun r W' => r = .returned (exo 4 s none 0 []).val ∧ Below w.heap.size w W' := by
  rw [exo_val]
  go_enter Try.func14, Try.ntmps14
  go_wp2_with fail
  exact bodyPost_ret (by simp [results, Try.results14, go_sem]) rfl ⟨rfl, (Below.refl w.heap.size w).alloc (Nat.le_refl _) _⟩
theorem of_any (k : Int) (a : Option Addr) (l : List Ex) (c : Nat) (w : World) : Calls Try.prog 12 #[.int .i64 k, .slice a l.length c] w fun r W' => r = .returned (exo k ByteArray.empty a c l).val ∧ Below w.heap.size w W' := by
  rw [exo_val]
  go_enter Try.func12, Try.ntmps12
  go_wp2_with fail
  exact bodyPost_ret (v := .agg #[.int .i64 k, .int .u64 0, .int .u64 0, .int .u64 0, .int .u64 0, .string ByteArray.empty, .slice a l.length c]) (by simp [results, Try.results12, go_sem]; rfl) rfl ⟨rfl, (Below.refl w.heap.size w).alloc (Nat.le_refl _) _⟩
/-- A literal, and what comes behind it. -/
def grd (x : ByteArray) (a : Option Addr) (c : Nat) (e : Ex) : Ex := exo 5 ByteArray.empty a c [exo 3 x none 0 [], e]
theorem mb_lit (g : Gr) (lf : List Fa) (x : ByteArray) : mbF g lf (exo 3 x none 0 []) = false := by
  show ((exo 3 x none 0 []).may _).1 = false
  rw [may_eq]
  rfl
theorem iw_grd (g : Gr) (lf : List Fa) (R : ByteArray → Bool) (x : ByteArray) (a : Option Addr) (c : Nat) (e : Ex) : (grd x a c e).iw (mbF g lf) R = true := by
  unfold grd exo
  rw [Ex.iw, if_neg (by decide), iwL]
  have h1 : (Ex.mk 3 0 x none 0 []).iw (mbF g lf) R = true := by rw [Ex.iw, if_neg (by decide), iwL]
  have h2 : mbF g lf (Ex.mk 3 0 x none 0 []) = false := mb_lit g lf x
  rw [h1, h2]
  rfl
/-- Behind a literal any rule may come. -/
theorem grd_well (g : Gr) (lf : List Fa) (n e : Int) (hg : ∀ r ∈ g.rules, ∃ x a c b, r.2 = grd x a c b) (h : WellN g lf n e) : e = 9 ∨ e = 0 := by
  unfold WellN at h
  cases hf : fiF (fun r : ByteArray × Ex => r.2.lp (mbF g lf)) 0 g.rules with
  | some i => rw [hf] at h; exact .inl h.2
  | none =>
    rw [hf] at h
    obtain ⟨lb, hL, h1⟩ := h
    have hall : ∀ y ∈ lb, y = true := fun y hy => by
      obtain ⟨i, hi⟩ := List.getElem?_of_mem hy
      have hlt : i < g.rules.length := by rw [← hL.pre.len]; exact (List.getElem?_eq_some_iff.1 hi).1
      obtain ⟨r, hr⟩ : ∃ r, g.rules[i]? = some r := ⟨_, List.getElem?_eq_getElem hlt⟩
      obtain ⟨x, a, c, b, hb⟩ := hg r (List.mem_of_getElem? hr)
      have h2 := hL.pre.all i y hi
      rw [wst_at hr, hb, iw_grd] at h2
      exact h2 rfl
    have hnone : ∀ (l : List Bool) (i : Nat), (∀ y ∈ l, y = true) → fiF (fun x => x == false) i l = none := by
      intro l
      induction l with
      | nil => intro i _; rfl
      | cons b l ih =>
        intro i h
        rw [fiF, h b (List.mem_cons_self ..), ih (i + 1) fun y hy => h y (List.mem_cons_of_mem _ hy)]
        rfl
    rw [hnone lb 0 hall] at h1
    exact .inr h1.2
theorem chk_codes : ∀ (l : List (Int × Ex)) (n : Nat), chk n l ≠ 8 ∧ chk n l ≠ 9
  | [], n => by rw [chk]; decide
  | (d, x) :: r, n => by
    rw [chk]
    split
    · decide
    · split
      · decide
      · split
        · exact chk_codes r (n + 1)
        · decide
theorem rule_codes (all : List (ByteArray × Ex)) (i : Nat) (r : ByteArray × Ex) : ruleChk all i r ≠ 8 := by
  unfold ruleChk
  split
  · decide
  · split
    · decide
    · exact (chk_codes _ _).1
theorem rules_codes (all : List (ByteArray × Ex)) : ∀ (l : List (ByteArray × Ex)) (i : Nat), rulesChk all i l ≠ 8
  | [], i => by rw [rulesChk]; decide
  | r :: l, i => by
    rw [rulesChk]
    split
    · exact rule_codes all i r
    · exact rules_codes all l (i + 1)
theorem gcodes (l : List (ByteArray × Ex)) : gcheck l ≠ 8 := by
  unfold gcheck
  split
  · decide
  · split
    · decide
    · split
      · exact rules_codes l l 0
      · split
        · decide
        · split <;> decide
/-- One rule, named a. -/
theorem one_any (e : Ex) (w : World) (hin : e.In w.heap.size w) : Calls Try.prog 11 #[e.val] w fun r W' => ∃ g' : Gr, r = .returned g'.val ∧ g'.rules = [((⟨#[97]⟩ : ByteArray), e)] ∧ g'.In W'.heap.size W' ∧ Below w.heap.size w W' := by
  have hA := (((Below.refl w.heap.size w).alloc (Nat.le_refl _) (.cells e.cells 43)).alloc (by simp) (.cells #[.slice (some ⟨w.heap.size + 1 + 1, 0, none⟩) 1 1] 24)).alloc (by simp; omega) (.cells (rcell ((⟨#[97]⟩ : ByteArray), e)).toArray 47)
  have bN := BoxN.new ((w.alloc (.cells e.cells 43)).alloc (.cells #[.slice (some ⟨w.heap.size + 1 + 1, 0, none⟩) 1 1] 24)) 47 (rcell ((⟨#[97]⟩ : ByteArray), e)).toArray
  have HF : Hid (Gr.In ((((w.alloc (.cells e.cells 43)).alloc (.cells #[.slice (some ⟨w.heap.size + 1 + 1, 0, none⟩) 1 1] 24)).alloc (.cells (rcell ((⟨#[97]⟩ : ByteArray), e)).toArray 47))).heap.size ((((w.alloc (.cells e.cells 43)).alloc (.cells #[.slice (some ⟨w.heap.size + 1 + 1, 0, none⟩) 1 1] 24)).alloc (.cells (rcell ((⟨#[97]⟩ : ByteArray), e)).toArray 47))) ⟨some ⟨w.heap.size + 1 + 1, 0, none⟩, 1, [((⟨#[97]⟩ : ByteArray), e)]⟩ ∧ Below w.heap.size w ((((w.alloc (.cells e.cells 43)).alloc (.cells #[.slice (some ⟨w.heap.size + 1 + 1, 0, none⟩) 1 1] 24)).alloc (.cells (rcell ((⟨#[97]⟩ : ByteArray), e)).toArray 47)))) := by
    refine ⟨⟨by simp, fun j r hr => ?_⟩, hA⟩
    have hj : j = 0 := by have := (List.getElem?_eq_some_iff.1 hr).1; simp at this; omega
    subst hj
    have hr' : r = ((⟨#[97]⟩ : ByteArray), e) := by simpa using hr.symm
    subst hr'
    refine ⟨⟨_, 0, rfl, by simp, fun m hm => ?_⟩, (by show (⟨#[97]⟩ : ByteArray).size ≤ _; decide), (hin.below hA).mono hA.size⟩
    have h5 := bN.cell m
    simp only [World.size_alloc] at h5
    rw [show 0 + 0 * 8 + m = m from by omega, h5, List.getElem?_toArray]
  clear hA bN hin
  rw [val_eq]
  rw [cells_eq, rcell_eq] at HF
  go_enter Try.func11, Try.ntmps11
  go_wp2_with fail
  exact bodyPost_ret (by simp [results, Try.results11, go_sem]; rfl) rfl ⟨_, rfl, rfl, HF.out⟩
end Go.Proofs.Ythcnificamidhaa
