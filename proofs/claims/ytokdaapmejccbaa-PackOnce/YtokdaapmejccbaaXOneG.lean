import Derived.Test.YtokdaapmejccbaaXRWell
import Derived.Test.YtokdaapmejccbaaXWgB
import Derived.WalkKit
import Derived.Below
import Derived.Deep.QuietTactic
import Derived.BigQuiet
import Derived.BigRegion
namespace Go.Proofs.Ytokdaapmejccbaa
open Go.RowKit
set_option linter.unusedVariables false
set_option linter.unusedSimpArgs false
/-! What Well says of a grammar, once for all. -/
theorem jr_ex {α : Type} {sup : α → α → α} {n : Nat} {st : List α → Nat → α} {l0 : List α} (h0 : l0.length = n) : ∀ k, k ≤ n → ∃ l, Jr sup n st l0 k l
  | 0, _ => ⟨l0, Jr.start sup st h0⟩
  | k + 1, hk => by
    obtain ⟨l, hl⟩ := jr_ex h0 k (by omega)
    exact ⟨_, hl.next (List.getElem?_eq_getElem (by omega))⟩
theorem least_ex {α : Type} {le : α → α → Prop} {rk : α → Nat} {m : Nat} (L : Lat le rk m) {sup : α → α → α} (S : Sup le sup) {n : Nat} {st : List α → Nat → α} (M : Mono le n st) {bot : α} (hb : ∀ a, le bot a) : ∃ l, Least le n st l := by
  have h : ∀ t, ∃ l, Jt le rk n st t l := fun t => by
    induction t with
    | zero => exact ⟨_, bot_jt hb⟩
    | succ t ih =>
      obtain ⟨l, hl⟩ := ih
      obtain ⟨l', hl'⟩ := jr_ex (sup := sup) (st := st) hl.len n (Nat.le_refl _)
      exact ⟨l', hl.next L S M hl'⟩
  obtain ⟨l, hl⟩ := h (m * n + 1)
  exact ⟨l, hl.fin L (by omega)⟩
theorem bSup_ok : Sup bLe (· || ·) := ⟨fun a b h => by simp [h], fun a b h => by simp [h], fun a b c h k x => by
  rcases Bool.or_eq_true _ _ ▸ x with x | x
  · exact h x
  · exact k x⟩
/-- What Well says. -/
def W9 (g : Gr) (n e : Int) : Prop := (gcheck g.rules ≠ 0 ∧ n = 0 ∧ e = gcheck g.rules) ∨ (gcheck g.rules = 0 ∧ ∃ lf, Least fLe g.rules.length (mst g.rules) lf ∧ WellN g lf n e)
theorem w9_ex (g : Gr) : ∃ n e, W9 g n e := by
  by_cases h0 : gcheck g.rules = 0
  · obtain ⟨lf, hL⟩ := least_ex fLat fSup_ok (mst_mono g.rules) (bot := noF) (fun a => ⟨no_le _, no_le _, no_le _⟩)
    have hN : ∃ n e, WellN g lf n e := by
      unfold WellN
      cases fiF (fun r : ByteArray × Ex => r.2.lp (mbF g lf)) 0 g.rules with
      | some i => exact ⟨_, _, rfl, rfl⟩
      | none =>
        obtain ⟨lb, hb⟩ := least_ex bLat bSup_ok (wst_mono g.rules (mbF g lf)) (bot := false) no_le
        cases hf : fiF (fun x => x == false) 0 lb with
        | some i => exact ⟨i, 8, lb, hb, by rw [hf]; exact ⟨rfl, rfl⟩⟩
        | none => exact ⟨0, 0, lb, hb, by rw [hf]; exact ⟨rfl, rfl⟩⟩
    obtain ⟨n, e, h⟩ := hN
    exact ⟨n, e, .inr ⟨h0, lf, hL, h⟩⟩
  · exact ⟨0, _, .inl ⟨h0, rfl, rfl⟩⟩
theorem wellN_fun {g : Gr} {lf : List Fa} {n e n' e' : Int} (h : WellN g lf n e) (h' : WellN g lf n' e') : n = n' ∧ e = e' := by
  unfold WellN at h h'
  cases hf : fiF (fun r : ByteArray × Ex => r.2.lp (mbF g lf)) 0 g.rules with
  | some i =>
    rw [hf] at h h'
    exact ⟨h.1.trans h'.1.symm, h.2.trans h'.2.symm⟩
  | none =>
    rw [hf] at h h'
    obtain ⟨lb, hL, h1⟩ := h
    obtain ⟨lb', hL', h1'⟩ := h'
    obtain rfl := hL.uniq bLat hL'
    cases hb : fiF (fun x => x == false) 0 lb with
    | some i =>
      rw [hb] at h1 h1'
      exact ⟨h1.1.trans h1'.1.symm, h1.2.trans h1'.2.symm⟩
    | none =>
      rw [hb] at h1 h1'
      exact ⟨h1.1.trans h1'.1.symm, h1.2.trans h1'.2.symm⟩
theorem W9.fn {g : Gr} {n e n' e' : Int} (h : W9 g n e) (h' : W9 g n' e') : n = n' ∧ e = e' := by
  rcases h with ⟨h0, h1, h2⟩ | ⟨h0, lf, hL, hN⟩
  · rcases h' with ⟨-, k1, k2⟩ | ⟨k0, -⟩
    · exact ⟨h1.trans k1.symm, h2.trans k2.symm⟩
    · exact absurd k0 h0
  · rcases h' with ⟨k0, -⟩ | ⟨-, lf', hL', hN'⟩
    · exact absurd h0 k0
    · obtain rfl := hL.uniq fLat hL'
      exact wellN_fun hN hN'
/-- What is so where nothing is wrong. -/
theorem W9.ok {g : Gr} {n : Int} (h : W9 g n 0) : n = 0 ∧ gcheck g.rules = 0 ∧ GOk g.rules ∧ BOk g ∧ ∃ lf, WellG g lf := by
  rcases h with ⟨h0, h1, h2⟩ | ⟨h0, lf, hL, hN⟩
  · exact absurd h2.symm h0
  · have hok := gcheck_ok h0
    have hB : BOk g := fun r hr => by
      obtain ⟨i, hi⟩ := List.getElem?_of_mem hr
      exact body_ok hok hi
    refine ⟨?_, h0, hok, hB, lf, wellG_of hB hL hN⟩
    unfold WellN at hN
    cases hf : fiF (fun r : ByteArray × Ex => r.2.lp (mbF g lf)) 0 g.rules with
    | some i => rw [hf] at hN; exact absurd hN.2 (by decide)
    | none =>
      rw [hf] at hN
      obtain ⟨lb, -, h1⟩ := hN
      cases hb : fiF (fun x => x == false) 0 lb with
      | some i => rw [hb] at h1; exact absurd h1.2 (by decide)
      | none => rw [hb] at h1; exact h1.1
theorem well_fix (g : Gr) {n e : Int} (h : W9 g n e) (w : World) (hin : g.In w.heap.size w) : Calls Try.prog 28 #[g.val] w fun r W' => r = .returned (.tuple #[.int .i64 n, .int .i64 e]) ∧ Below w.heap.size w W' := by
  by_cases h0 : gcheck g.rules = 0
  · refine (well_ok g h0 w hin).mono ?_
    rintro r W' ⟨lf, hL, n', e', hN, hr, hB⟩
    obtain ⟨rfl, rfl⟩ := h.fn (.inr ⟨h0, lf, hL, hN⟩)
    exact ⟨hr, hB⟩
  · refine (well_no g h0 w hin).mono ?_
    rintro r W' ⟨hr, hB⟩
    obtain ⟨rfl, rfl⟩ := h.fn (.inl ⟨h0, rfl, rfl⟩)
    exact ⟨hr, hB⟩
theorem rwell_fix (g : Gr) {n e : Int} (h : W9 g n e) (w : World) (hin : g.In w.heap.size w) : Calls Try.prog 42 #[g.val] w fun r W' => r = .returned (.tuple #[.int .i64 n, .int .i64 e]) ∧ Below w.heap.size w W' := by
  by_cases h0 : gcheck g.rules = 0
  · refine (rwell_any g h0 w hin).mono ?_
    rintro r W' ⟨lf, hL, n', e', hN, hr, hB⟩
    obtain ⟨rfl, rfl⟩ := h.fn (.inr ⟨h0, lf, hL, hN⟩)
    exact ⟨hr, hB⟩
  · refine (rwell_no g h0 w hin).mono ?_
    rintro r W' ⟨hr, hB⟩
    obtain ⟨rfl, rfl⟩ := h.fn (.inl ⟨h0, rfl, rfl⟩)
    exact ⟨hr, hB⟩
/-- What Look says. -/
def lkE (T : ByteArray) (e : Int) : Int := if e ≠ 0 then e else if 60 < T.size then 2 else 0
theorem lkE_zero {T : ByteArray} {e : Int} (h : lkE T e = 0) : e = 0 ∧ T.size ≤ 60 := by
  unfold lkE at h
  split at h
  · rename_i h1; exact absurd h h1
  · rename_i h1
    split at h
    · cases h
    · exact ⟨by simpa using h1, by omega⟩
set_option maxRecDepth 20000 in
set_option maxHeartbeats 4000000 in
theorem look_any (g : Gr) (T : ByteArray) {n e : Int} (h : W9 g n e) (w : World) (hin : g.In w.heap.size w) :
    Calls Try.prog 14 #[g.val, .string T] w fun r W' => r = .returned (.int .i64 (lkE T e)) ∧ Below w.heap.size w W' := by
  have hA := (Below.refl w.heap.size w).alloc (Nat.le_refl _) (.cells #[.slice g.a g.rules.length g.c] 24)
  have hw := well_fix g h _ (hin.grow hA)
  have HA : Hid (Below w.heap.size w (w.alloc (.cells #[.slice g.a g.rules.length g.c] 24))) := hA
  rw [gval_eq] at hw ⊢
  unfold lkE
  clear hA hin h
  by_cases h0 : e = 0
  · subst h0
    rw [if_neg (by simp)]
    by_cases h1 : 60 < T.size
    · rw [if_pos h1]
      go_enter Try.func14, Try.ntmps14
      go_wp2_with (go_at_call 28; refine hw.mono ?_; rintro e1 W1 ⟨rfl, hb1⟩; have HB : Hid _ := HA.out.trans (hb1.mono HA.out.size); clear hb1)
      go_ret
      exact ⟨rfl, HB.out⟩
    · rw [if_neg h1]
      go_enter Try.func14, Try.ntmps14
      go_wp2_with (go_at_call 28; refine hw.mono ?_; rintro e1 W1 ⟨rfl, hb1⟩; have HB : Hid _ := HA.out.trans (hb1.mono HA.out.size); clear hb1)
      go_ret
      exact ⟨rfl, HB.out⟩
  · rw [if_pos h0]
    have g1 : (e != 0) = true := by simpa using h0
    go_enter Try.func14, Try.ntmps14
    go_wp2_with (go_at_call 28; refine hw.mono ?_; rintro e1 W1 ⟨rfl, hb1⟩; have HB : Hid _ := HA.out.trans (hb1.mono HA.out.size); clear hb1)
    go_ret
    exact ⟨rfl, HB.out⟩
set_option maxRecDepth 20000 in
set_option maxHeartbeats 4000000 in
theorem rlook_any (g : Gr) (T : ByteArray) {n e : Int} (h : W9 g n e) (w : World) (hin : g.In w.heap.size w) :
    Calls Try.prog 15 #[g.val, .string T] w fun r W' => r = .returned (.int .i64 (lkE T e)) ∧ Below w.heap.size w W' := by
  have hA := (Below.refl w.heap.size w).alloc (Nat.le_refl _) (.cells #[.slice g.a g.rules.length g.c] 24)
  have hw := rwell_fix g h _ (hin.grow hA)
  have HA : Hid (Below w.heap.size w (w.alloc (.cells #[.slice g.a g.rules.length g.c] 24))) := hA
  rw [gval_eq] at hw ⊢
  unfold lkE
  clear hA hin h
  by_cases h0 : e = 0
  · subst h0
    rw [if_neg (by simp)]
    by_cases h1 : 60 < T.size
    · rw [if_pos h1]
      go_enter Try.func15, Try.ntmps15
      go_wp2_with (go_at_call 42; refine hw.mono ?_; rintro e1 W1 ⟨rfl, hb1⟩; have HB : Hid _ := HA.out.trans (hb1.mono HA.out.size); clear hb1)
      go_ret
      exact ⟨rfl, HB.out⟩
    · rw [if_neg h1]
      go_enter Try.func15, Try.ntmps15
      go_wp2_with (go_at_call 42; refine hw.mono ?_; rintro e1 W1 ⟨rfl, hb1⟩; have HB : Hid _ := HA.out.trans (hb1.mono HA.out.size); clear hb1)
      go_ret
      exact ⟨rfl, HB.out⟩
  · rw [if_pos h0]
    have g1 : (e != 0) = true := by simpa using h0
    go_enter Try.func15, Try.ntmps15
    go_wp2_with (go_at_call 42; refine hw.mono ?_; rintro e1 W1 ⟨rfl, hb1⟩; have HB : Hid _ := HA.out.trans (hb1.mono HA.out.size); clear hb1)
    go_ret
    exact ⟨rfl, HB.out⟩
end Go.Proofs.Ytokdaapmejccbaa
namespace Go.Proofs.Ytokdaapmejccbaa
open Go.RowKit
open Ex.iw (iwL)
open Ex.lp (lpL)
open Ex.nodes (nodesL)
set_option linter.unusedVariables false
set_option linter.unusedSimpArgs false
/-! Small grammars of one rule that names none. -/
theorem one_check0 (e : Ex) (h : check e = 0) (hr : refsR e = []) : gcheck [(na, e)] = 0 := by
  have hf : fnd [(na, e)] na = 0 := by unfold fnd; rw [fndF, if_pos rfl]; rfl
  have h1 : rulesChk [(na, e)] 0 [(na, e)] = 0 := by
    have : ruleChk [(na, e)] 0 (na, e) = 0 := by
      unfold ruleChk
      rw [if_neg (show ¬ isName na.data.toList = false by decide +kernel), if_neg (show ¬ fnd [(na, e)] na ≠ ((0 : Nat) : Int) by rw [hf]; decide)]
      exact h
    rw [rulesChk, rulesChk, this]
    rfl
  have h2 : ¬ 120 < gcount [(na, e)] := by
    rw [gcount, gcount]
    unfold sizeR
    rw [show check (na, e).2 = 0 from h, if_pos rfl]
    have : (e.nodes 1).length ≤ 60 := check_len e h
    show ¬ 120 < (((e.nodes 1).length : Nat) : Int) + 0
    omega
  have h3 : named [(na, e)] [(na, e)] = true := by
    rw [named, named]
    unfold insR
    rw [hr]
    rfl
  unfold gcheck
  rw [if_neg (by simp), if_neg (by simp), h1, if_neg (by simp), if_neg h2, if_pos h3]
theorem fiF_all : ∀ (l : List Bool) (i : Nat), (∀ y ∈ l, y = true) → fiF (fun x => x == false) i l = none
  | [], i, _ => rfl
  | b :: l, i, h => by
    rw [fiF, h b (List.mem_cons_self ..), fiF_all l (i + 1) fun y hy => h y (List.mem_cons_of_mem _ hy)]
    rfl
theorem one_w9 (g : Gr) (e : Ex) (hg : g.rules = [(na, e)]) (h : check e = 0) (hr : refsR e = []) (hlp : ∀ lf, e.lp (mbF g lf) = false) (hiw : ∀ lf R, e.iw (mbF g lf) R = true) : W9 g 0 0 := by
  refine .inr ⟨by rw [hg]; exact one_check0 e h hr, ?_⟩
  obtain ⟨lf, hL⟩ := least_ex fLat fSup_ok (mst_mono g.rules) (bot := noF) (fun a => ⟨no_le _, no_le _, no_le _⟩)
  refine ⟨lf, hL, ?_⟩
  unfold WellN
  have h1 : fiF (fun r : ByteArray × Ex => r.2.lp (mbF g lf)) 0 g.rules = none := by
    rw [hg, fiF, if_neg (by show ¬ e.lp (mbF g lf) = true; rw [hlp]; decide), fiF]
  rw [h1]
  obtain ⟨lb, hb⟩ := least_ex bLat bSup_ok (wst_mono g.rules (mbF g lf)) (bot := false) no_le
  have hall : ∀ y ∈ lb, y = true := fun y hy => by
    obtain ⟨i, hi⟩ := List.getElem?_of_mem hy
    have hlt : i < g.rules.length := by rw [← hb.pre.len]; exact (List.getElem?_eq_some_iff.1 hi).1
    obtain ⟨r, hr2⟩ : ∃ r, g.rules[i]? = some r := ⟨_, List.getElem?_eq_getElem hlt⟩
    have hm := List.mem_of_getElem? hr2
    have h2 := hb.pre.all i y hi
    rw [wst_at hr2] at h2
    rw [hg, List.mem_singleton] at hm
    subst hm
    exact h2 (hiw lf _)
  exact ⟨lb, hb, by rw [fiF_all lb 0 hall]; exact ⟨rfl, rfl⟩⟩
/-- A literal. -/
def elit (t : ByteArray) : Ex := exo 3 t none 0 []
theorem lit_w9 (g : Gr) (t : ByteArray) (hg : g.rules = [(na, elit t)]) (hf : formOk (elit t) = true) : W9 g 0 0 := by
  have hn : (elit t).nodes 1 = [(1, elit t)] := by
    unfold elit exo
    rw [Ex.nodes, nodesL]
  have hck : check (elit t) = 0 := by
    unfold check
    rw [hn, chk, if_neg (by decide), if_neg (by decide), if_pos hf, chk]
  refine one_w9 g (elit t) hg hck ?_ (fun lf => ?_) fun lf R => ?_
  · unfold refsR
    rw [if_pos hck, hn]
    rfl
  · unfold elit exo
    rw [Ex.lp, lpL]
  · unfold elit exo
    rw [Ex.iw, if_neg (by decide), iwL]
theorem lit_ev (g : Gr) (s : List UInt8) (t : ByteArray) (p : Nat) : ev g s 1 (elit t) p = some (leafE s (elit t) p, 1) := by
  rw [ev, if_pos (.inr (.inr rfl))]
theorem fx : formOk (elit nx) = true := by decide +kernel
/-- Again and again a literal. -/
def estar (a : Option Addr) (c : Nat) (x : Ex) : Ex := exo 7 ByteArray.empty a c [x]
theorem f7 (a : Option Addr) (c : Nat) (x : Ex) : formOk (estar a c x) = true := by
  unfold estar formOk textOk setOk kidsOk
  simp [exo, Ex.k, Ex.t, Ex.S, Ex.kids]
  exact noS_none
theorem star_w9 (g : Gr) (a : Option Addr) (c : Nat) (hg : g.rules = [(na, estar a c (elit nx))]) : W9 g 0 0 := by
  have hn : (estar a c (elit nx)).nodes 1 = [(1, estar a c (elit nx)), (2, elit nx)] := by
    unfold estar elit exo
    rw [Ex.nodes, nodesL, nodesL, Ex.nodes, nodesL, w2]
    rfl
  have hck : check (estar a c (elit nx)) = 0 := by
    unfold check
    rw [hn, chk, if_neg (by decide), if_neg (by decide), if_pos (f7 _ _ _), chk, if_neg (by decide), if_neg (by decide), if_pos fx, chk]
  refine one_w9 g _ hg hck ?_ (fun lf => ?_) fun lf R => ?_
  · unfold refsR
    rw [if_pos hck, hn]
    rfl
  · have h2 : mbF g lf (Ex.mk 3 0 nx none 0 []) = false := mb_lit g lf nx
    unfold estar elit exo
    rw [Ex.lp, lpL, lpL, h2, Ex.lp, lpL]
    rfl
  · unfold estar elit exo
    rw [Ex.iw, if_neg (by decide), iwL, iwL]
    have h1 : (Ex.mk 3 0 nx none 0 []).iw (mbF g lf) R = true := by rw [Ex.iw, if_neg (by decide), iwL]
    rw [h1]
    simp
end Go.Proofs.Ytokdaapmejccbaa
