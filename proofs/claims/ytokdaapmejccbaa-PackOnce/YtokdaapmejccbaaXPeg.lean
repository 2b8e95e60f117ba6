import Derived.Test.YtokdaapmejccbaaXMayW
namespace Go.Proofs.Ytokdaapmejccbaa
open Go.RowKit
set_option linter.unusedVariables false
/-! What a grammar means, step by step: where what is tried at a place ends (none: it fails), and how many steps it was; no answer where the fuel did not do. -/
abbrev Ot := Option Nat
abbrev Rt := Option (Ot × Nat)
def seqE (F : Ex → Nat → Rt) : List Ex → Nat → Nat → Rt
  | [], p, n => some (some p, n)
  | e :: r, p, n => match F e p with
    | none => none
    | some (none, k) => some (none, n + k)
    | some (some q, k) => seqE F r q (n + k)
def altE (F : Ex → Nat → Rt) : List Ex → Nat → Nat → Rt
  | [], p, n => some (none, n)
  | e :: r, p, n => match F e p with
    | none => none
    | some (some q, k) => some (some q, n + k)
    | some (none, k) => altE F r p (n + k)
def starE (F : Ex → Nat → Rt) (e : Ex) : Nat → Nat → Nat → Rt
  | 0, _, _ => none
  | m + 1, p, n => match F e p with
    | none => none
    | some (none, k) => some (some p, n + k)
    | some (some q, k) => starE F e m q (n + k)
/-- A leaf. -/
def leafE (s : List UInt8) (e : Ex) (p : Nat) : Ot :=
  if e.k = 1 then some p
  else if e.k = 2 then (match s[p]? with | some c => if e.S.getLsbD c.toNat then some (p + 1) else none | none => none)
  else if (s.drop p).take e.t.size = e.t.data.toList then some (p + e.t.size) else none
/-- What looks, and what may be. -/
def lookE (k : Int) (p : Nat) (o : Ot) : Ot :=
  if k = 9 then some (o.getD p) else if k = 10 then o.map (fun _ => p) else match o with | none => some p | some _ => none
/-- A rule's Body. -/
def bodyOf (g : Gr) (t : ByteArray) : Option Ex := (g.rules[(fnd g.rules t).toNat]?).map (·.2)
def ev (g : Gr) (s : List UInt8) : Nat → Ex → Nat → Rt
  | 0, _, _ => none
  | f + 1, e, p =>
    if e.k = 1 ∨ e.k = 2 ∨ e.k = 3 then some (leafE s e p, 1)
    else if e.k = 4 then (match bodyOf g e.t with | none => none | some b => (ev g s f b p).map fun x => (x.1, x.2 + 1))
    else if e.k = 5 then seqE (ev g s f) e.kids p 1
    else if e.k = 6 then altE (ev g s f) e.kids p 1
    else match e.kids with
      | [] => none
      | x :: _ =>
        if e.k = 7 then starE (ev g s f) x f p 1
        else match ev g s f x p with
          | none => none
          | some (o, k) => if e.k = 8 then (match o with | none => some (none, 1 + k) | some q => starE (ev g s f) x f q (1 + k)) else some (lookE e.k p o, 1 + k)
/-- What F says G says. -/
def Fle (F G : Ex → Nat → Rt) : Prop := ∀ e p r, F e p = some r → G e p = some r
theorem seqE_le {F G : Ex → Nat → Rt} (h : Fle F G) : ∀ (l : List Ex) (p n : Nat) (r : Ot × Nat), seqE F l p n = some r → seqE G l p n = some r
  | [], p, n, r, h1 => h1
  | e :: l, p, n, r, h1 => by
    rw [seqE] at h1 ⊢
    cases hF : F e p with
    | none => rw [hF] at h1; cases h1
    | some x =>
      rw [hF] at h1
      rw [h e p x hF]
      obtain ⟨o, k⟩ := x
      cases o with
      | none => exact h1
      | some q => exact seqE_le h l q (n + k) r h1
theorem altE_le {F G : Ex → Nat → Rt} (h : Fle F G) : ∀ (l : List Ex) (p n : Nat) (r : Ot × Nat), altE F l p n = some r → altE G l p n = some r
  | [], p, n, r, h1 => h1
  | e :: l, p, n, r, h1 => by
    rw [altE] at h1 ⊢
    cases hF : F e p with
    | none => rw [hF] at h1; cases h1
    | some x =>
      rw [hF] at h1
      rw [h e p x hF]
      obtain ⟨o, k⟩ := x
      cases o with
      | none => exact altE_le h l p (n + k) r h1
      | some q => exact h1
theorem starE_le {F G : Ex → Nat → Rt} (h : Fle F G) (e : Ex) : ∀ (m m' p n : Nat) (r : Ot × Nat), m ≤ m' → starE F e m p n = some r → starE G e m' p n = some r
  | 0, _, p, n, r, _, h1 => by cases h1
  | m + 1, 0, p, n, r, hm, h1 => by omega
  | m + 1, m' + 1, p, n, r, hm, h1 => by
    rw [starE] at h1 ⊢
    cases hF : F e p with
    | none => rw [hF] at h1; cases h1
    | some x =>
      rw [hF] at h1
      rw [h e p x hF]
      obtain ⟨o, k⟩ := x
      cases o with
      | none => exact h1
      | some q => exact starE_le h e m m' q (n + k) r (by omega) h1
theorem ev_step (g : Gr) (s : List UInt8) : ∀ f, Fle (ev g s f) (ev g s (f + 1))
  | 0, e, p, r, h => by cases h
  | f + 1, e, p, r, h => by
    have ih := ev_step g s f
    rw [ev] at h ⊢
    split
    · rename_i h1; rw [if_pos h1] at h; exact h
    rename_i h1
    rw [if_neg h1] at h
    split
    · rename_i h4
      rw [if_pos h4] at h
      cases hb : bodyOf g e.t with
      | none => rw [hb] at h; cases h
      | some b =>
        rw [hb] at h
        simp only at h ⊢
        cases hF : ev g s f b p with
        | none => rw [hF] at h; cases h
        | some x => rw [hF] at h; rw [ih b p x hF]; exact h
    rename_i h4
    rw [if_neg h4] at h
    split
    · rename_i h5; rw [if_pos h5] at h; exact seqE_le ih _ _ _ _ h
    rename_i h5
    rw [if_neg h5] at h
    split
    · rename_i h6; rw [if_pos h6] at h; exact altE_le ih _ _ _ _ h
    rename_i h6
    rw [if_neg h6] at h
    cases hk : e.kids with
    | nil => rw [hk] at h; cases h
    | cons x l =>
      rw [hk] at h
      simp only at h ⊢
      split
      · rename_i h7; rw [if_pos h7] at h; exact starE_le ih x f (f + 1) _ _ _ (by omega) h
      rename_i h7
      rw [if_neg h7] at h
      cases hF : ev g s f x p with
      | none => rw [hF] at h; cases h
      | some y =>
        rw [hF] at h
        rw [ih x p y hF]
        obtain ⟨o, k⟩ := y
        simp only at h ⊢
        split
        · rename_i h8
          rw [if_pos h8] at h
          cases o with
          | none => exact h
          | some q => exact starE_le ih x f (f + 1) _ _ _ (by omega) h
        · rename_i h8; rw [if_neg h8] at h; exact h
theorem ev_le (g : Gr) (s : List UInt8) {f f' : Nat} (h : f ≤ f') : Fle (ev g s f) (ev g s f') := by
  induction h with
  | refl => exact fun _ _ _ h => h
  | step _ ih => exact fun e p r h => ev_step g s _ e p r (ih e p r h)
/-- Tried there it ends so, after so many steps. -/
def Evs (g : Gr) (s : List UInt8) (e : Ex) (p : Nat) (o : Ot) (n : Nat) : Prop := ∃ f, ev g s f e p = some (o, n)
theorem Evs.same {g : Gr} {s : List UInt8} {e : Ex} {p : Nat} {o o' : Ot} {n n' : Nat} (h : Evs g s e p o n) (k : Evs g s e p o' n') : o = o' ∧ n = n' := by
  obtain ⟨f, h⟩ := h
  obtain ⟨f', k⟩ := k
  have h1 := ev_le g s (Nat.le_max_left f f') e p _ h
  have k1 := ev_le g s (Nat.le_max_right f f') e p _ k
  rw [h1] at k1
  exact Prod.mk.inj (Option.some.inj k1)
/-- What may be done, and what is done. -/
def Does (F : Fa) (len p : Nat) (o : Ot) : Prop := match o with
  | none => F.2.2 = true
  | some q => p ≤ q ∧ q ≤ len ∧ (q = p → F.1 = true) ∧ (p < q → F.2.1 = true)
theorem noS_false {S : BitVec 256} {k : Nat} (h : S.getLsbD k = true) : noS S = false := by
  apply Classical.byContradiction
  intro hne
  have h1 : noS S = true := by simpa using hne
  unfold noS at h1
  simp only [Bool.and_eq_true, beq_iff_eq] at h1
  have hz : ∀ j, wd (0#256) j = 0 := fun j => by simp [wd]
  have : S = 0#256 := wd_inj _ _ fun j hj => by
    rw [hz]
    match j, hj with
    | 0, _ => exact h1.1
    | 1, _ => exact h1.2.1
    | 2, _ => exact h1.2.2.1
    | 3, _ => exact h1.2.2.2
  rw [this] at h
  simp at h
theorem leafE_does (s : List UInt8) (e : Ex) (p : Nat) (hp : p ≤ s.length) (hf : formOk e = true) (h : e.k = 1 ∨ e.k = 2 ∨ e.k = 3) (R : ByteArray → Fa) : Does (e.may R) s.length p (leafE s e p) := by
  rw [may_eq]
  unfold leafE
  by_cases h1 : e.k = 1
  · rw [if_pos h1, if_pos h1]
    exact ⟨Nat.le_refl _, hp, fun _ => rfl, fun h => absurd h (Nat.lt_irrefl _)⟩
  rw [if_neg h1, if_neg h1]
  by_cases h2 : e.k = 2
  · rw [if_pos h2, if_pos h2]
    cases hc : s[p]? with
    | none => exact rfl
    | some c =>
      have hlt := (List.getElem?_eq_some_iff.1 hc).1
      simp only
      by_cases hb : e.S.getLsbD c.toNat = true
      · rw [if_pos hb]
        refine ⟨by omega, by omega, fun h => by omega, fun _ => ?_⟩
        show (!noS e.S) = true
        rw [noS_false hb]; rfl
      · rw [if_neg hb]; exact rfl
  · have h3 : e.k = 3 := by omega
    rw [if_neg h2, if_neg h2, if_pos h3]
    by_cases hm : (s.drop p).take e.t.size = e.t.data.toList
    · rw [if_pos hm]
      have hl := congrArg List.length hm
      rw [List.length_take, List.length_drop] at hl
      have hts : e.t.data.toList.length = e.t.size := rfl
      have h0 : e.t.size ≠ 0 := by
        unfold formOk textOk at hf
        rw [if_pos h3] at hf
        simp only [Bool.and_eq_true, Bool.not_eq_true', decide_eq_false_iff_not] at hf
        exact hf.1.1.1
      exact ⟨by omega, by omega, fun h => by omega, fun _ => rfl⟩
    · rw [if_neg hm]; exact rfl
theorem thenF_none {a b : Fa} {len p : Nat} (h : Does a len p none) : Does (thenF a b) len p none := by
  show (a.2.2 || sucF a && b.2.2) = true
  rw [show a.2.2 = true from h]; rfl
theorem thenF_some {a b : Fa} {len p q : Nat} {o : Ot} (h : Does a len p (some q)) (k : Does b len q o) : Does (thenF a b) len p o := by
  obtain ⟨h1, h2, h3, h4⟩ := h
  have hs : sucF a = true := by
    unfold sucF
    by_cases e : q = p
    · rw [h3 e]; rfl
    · rw [h4 (by omega)]; simp
  cases o with
  | none =>
    show (a.2.2 || sucF a && b.2.2) = true
    rw [hs, show b.2.2 = true from k]; simp
  | some t =>
    obtain ⟨k1, k2, k3, k4⟩ := k
    refine ⟨by omega, k2, fun e => ?_, fun e => ?_⟩
    · show (a.1 && b.1) = true
      rw [h3 (by omega), k3 (by omega)]; rfl
    · show (a.2.1 && sucF b || b.2.1 && sucF a) = true
      by_cases e1 : q = p
      · rw [k4 (by omega), hs]; simp
      · have hb : sucF b = true := by
          unfold sucF
          by_cases e2 : t = q
          · rw [k3 e2]; rfl
          · rw [k4 (by omega)]; simp
        rw [h4 (by omega), hb]; rfl
theorem orF_some {a b : Fa} {len p q : Nat} (h : Does a len p (some q)) : Does (orF a b) len p (some q) := by
  obtain ⟨h1, h2, h3, h4⟩ := h
  refine ⟨h1, h2, fun e => ?_, fun e => ?_⟩
  · show (a.1 || a.2.2 && b.1) = true
    rw [h3 e]; rfl
  · show (a.2.1 || a.2.2 && b.2.1) = true
    rw [h4 e]; rfl
theorem orF_none {a b : Fa} {len p : Nat} {o : Ot} (h : Does a len p none) (k : Does b len p o) : Does (orF a b) len p o := by
  have h' : a.2.2 = true := h
  cases o with
  | none =>
    show (a.2.2 && b.2.2) = true
    rw [h', show b.2.2 = true from k]; rfl
  | some q =>
    obtain ⟨h1, h2, h3, h4⟩ := k
    refine ⟨h1, h2, fun e => ?_, fun e => ?_⟩
    · show (a.1 || a.2.2 && b.1) = true
      rw [h3 e, h']; simp
    · show (a.2.1 || a.2.2 && b.2.1) = true
      rw [h4 e, h']; simp
section
variable {F : Ex → Nat → Rt} {R : ByteArray → Fa} {len : Nat}
/-- What F says is what may be done. -/
def FDo (F : Ex → Nat → Rt) (R : ByteArray → Fa) (len : Nat) (e : Ex) : Prop := ∀ p o k, p ≤ len → F e p = some (o, k) → Does (e.may R) len p o
theorem seqE_does : ∀ (l : List Ex) (p n : Nat) (o : Ot) (m : Nat), l ≠ [] → (∀ e ∈ l, FDo F R len e) → p ≤ len → seqE F l p n = some (o, m) → Does (foldF thenF (l.map (Ex.may R))) len p o
  | [], p, n, o, m, h, _, _, _ => absurd rfl h
  | e :: l, p, n, o, m, _, hF, hp, h => by
    have he := hF e (List.mem_cons_self ..)
    rw [seqE] at h
    rw [List.map_cons, foldF]
    cases hx : F e p with
    | none => rw [hx] at h; cases h
    | some x =>
      obtain ⟨o1, k⟩ := x
      rw [hx] at h
      have hd := he p o1 k hp hx
      cases o1 with
      | none =>
        simp only [Option.some.injEq, Prod.mk.injEq] at h
        obtain ⟨rfl, _⟩ := h
        split
        · exact hd
        · exact thenF_none hd
      | some q =>
        simp only at h
        cases l with
        | nil =>
          rw [seqE] at h
          simp only [Option.some.injEq, Prod.mk.injEq] at h
          obtain ⟨rfl, _⟩ := h
          rw [if_pos (by rfl)]
          exact hd
        | cons e' l =>
          rw [if_neg (by simp)]
          exact thenF_some hd (seqE_does (e' :: l) q (n + k) o m (by simp) (fun x hx => hF x (List.mem_cons_of_mem _ hx)) hd.2.1 h)
theorem altE_does : ∀ (l : List Ex) (p n : Nat) (o : Ot) (m : Nat), l ≠ [] → (∀ e ∈ l, FDo F R len e) → p ≤ len → altE F l p n = some (o, m) → Does (foldF orF (l.map (Ex.may R))) len p o
  | [], p, n, o, m, h, _, _, _ => absurd rfl h
  | e :: l, p, n, o, m, _, hF, hp, h => by
    have he := hF e (List.mem_cons_self ..)
    rw [altE] at h
    rw [List.map_cons, foldF]
    cases hx : F e p with
    | none => rw [hx] at h; cases h
    | some x =>
      obtain ⟨o1, k⟩ := x
      rw [hx] at h
      have hd := he p o1 k hp hx
      cases o1 with
      | some q =>
        simp only [Option.some.injEq, Prod.mk.injEq] at h
        obtain ⟨rfl, _⟩ := h
        split
        · exact hd
        · exact orF_some hd
      | none =>
        simp only at h
        cases l with
        | nil =>
          rw [altE] at h
          simp only [Option.some.injEq, Prod.mk.injEq] at h
          obtain ⟨rfl, _⟩ := h
          rw [if_pos (by rfl)]
          exact hd
        | cons e' l =>
          rw [if_neg (by simp)]
          exact orF_none hd (altE_does (e' :: l) p (n + k) o m (by simp) (fun x hx => hF x (List.mem_cons_of_mem _ hx)) hp h)
theorem starE_does {e : Ex} (he : FDo F R len e) : ∀ (m p n : Nat) (o : Ot) (k : Nat), p ≤ len → starE F e m p n = some (o, k) → Does (againF (e.may R)) len p o
  | 0, p, n, o, k, _, h => by cases h
  | m + 1, p, n, o, k, hp, h => by
    rw [starE] at h
    cases hx : F e p with
    | none => rw [hx] at h; cases h
    | some x =>
      obtain ⟨o1, k1⟩ := x
      rw [hx] at h
      have hd := he p o1 k1 hp hx
      cases o1 with
      | none =>
        simp only [Option.some.injEq, Prod.mk.injEq] at h
        obtain ⟨rfl, _⟩ := h
        exact ⟨Nat.le_refl _, hp, fun _ => hd, fun h => absurd h (Nat.lt_irrefl _)⟩
      | some q =>
        simp only at h
        obtain ⟨h1, h2, h3, h4⟩ := hd
        have ih := starE_does he m q (n + k1) o k h2 h
        cases o with
        | none => cases (show false = true from ih)
        | some t =>
          obtain ⟨k1, k2, k3, k4⟩ := ih
          refine ⟨by omega, k2, fun e => k3 (by omega), fun e => ?_⟩
          by_cases e1 : q = p
          · exact k4 (by omega)
          · exact h4 (by omega)
end
theorem Does.le {F G : Fa} (h : fLe F G) {len p : Nat} {o : Ot} (k : Does F len p o) : Does G len p o := by
  cases o with
  | none => exact h.2.2 k
  | some q => exact ⟨k.1, k.2.1, fun e => h.1 (k.2.2.1 e), fun e => h.2.1 (k.2.2.2 e)⟩
theorem lookE_does {f : Fa} {len p : Nat} (hp : p ≤ len) {o : Ot} (h : Does f len p o) (k : Int) (hk : k = 9 ∨ k = 10 ∨ k = 11) : Does (mayK k [f]) len p (lookE k p o) := by
  have hs : ∀ q, o = some q → sucF f = true := fun q e => by
    subst e
    unfold sucF
    by_cases e1 : q = p
    · rw [h.2.2.1 e1]; rfl
    · rw [h.2.2.2 (by have := h.1; omega)]; simp
  unfold mayK lookE
  rcases hk with rfl | rfl | rfl
  · rw [if_neg (by decide), if_neg (by decide), if_neg (by decide), if_neg (by decide), if_pos rfl, if_pos rfl]
    cases o with
    | none =>
      refine orF_none (a := f) h ⟨Nat.le_refl _, hp, fun _ => rfl, fun h => absurd h (Nat.lt_irrefl _)⟩
    | some q => exact orF_some (a := f) h
  · rw [if_neg (by decide), if_neg (by decide), if_neg (by decide), if_neg (by decide), if_neg (by decide), if_pos rfl, if_neg (by decide), if_pos rfl]
    cases o with
    | none => exact h
    | some q => exact ⟨Nat.le_refl _, hp, fun _ => hs q rfl, fun h => absurd h (Nat.lt_irrefl _)⟩
  · rw [if_neg (by decide), if_neg (by decide), if_neg (by decide), if_neg (by decide), if_neg (by decide), if_neg (by decide), if_pos rfl, if_neg (by decide), if_neg (by decide)]
    cases o with
    | none => exact ⟨Nat.le_refl _, hp, fun _ => h, fun h => absurd h (Nat.lt_irrefl _)⟩
    | some q => exact hs q rfl
/-- All rules' Bodies are in form, and name rules. -/
def BOk (g : Gr) : Prop := ∀ r ∈ g.rules, r.2.Ok (IsRule g)
theorem body_of {g : Gr} {t : ByteArray} (h : IsRule g t) : ∃ (i : Nat) (r : ByteArray × Ex), fnd g.rules t = (i : Int) ∧ g.rules[i]? = some r ∧ bodyOf g t = some r.2 := by
  obtain ⟨k, hk, hlt⟩ := h
  refine ⟨k, g.rules[k], hk, List.getElem?_eq_getElem hlt, ?_⟩
  unfold bodyOf
  rw [hk, show ((k : Nat) : Int).toNat = k from rfl, List.getElem?_eq_getElem hlt]
  rfl
theorem ev_does (g : Gr) (s : List UInt8) (lf : List Fa) (hL : Pre fLe g.rules.length (mst g.rules) lf) (hB : BOk g) : ∀ (f : Nat) (e : Ex), e.Ok (IsRule g) → FDo (ev g s f) (ofL noF g.rules lf) s.length e
  | 0, e, _, p, o, k, _, h => by cases h
  | f + 1, e, ho, p, o, k, hp, h => by
    have ih := ev_does g s lf hL hB f
    have ho' := (ok_eq _ e).1 ho
    rw [ev] at h
    by_cases h1 : e.k = 1 ∨ e.k = 2 ∨ e.k = 3
    · rw [if_pos h1] at h
      simp only [Option.some.injEq, Prod.mk.injEq] at h
      obtain ⟨rfl, _⟩ := h
      exact leafE_does s e p hp ho'.1 h1 _
    rw [if_neg h1] at h
    rw [may_eq, if_neg (fun e => h1 (.inl e)), if_neg (fun e => h1 (.inr (.inl e))), if_neg (fun e => h1 (.inr (.inr e)))]
    by_cases h4 : e.k = 4
    · rw [if_pos h4] at h ⊢
      obtain ⟨i, r, hi, hr, hb⟩ := body_of (ho'.2.1 h4)
      rw [hb] at h
      simp only [Option.map_eq_some_iff] at h
      obtain ⟨x, hx, hxe⟩ := h
      obtain ⟨o1, k1⟩ := x
      simp only [Prod.mk.injEq] at hxe
      obtain ⟨rfl, _⟩ := hxe
      have hil := (List.getElem?_eq_some_iff.1 hr).1
      obtain ⟨a, ha⟩ : ∃ a, lf[i]? = some a := ⟨_, List.getElem?_eq_getElem (by rw [hL.len]; exact hil)⟩
      have h5 := hL.all i a ha
      rw [mst_at hr] at h5
      have h6 : ofL noF g.rules lf e.t = a := by
        unfold ofL
        rw [hi, show ((i : Nat) : Int).toNat = i from rfl, List.getD_eq_getElem?_getD, ha]; rfl
      rw [h6]
      exact (ih r.2 (hB r (List.mem_of_getElem? hr)) p o1 k1 hp hx).le h5
    rw [if_neg h4] at h ⊢
    rw [mayL_map]
    have hkids : e.kids ≠ [] := fun e0 => by
      rcases kind_of ho'.1 with h | h | h | h | ⟨h, h2, h3⟩
      · exact h1 (.inl h)
      · exact h1 (.inr (.inl h))
      · exact h1 (.inr (.inr h))
      · exact h4 h
      · rw [e0] at h2; simp at h2
    have hih : ∀ x ∈ e.kids, FDo (ev g s f) (ofL noF g.rules lf) s.length x := fun x hx => ih x (ho.kid hx)
    by_cases h5 : e.k = 5
    · rw [if_pos h5] at h
      rw [h5]
      exact seqE_does e.kids p 1 o k hkids hih hp h
    rw [if_neg h5] at h
    by_cases h6 : e.k = 6
    · rw [if_pos h6] at h
      rw [h6]
      exact altE_does e.kids p 1 o k hkids hih hp h
    rw [if_neg h6] at h
    have hone : e.kids.length = 1 := by
      have := ho'.1
      unfold formOk kidsOk at this
      rw [if_neg (by omega), if_neg (by omega)] at this
      simp only [Bool.and_eq_true] at this
      have h7 := this.2
      split at h7
      · simpa using h7
      · cases h7
    have hk711 : 7 ≤ e.k ∧ e.k ≤ 11 := by
      rcases kind_of ho'.1 with h | h | h | h | ⟨h, _, _⟩ <;> omega
    obtain ⟨x, hx⟩ := List.length_eq_one_iff.1 hone
    have hdx := hih x (by rw [hx]; simp)
    rw [hx] at h ⊢
    simp only [List.map_cons, List.map_nil] at h ⊢
    by_cases h7 : e.k = 7
    · rw [if_pos h7] at h
      rw [h7]
      exact starE_does hdx f p 1 o k hp h
    rw [if_neg h7] at h
    cases hF : ev g s f x p with
    | none => rw [hF] at h; cases h
    | some y =>
      obtain ⟨o1, k1⟩ := y
      rw [hF] at h
      have hd := hdx p o1 k1 hp hF
      simp only at h
      by_cases h8 : e.k = 8
      · rw [if_pos h8] at h
        rw [h8]
        cases o1 with
        | none =>
          simp only [Option.some.injEq, Prod.mk.injEq] at h
          obtain ⟨rfl, _⟩ := h
          exact thenF_none hd
        | some q =>
          simp only at h
          exact thenF_some hd (starE_does hdx f q (1 + k1) o k hd.2.1 h)
      · rw [if_neg h8] at h
        simp only [Option.some.injEq, Prod.mk.injEq] at h
        obtain ⟨rfl, _⟩ := h
        exact lookE_does hp hd e.k (by omega)
end Go.Proofs.Ytokdaapmejccbaa
