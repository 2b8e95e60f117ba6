import Derived.Test.YtokdaapmejccbaaXGrow
namespace Go.Proofs.Ytokdaapmejccbaa
open Go.RowKit
set_option linter.unusedVariables false
/-! What was tried is remembered: of each rule at each place once, when its Body has been tried. -/
abbrev St := (Nat × Nat) × Ot
abbrev RtL := Option (Ot × List St)
def memo (L : List St) (i p : Nat) : Option Ot := (L.find? fun x => x.1 == (i, p)).map (·.2)
def seqM (F : Ex → Nat → List St → RtL) : List Ex → Nat → List St → RtL
  | [], p, L => some (some p, L)
  | e :: r, p, L => match F e p L with
    | none => none
    | some (none, L') => some (none, L')
    | some (some q, L') => seqM F r q L'
def altM (F : Ex → Nat → List St → RtL) : List Ex → Nat → List St → RtL
  | [], p, L => some (none, L)
  | e :: r, p, L => match F e p L with
    | none => none
    | some (some q, L') => some (some q, L')
    | some (none, L') => altM F r p L'
def starM (F : Ex → Nat → List St → RtL) (e : Ex) : Nat → Nat → List St → RtL
  | 0, _, _ => none
  | m + 1, p, L => match F e p L with
    | none => none
    | some (none, L') => some (some p, L')
    | some (some q, L') => starM F e m q L'
def evM (g : Gr) (s : List UInt8) : Nat → Ex → Nat → List St → RtL
  | 0, _, _, _ => none
  | f + 1, e, p, L =>
    if e.k = 1 ∨ e.k = 2 ∨ e.k = 3 then some (leafE s e p, L)
    else if e.k = 4 then (match bodyOf g e.t with
      | none => none
      | some b => match memo L (fnd g.rules e.t).toNat p with
        | some o => some (o, L)
        | none => match evM g s f b p L with
          | none => none
          | some (o, L') => some (o, L' ++ [(((fnd g.rules e.t).toNat, p), o)]))
    else if e.k = 5 then seqM (evM g s f) e.kids p L
    else if e.k = 6 then altM (evM g s f) e.kids p L
    else match e.kids with
      | [] => none
      | x :: _ =>
        if e.k = 7 then starM (evM g s f) x f p L
        else match evM g s f x p L with
          | none => none
          | some (o, L') => if e.k = 8 then (match o with | none => some (none, L') | some q => starM (evM g s f) x f q L') else some (lookE e.k p o, L')
/-- One that is remembered: it is so, it was a rule at a place of the text, and it took fewer steps than n. -/
structure StOk (g : Gr) (s : List UInt8) (x : St) (n : Nat) : Prop where
  ex : ∃ r m, g.rules[x.1.1]? = some r ∧ Evs g s r.2 x.1.2 x.2 m ∧ m < n
  le : x.1.2 ≤ s.length
theorem StOk.mono {g : Gr} {s : List UInt8} {x : St} {n m : Nat} (h : StOk g s x n) (hm : n ≤ m) : StOk g s x m := by
  obtain ⟨⟨r, k, h1, h2, h3⟩, h4⟩ := h
  exact ⟨⟨r, k, h1, h2, by omega⟩, h4⟩
/-- What trying something adds to what is remembered. -/
structure Adds (g : Gr) (s : List UInt8) (L N : List St) (n : Nat) : Prop where
  ok : ∀ x ∈ N, StOk g s x n
  new : ∀ x ∈ N, ∀ y ∈ L, y.1 ≠ x.1
  once : (N.map (·.1)).Nodup
  few : N.length ≤ n
theorem Adds.nil {g : Gr} {s : List UInt8} (L : List St) (n : Nat) : Adds g s L [] n := ⟨fun _ h => (by cases h), fun _ h => (by cases h), List.nodup_nil, Nat.zero_le _⟩
theorem Adds.mono {g : Gr} {s : List UInt8} {L N : List St} {n m : Nat} (h : Adds g s L N n) (hm : n ≤ m) : Adds g s L N m := ⟨fun x hx => (h.ok x hx).mono hm, h.new, h.once, by have := h.few; omega⟩
theorem Adds.app {g : Gr} {s : List UInt8} {L N M : List St} {n m : Nat} (h : Adds g s L N n) (k : Adds g s (L ++ N) M m) : Adds g s L (N ++ M) (n + m) := by
  refine ⟨fun x hx => ?_, fun x hx y hy => ?_, ?_, by rw [List.length_append]; have := h.few; have := k.few; omega⟩
  · rcases List.mem_append.1 hx with hx | hx
    · exact (h.ok x hx).mono (by omega)
    · exact (k.ok x hx).mono (by omega)
  · rcases List.mem_append.1 hx with hx | hx
    · exact h.new x hx y hy
    · exact k.new x hx y (List.mem_append_left _ hy)
  · rw [List.map_append, List.nodup_append]
    refine ⟨h.once, k.once, fun a ha b hb e => ?_⟩
    obtain ⟨x, hx, rfl⟩ := List.mem_map.1 ha
    obtain ⟨y, hy, rfl⟩ := List.mem_map.1 hb
    exact k.new y hy x (List.mem_append_right _ hx) e
/-- What is remembered is so. -/
def SoL (g : Gr) (s : List UInt8) (L : List St) : Prop := ∀ x ∈ L, ∃ r m, g.rules[x.1.1]? = some r ∧ Evs g s r.2 x.1.2 x.2 m
theorem SoL.app {g : Gr} {s : List UInt8} {L N : List St} {n : Nat} (h : SoL g s L) (k : Adds g s L N n) : SoL g s (L ++ N) := fun x hx => by
  rcases List.mem_append.1 hx with hx | hx
  · exact h x hx
  · obtain ⟨⟨r, m, h1, h2, _⟩, _⟩ := k.ok x hx
    exact ⟨r, m, h1, h2⟩
theorem memo_some {L : List St} {i p : Nat} {o : Ot} (h : memo L i p = some o) : ((i, p), o) ∈ L := by
  unfold memo at h
  rw [Option.map_eq_some_iff] at h
  obtain ⟨x, hx, rfl⟩ := h
  have h1 := List.find?_some hx
  have h2 := List.mem_of_find?_eq_some hx
  simp only [beq_iff_eq] at h1
  rw [← h1]
  exact h2
theorem memo_none {L : List St} {i p : Nat} (h : memo L i p = none) : ∀ y ∈ L, y.1 ≠ (i, p) := fun y hy e => by
  unfold memo at h
  rw [Option.map_eq_none_iff, List.find?_eq_none] at h
  exact h y hy (by simp [e])
section
variable {g : Gr} {s : List UInt8}
/-- With all remembered it is the same. -/
def MemoF (g : Gr) (s : List UInt8) (F : Ex → Nat → Rt) (M : Ex → Nat → List St → RtL) (e : Ex) : Prop := ∀ p o n L, p ≤ s.length → F e p = some (o, n) → SoL g s L → ∃ N, M e p L = some (o, L ++ N) ∧ Adds g s L N n ∧ ∀ q, o = some q → p ≤ q ∧ q ≤ s.length
theorem seqM_of {F : Ex → Nat → Rt} {M : Ex → Nat → List St → RtL} : ∀ (l : List Ex) (p n0 : Nat) (o : Ot) (n : Nat) (L : List St), (∀ e ∈ l, MemoF g s F M e) → p ≤ s.length → seqE F l p n0 = some (o, n) → SoL g s L →
    ∃ N, seqM M l p L = some (o, L ++ N) ∧ n0 ≤ n ∧ Adds g s L N (n - n0) ∧ ∀ q, o = some q → p ≤ q ∧ q ≤ s.length
  | [], p, n0, o, n, L, hM, hp, h, hL => by
    rw [seqE] at h
    simp only [Option.some.injEq, Prod.mk.injEq] at h
    obtain ⟨rfl, rfl⟩ := h
    exact ⟨[], by rw [seqM, List.append_nil], Nat.le_refl _, Adds.nil _ _, fun q hq => by cases hq; exact ⟨Nat.le_refl _, hp⟩⟩
  | e :: l, p, n0, o, n, L, hM, hp, h, hL => by
    rw [seqE] at h
    cases hF : F e p with
    | none => rw [hF] at h; cases h
    | some x =>
      obtain ⟨o1, k⟩ := x
      rw [hF] at h
      obtain ⟨N1, h1, h2, h3⟩ := hM e (List.mem_cons_self ..) p o1 k L hp hF hL
      cases o1 with
      | none =>
        simp only [Option.some.injEq, Prod.mk.injEq] at h
        obtain ⟨rfl, rfl⟩ := h
        exact ⟨N1, by rw [seqM, h1], by omega, by rw [show n0 + k - n0 = k from by omega]; exact h2, fun q hq => by cases hq⟩
      | some q =>
        obtain ⟨hq1, hq2⟩ := h3 q rfl
        obtain ⟨N2, h4, h5, h6, h7⟩ := seqM_of l q (n0 + k) o n (L ++ N1) (fun x hx => hM x (List.mem_cons_of_mem _ hx)) hq2 h (hL.app h2)
        refine ⟨N1 ++ N2, by rw [seqM, h1]; simp only; rw [h4, List.append_assoc], by omega, ?_, fun t ht => ⟨by have := (h7 t ht).1; omega, (h7 t ht).2⟩⟩
        rw [show n - n0 = k + (n - (n0 + k)) from by omega]
        exact h2.app h6
theorem altM_of {F : Ex → Nat → Rt} {M : Ex → Nat → List St → RtL} : ∀ (l : List Ex) (p n0 : Nat) (o : Ot) (n : Nat) (L : List St), (∀ e ∈ l, MemoF g s F M e) → p ≤ s.length → altE F l p n0 = some (o, n) → SoL g s L →
    ∃ N, altM M l p L = some (o, L ++ N) ∧ n0 ≤ n ∧ Adds g s L N (n - n0) ∧ ∀ q, o = some q → p ≤ q ∧ q ≤ s.length
  | [], p, n0, o, n, L, hM, hp, h, hL => by
    rw [altE] at h
    simp only [Option.some.injEq, Prod.mk.injEq] at h
    obtain ⟨rfl, rfl⟩ := h
    exact ⟨[], by rw [altM, List.append_nil], Nat.le_refl _, Adds.nil _ _, fun q hq => by cases hq⟩
  | e :: l, p, n0, o, n, L, hM, hp, h, hL => by
    rw [altE] at h
    cases hF : F e p with
    | none => rw [hF] at h; cases h
    | some x =>
      obtain ⟨o1, k⟩ := x
      rw [hF] at h
      obtain ⟨N1, h1, h2, h3⟩ := hM e (List.mem_cons_self ..) p o1 k L hp hF hL
      cases o1 with
      | some q =>
        simp only [Option.some.injEq, Prod.mk.injEq] at h
        obtain ⟨rfl, rfl⟩ := h
        exact ⟨N1, by rw [altM, h1], by omega, by rw [show n0 + k - n0 = k from by omega]; exact h2, h3⟩
      | none =>
        obtain ⟨N2, h4, h5, h6, h7⟩ := altM_of l p (n0 + k) o n (L ++ N1) (fun x hx => hM x (List.mem_cons_of_mem _ hx)) hp h (hL.app h2)
        refine ⟨N1 ++ N2, by rw [altM, h1]; simp only; rw [h4, List.append_assoc], by omega, ?_, h7⟩
        rw [show n - n0 = k + (n - (n0 + k)) from by omega]
        exact h2.app h6
theorem starM_of {F : Ex → Nat → Rt} {M : Ex → Nat → List St → RtL} {e : Ex} (hM : MemoF g s F M e) : ∀ (m p n0 : Nat) (o : Ot) (n : Nat) (L : List St), p ≤ s.length → starE F e m p n0 = some (o, n) → SoL g s L →
    ∃ N, starM M e m p L = some (o, L ++ N) ∧ n0 ≤ n ∧ Adds g s L N (n - n0) ∧ ∀ q, o = some q → p ≤ q ∧ q ≤ s.length
  | 0, p, n0, o, n, L, hp, h, hL => by cases h
  | m + 1, p, n0, o, n, L, hp, h, hL => by
    rw [starE] at h
    cases hF : F e p with
    | none => rw [hF] at h; cases h
    | some x =>
      obtain ⟨o1, k⟩ := x
      rw [hF] at h
      obtain ⟨N1, h1, h2, h3⟩ := hM p o1 k L hp hF hL
      cases o1 with
      | none =>
        simp only [Option.some.injEq, Prod.mk.injEq] at h
        obtain ⟨rfl, rfl⟩ := h
        exact ⟨N1, by rw [starM, h1], by omega, by rw [show n0 + k - n0 = k from by omega]; exact h2, fun q hq => by cases hq; exact ⟨Nat.le_refl _, hp⟩⟩
      | some q =>
        obtain ⟨hq1, hq2⟩ := h3 q rfl
        obtain ⟨N2, h4, h5, h6, h7⟩ := starM_of hM m q (n0 + k) o n (L ++ N1) hq2 h (hL.app h2)
        refine ⟨N1 ++ N2, by rw [starM, h1]; simp only; rw [h4, List.append_assoc], by omega, ?_, fun t ht => ⟨by have := (h7 t ht).1; omega, (h7 t ht).2⟩⟩
        rw [show n - n0 = k + (n - (n0 + k)) from by omega]
        exact h2.app h6
theorem nodup_len : ∀ (n : Nat) (l : List Nat), l.Nodup → (∀ k ∈ l, k < n) → l.length ≤ n
  | 0, l, _, h => by
    cases l with
    | nil => exact Nat.le_refl _
    | cons x l => exact absurd (h x (List.mem_cons_self ..)) (Nat.not_lt_zero _)
  | n + 1, l, hd, h => by
    have h1 := nodup_len n (l.filter fun k => k != n) (hd.filter _) fun k hk => by
      rw [List.mem_filter] at hk
      have := h k hk.1
      have : k ≠ n := by simpa using hk.2
      omega
    have h2 : (l.filter fun k => k == n).length ≤ 1 := by
      have hd2 : (l.filter fun k => k == n).Nodup := hd.filter _
      have hall : ∀ k ∈ l.filter fun k => k == n, k = n := fun k hk => by
        rw [List.mem_filter] at hk
        simpa using hk.2
      revert hd2 hall
      generalize (l.filter fun k => k == n) = m
      intro hd2 hall
      match m, hd2, hall with
      | [], _, _ => simp
      | [_], _, _ => simp
      | a :: b :: m, hd2, hall =>
        exfalso
        have ha := hall a (by simp)
        have hb := hall b (by simp)
        rw [List.nodup_cons] at hd2
        exact hd2.1 (by rw [ha, hb]; simp)
    have h3 : l.length = (l.filter fun k => k == n).length + (l.filter fun k => k != n).length := by
      clear h hd h1 h2
      induction l with
      | nil => rfl
      | cons x l ih =>
        rw [List.filter_cons, List.filter_cons]
        by_cases hx : x = n
        · simp [hx]; omega
        · have e1 : (x == n) = false := by simpa using hx
          have e2 : (x != n) = true := by simpa using hx
          rw [e1, e2]
          simp
          omega
    omega
theorem evM_of (hB : BOk g) {lf : List Fa} (hL : Pre fLe g.rules.length (mst g.rules) lf) : ∀ (f : Nat) (e : Ex), e.Ok (IsRule g) → MemoF g s (ev g s f) (evM g s f) e
  | 0, e, _, p, o, n, L, _, h, _ => by cases h
  | f + 1, e, ho, p, o, n, L, hp, h, hSo => by
    have ih := evM_of hB hL f
    have ho' := (ok_eq _ e).1 ho
    have hdo : ∀ q, o = some q → p ≤ q ∧ q ≤ s.length := fun q hq => by
      have := ev_does g s lf hL hB (f + 1) e ho p o n hp h
      subst hq
      exact ⟨this.1, this.2.1⟩
    rw [ev] at h
    rw [evM]
    by_cases h1 : e.k = 1 ∨ e.k = 2 ∨ e.k = 3
    · rw [if_pos h1] at h ⊢
      simp only [Option.some.injEq, Prod.mk.injEq] at h
      obtain ⟨rfl, rfl⟩ := h
      exact ⟨[], by rw [List.append_nil], Adds.nil _ _, hdo⟩
    rw [if_neg h1] at h ⊢
    by_cases h4 : e.k = 4
    · rw [if_pos h4] at h ⊢
      obtain ⟨i, r, hi, hr, hb⟩ := body_of (ho'.2.1 h4)
      rw [hb] at h ⊢
      simp only [Option.map_eq_some_iff, Prod.mk.injEq] at h
      obtain ⟨⟨o1, m⟩, hx, rfl, rfl⟩ := h
      rw [hi, show ((i : Nat) : Int).toNat = i from rfl]
      simp only
      have hev : Evs g s r.2 p o1 m := ⟨f, hx⟩
      cases hm : memo L i p with
      | some o2 =>
        obtain ⟨r', m', hr', hev'⟩ := hSo _ (memo_some hm)
        simp only at hr' hev'
        rw [hr] at hr'
        cases hr'
        obtain ⟨rfl, -⟩ := hev'.same hev
        exact ⟨[], by simp, Adds.nil _ _, hdo⟩
      | none =>
        obtain ⟨N, h2, h3, -⟩ := ih r.2 (hB r (List.mem_of_getElem? hr)) p o1 m L hp hx hSo
        simp only [h2]
        refine ⟨N ++ [((i, p), o1)], by rw [List.append_assoc], ?_, hdo⟩
        refine ⟨fun x hx => ?_, fun x hx y hy => ?_, ?_, by rw [List.length_append]; have := h3.few; simp; omega⟩
        · rcases List.mem_append.1 hx with hx | hx
          · exact (h3.ok x hx).mono (Nat.le_succ m)
          · rw [List.mem_singleton] at hx
            subst hx
            exact ⟨⟨r, m, hr, hev, Nat.lt_succ_self m⟩, hp⟩
        · rcases List.mem_append.1 hx with hx | hx
          · exact h3.new x hx y hy
          · rw [List.mem_singleton] at hx
            subst hx
            exact memo_none hm y hy
        · rw [List.map_append, List.nodup_append]
          refine ⟨h3.once, by simp, fun a ha b hb e0 => ?_⟩
          obtain ⟨x, hx', rfl⟩ := List.mem_map.1 ha
          have hb' : b = (i, p) := by simpa using hb
          obtain ⟨⟨r', k, hr', hev', hk⟩, -⟩ := h3.ok x hx'
          rw [e0, hb'] at hr' hev'
          simp only at hr' hev'
          rw [hr] at hr'
          cases hr'
          have := (hev'.same hev).2
          omega
    rw [if_neg h4] at h ⊢
    have hih : ∀ x ∈ e.kids, MemoF g s (ev g s f) (evM g s f) x := fun x hx => ih x (ho.kid hx)
    by_cases h5 : e.k = 5
    · rw [if_pos h5] at h ⊢
      obtain ⟨N, a1, a2, a3, a4⟩ := seqM_of e.kids p 1 o n L hih hp h hSo
      exact ⟨N, a1, a3.mono (by omega), a4⟩
    rw [if_neg h5] at h ⊢
    by_cases h6 : e.k = 6
    · rw [if_pos h6] at h ⊢
      obtain ⟨N, a1, a2, a3, a4⟩ := altM_of e.kids p 1 o n L hih hp h hSo
      exact ⟨N, a1, a3.mono (by omega), a4⟩
    rw [if_neg h6] at h ⊢
    cases hk : e.kids with
    | nil => rw [hk] at h; cases h
    | cons x l =>
      rw [hk] at h
      have hix := hih x (by rw [hk]; simp)
      simp only at h ⊢
      by_cases h7 : e.k = 7
      · rw [if_pos h7] at h ⊢
        obtain ⟨N, a1, a2, a3, a4⟩ := starM_of hix f p 1 o n L hp h hSo
        exact ⟨N, a1, a3.mono (by omega), a4⟩
      rw [if_neg h7] at h ⊢
      cases hF : ev g s f x p with
      | none => rw [hF] at h; cases h
      | some y =>
        obtain ⟨o1, k⟩ := y
        rw [hF] at h
        obtain ⟨N1, b1, b2, b3⟩ := hix p o1 k L hp hF hSo
        rw [b1]
        simp only at h ⊢
        by_cases h8 : e.k = 8
        · rw [if_pos h8] at h ⊢
          cases o1 with
          | none =>
            simp only [Option.some.injEq, Prod.mk.injEq] at h
            obtain ⟨rfl, rfl⟩ := h
            exact ⟨N1, rfl, b2.mono (by omega), hdo⟩
          | some q =>
            obtain ⟨N2, a1, a2, a3, a4⟩ := starM_of hix f q (1 + k) o n (L ++ N1) (b3 q rfl).2 h (hSo.app b2)
            refine ⟨N1 ++ N2, by simp only; rw [a1, List.append_assoc], ?_, hdo⟩
            exact (b2.app a3).mono (by omega)
        · rw [if_neg h8] at h ⊢
          simp only [Option.some.injEq, Prod.mk.injEq] at h
          obtain ⟨rfl, rfl⟩ := h
          exact ⟨N1, rfl, b2.mono (by omega), hdo⟩
theorem nodup_map_on {α β : Type} (f : α → β) : ∀ l : List α, (∀ a ∈ l, ∀ b ∈ l, f a = f b → a = b) → l.Nodup → (l.map f).Nodup
  | [], _, _ => List.nodup_nil
  | x :: l, h, hd => by
    rw [List.nodup_cons] at hd
    rw [List.map_cons, List.nodup_cons]
    refine ⟨fun hm => ?_, nodup_map_on f l (fun a ha b hb => h a (List.mem_cons_of_mem _ ha) b (List.mem_cons_of_mem _ hb)) hd.2⟩
    obtain ⟨y, hy, e⟩ := List.mem_map.1 hm
    have := h y (List.mem_cons_of_mem _ hy) x (List.mem_cons_self ..) e
    rw [this] at hy
    exact hd.1 hy
/-- No more than each rule at each place. -/
theorem once_few (nr len : Nat) (N : List St) (h : (N.map (·.1)).Nodup) (hb : ∀ x ∈ N, x.1.1 < nr ∧ x.1.2 ≤ len) : N.length ≤ nr * (len + 1) := by
  have h1 : (N.map fun x => x.1.1 * (len + 1) + x.1.2).Nodup := by
    rw [show (N.map fun x => x.1.1 * (len + 1) + x.1.2) = (N.map (·.1)).map fun k => k.1 * (len + 1) + k.2 from by rw [List.map_map]; rfl]
    refine nodup_map_on _ _ (fun a ha b hb' e => ?_) h
    obtain ⟨x, hx, rfl⟩ := List.mem_map.1 ha
    obtain ⟨y, hy, rfl⟩ := List.mem_map.1 hb'
    have hx2 := (hb x hx).2
    have hy2 := (hb y hy).2
    have e1 : x.1.1 = y.1.1 := by
      have := congrArg (· / (len + 1)) e
      simp only [Nat.mul_comm _ (len + 1), Nat.mul_add_div (Nat.succ_pos len)] at this
      rw [Nat.div_eq_of_lt (by omega), Nat.div_eq_of_lt (by omega)] at this
      omega
    rw [e1] at e
    exact Prod.ext e1 (by omega)
  have h2 : ∀ k ∈ N.map fun x => x.1.1 * (len + 1) + x.1.2, k < nr * (len + 1) := fun k hk => by
    obtain ⟨x, hx, rfl⟩ := List.mem_map.1 hk
    obtain ⟨h3, h4⟩ := hb x hx
    have := Nat.mul_le_mul_right (len + 1) (show x.1.1 + 1 ≤ nr from h3)
    rw [Nat.add_mul] at this
    omega
  have h5 : (N.map fun x => x.1.1 * (len + 1) + x.1.2).length ≤ nr * (len + 1) := nodup_len _ _ h1 h2
  simpa using h5
end
end Go.Proofs.Ytokdaapmejccbaa
