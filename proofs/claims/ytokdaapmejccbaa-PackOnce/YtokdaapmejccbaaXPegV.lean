import Derived.Test.YtokdaapmejccbaaXPegL
namespace Go.Proofs.Ytokdaapmejccbaa
open Go.RowKit
set_option linter.unusedVariables false
/-! Each rule's Body that is tried at a place is gone through once, node by node: which nodes, where, and in which order rules are done. -/
/-- A node: its number, where it was tried, what it is. -/
abbrev Nt := (Nat × Nat) × Ex
structure Vt where
  mk ::
  (seen : List (Nat × Nat)) (log : List St) (tr : List Nt)
def kidsSeq (R : Ex → Nat → Ot) : List Ex → Nat → Nat → List (Nat × Nat)
  | [], _, _ => []
  | e :: r, i, p => (i, p) :: (match R e p with | none => [] | some q => kidsSeq R r (i + 1) q)
def kidsAlt (R : Ex → Nat → Ot) : List Ex → Nat → Nat → List (Nat × Nat)
  | [], _, _ => []
  | e :: r, i, p => (i, p) :: (match R e p with | some _ => [] | none => kidsAlt R r (i + 1) p)
def kidsStar (R : Ex → Nat → Ot) (x : Ex) : Nat → Nat → List (Nat × Nat)
  | 0, _ => []
  | m + 1, p => (0, p) :: (match R x p with | none => [] | some q => kidsStar R x m q)
/-- The kids that are tried, each with its number and its place. -/
def kidsT (R : Ex → Nat → Ot) (m : Nat) (e : Ex) (p : Nat) : List (Nat × Nat) :=
  if e.k = 5 then kidsSeq R e.kids 0 p else if e.k = 6 then kidsAlt R e.kids 0 p
  else match e.kids with
    | [] => []
    | x :: _ => if e.k = 7 ∨ e.k = 8 then kidsStar R x m p else if 9 ≤ e.k then [(0, p)] else []
/-- What a kid's number is. -/
def kidNum (num : Nat) (kids : List Ex) (i : Nat) : Nat := num + 1 + Ex.size.sizeL (kids.take i)
def visL (F : Ex → Nat → Nat → Vt → Option Vt) (num : Nat) (kids : List Ex) : List (Nat × Nat) → Vt → Option Vt
  | [], v => some v
  | (i, q) :: r, v => match kids[i]? with
    | none => none
    | some x => match F x (kidNum num kids i) q v with
      | none => none
      | some v' => visL F num kids r v'
/-- Number of a rule's Body. -/
def ruleNum (g : Gr) (i : Nat) : Nat := Ex.size.sizeL ((g.rules.take i).map (·.2))
def visE (g : Gr) (s : List UInt8) (R : Ex → Nat → Ot) : Nat → Ex → Nat → Nat → Vt → Option Vt
  | 0, _, _, _, _ => none
  | f + 1, e, num, p, v =>
    if e.k = 4 then (match bodyOf g e.t with
      | none => none
      | some b =>
        let i := (fnd g.rules e.t).toNat
        if (i, p) ∈ v.seen then some ⟨v.seen, v.log, v.tr ++ [((num, p), e)]⟩
        else (visE g s R f b (ruleNum g i) p ⟨v.seen ++ [(i, p)], v.log, v.tr ++ [((num, p), e)]⟩).map fun w => ⟨w.seen, w.log ++ [((i, p), R b p)], w.tr⟩)
    else visL (visE g s R f) num e.kids (kidsT R (f + 1) e p) ⟨v.seen, v.log, v.tr ++ [((num, p), e)]⟩
/-- What of the visited ones: all that is done is seen, and what is seen and not done takes no fewer steps than n. -/
structure VtOk (g : Gr) (s : List UInt8) (v : Vt) (n : Nat) : Prop where
  so : SoL g s v.log
  sub : ∀ x ∈ v.log, x.1 ∈ v.seen
  pend : ∀ k ∈ v.seen, (∃ x ∈ v.log, x.1 = k) ∨ ∃ r o m, g.rules[k.1]? = some r ∧ Evs g s r.2 k.2 o m ∧ n ≤ m
theorem VtOk.mono {g : Gr} {s : List UInt8} {v : Vt} {n m : Nat} (h : VtOk g s v n) (hm : m ≤ n) : VtOk g s v m :=
  ⟨h.so, h.sub, fun k hk => (h.pend k hk).imp id fun ⟨r, o, j, h1, h2, h3⟩ => ⟨r, o, j, h1, h2, by omega⟩⟩
/-- What a visit does. -/
structure VisR (g : Gr) (s : List UInt8) (v v' : Vt) (N : List St) : Prop where
  log : v'.log = v.log ++ N
  sub : ∀ x ∈ v'.log, x.1 ∈ v'.seen
  from_ : ∀ k ∈ v'.seen, k ∈ v.seen ∨ ∃ x ∈ v'.log, x.1 = k
  keep : ∀ k ∈ v.seen, k ∈ v'.seen
theorem VisR.ok {g : Gr} {s : List UInt8} {v v' : Vt} {N : List St} {n k : Nat} (h : VisR g s v v' N) (hv : VtOk g s v n) (ha : Adds g s v.log N k) : VtOk g s v' n := by
  refine ⟨by rw [h.log]; exact hv.so.app ha, h.sub, fun k hk => ?_⟩
  rcases h.from_ k hk with h1 | h1
  · rcases hv.pend k h1 with ⟨x, hx, e⟩ | h2
    · exact .inl ⟨x, by rw [h.log]; exact List.mem_append_left _ hx, e⟩
    · exact .inr h2
  · exact .inl h1
theorem VisR.trans {g : Gr} {s : List UInt8} {a b c : Vt} {N M : List St} (h : VisR g s a b N) (k : VisR g s b c M) : VisR g s a c (N ++ M) :=
  ⟨by rw [k.log, h.log, List.append_assoc], k.sub, fun x hx => by
    rcases k.from_ x hx with h1 | h1
    · rcases h.from_ x h1 with h2 | ⟨y, hy, e⟩
      · exact .inl h2
      · exact .inr ⟨y, by rw [k.log]; exact List.mem_append_left _ hy, e⟩
    · exact .inr h1, fun x hx => k.keep x (h.keep x hx)⟩
section
variable {g : Gr} {s : List UInt8} {R : Ex → Nat → Ot}
/-- R says what comes of each. -/
def RSays (g : Gr) (s : List UInt8) (R : Ex → Nat → Ot) : Prop := ∀ (e : Ex) (p : Nat) (o : Ot) (n : Nat), e.Ok (IsRule g) → p ≤ s.length → Evs g s e p o n → R e p = o
/-- A visit of e does as its trial with all remembered. -/
def VisF (g : Gr) (s : List UInt8) (F : Ex → Nat → Rt) (M : Ex → Nat → List St → RtL) (V : Ex → Nat → Nat → Vt → Option Vt) (e : Ex) : Prop :=
  ∀ p o n num v, p ≤ s.length → F e p = some (o, n) → VtOk g s v n → ∃ N v', M e p v.log = some (o, v.log ++ N) ∧ Adds g s v.log N n ∧ (∀ q, o = some q → p ≤ q ∧ q ≤ s.length) ∧ V e num p v = some v' ∧ VisR g s v v' N
theorem visSeq_of {f : Nat} {M : Ex → Nat → List St → RtL} {V : Ex → Nat → Nat → Vt → Option Vt} (hR : RSays g s R) (num : Nat) (all : List Ex) : ∀ (l : List Ex) (i p n0 : Nat) (o : Ot) (n : Nat) (v : Vt), all.drop i = l → (∀ e ∈ l, e.Ok (IsRule g) ∧ VisF g s (ev g s f) M V e) → p ≤ s.length → seqE (ev g s f) l p n0 = some (o, n) → VtOk g s v (n - n0) →
    ∃ N v', seqM M l p v.log = some (o, v.log ++ N) ∧ n0 ≤ n ∧ Adds g s v.log N (n - n0) ∧ (∀ q, o = some q → p ≤ q ∧ q ≤ s.length) ∧ visL V num all (kidsSeq R l i p) v = some v' ∧ VisR g s v v' N
  | [], i, p, n0, o, n, v, _, _, hp, h, hv => by
    rw [seqE] at h
    simp only [Option.some.injEq, Prod.mk.injEq] at h
    obtain ⟨rfl, rfl⟩ := h
    exact ⟨[], v, by rw [seqM, List.append_nil], Nat.le_refl _, Adds.nil _ _, fun q hq => by cases hq; exact ⟨Nat.le_refl _, hp⟩, by rw [kidsSeq, visL], by simp, hv.sub, fun k hk => .inl hk, fun k hk => hk⟩
  | e :: l, i, p, n0, o, n, v, hdr, hl, hp, h, hv => by
    have hat : all[i]? = some e := by
      have := List.getElem?_drop (xs := all) (i := i) (j := 0)
      rw [hdr] at this
      simpa using this.symm
    obtain ⟨heo, hev⟩ := hl e (List.mem_cons_self ..)
    rw [seqE] at h
    cases hF : ev g s f e p with
    | none => rw [hF] at h; cases h
    | some x =>
      obtain ⟨o1, k⟩ := x
      rw [hF] at h
      have hRe : R e p = o1 := hR e p o1 k heo hp ⟨f, hF⟩
      cases o1 with
      | none =>
        simp only [Option.some.injEq, Prod.mk.injEq] at h
        obtain ⟨rfl, rfl⟩ := h
        obtain ⟨N1, v1, h1, h2, h3, h4, h5⟩ := hev p none k (kidNum num all i) v hp hF (hv.mono (by omega))
        refine ⟨N1, v1, by rw [seqM, h1], by omega, by rw [show n0 + k - n0 = k from by omega]; exact h2, fun q hq => (by cases hq), ?_, h5⟩
        rw [kidsSeq, hRe, visL, hat]
        simp only
        rw [h4]
        simp only
        rw [visL]
      | some q =>
        simp only at h
        have hkn : n0 + k ≤ n := by
          rw [seqE_acc] at h
          simp only [Option.map_eq_some_iff, Prod.mk.injEq] at h
          obtain ⟨y, -, -, h9⟩ := h
          omega
        obtain ⟨N1, v1, h1, h2, h3, h4, h5⟩ := hev p (some q) k (kidNum num all i) v hp hF (hv.mono (by omega))
        obtain ⟨hq1, hq2⟩ := h3 q rfl
        obtain ⟨N2, v2, k1, k2, k3, k4, k5, k6⟩ := visSeq_of hR num all l (i + 1) q (n0 + k) o n v1 (by rw [← List.tail_drop, hdr]; rfl) (fun x hx => hl x (List.mem_cons_of_mem _ hx)) hq2 h ((h5.ok hv h2).mono (by omega))
        rw [h5.log] at k1 k3
        refine ⟨N1 ++ N2, v2, by rw [seqM, h1]; simp only; rw [k1, List.append_assoc], by omega, ?_, fun t ht => ⟨by have := (k4 t ht).1; omega, (k4 t ht).2⟩, ?_, h5.trans k6⟩
        · rw [show n - n0 = k + (n - (n0 + k)) from by omega]
          exact h2.app k3
        · rw [kidsSeq, hRe, visL, hat]
          simp only
          rw [h4]
          exact k5
theorem visAlt_of {f : Nat} {M : Ex → Nat → List St → RtL} {V : Ex → Nat → Nat → Vt → Option Vt} (hR : RSays g s R) (num : Nat) (all : List Ex) : ∀ (l : List Ex) (i p n0 : Nat) (o : Ot) (n : Nat) (v : Vt), all.drop i = l → (∀ e ∈ l, e.Ok (IsRule g) ∧ VisF g s (ev g s f) M V e) → p ≤ s.length → altE (ev g s f) l p n0 = some (o, n) → VtOk g s v (n - n0) →
    ∃ N v', altM M l p v.log = some (o, v.log ++ N) ∧ n0 ≤ n ∧ Adds g s v.log N (n - n0) ∧ (∀ q, o = some q → p ≤ q ∧ q ≤ s.length) ∧ visL V num all (kidsAlt R l i p) v = some v' ∧ VisR g s v v' N
  | [], i, p, n0, o, n, v, _, _, hp, h, hv => by
    rw [altE] at h
    simp only [Option.some.injEq, Prod.mk.injEq] at h
    obtain ⟨rfl, rfl⟩ := h
    exact ⟨[], v, by rw [altM, List.append_nil], Nat.le_refl _, Adds.nil _ _, fun q hq => (by cases hq), by rw [kidsAlt, visL], by simp, hv.sub, fun k hk => .inl hk, fun k hk => hk⟩
  | e :: l, i, p, n0, o, n, v, hdr, hl, hp, h, hv => by
    have hat : all[i]? = some e := by
      have := List.getElem?_drop (xs := all) (i := i) (j := 0)
      rw [hdr] at this
      simpa using this.symm
    obtain ⟨heo, hev⟩ := hl e (List.mem_cons_self ..)
    rw [altE] at h
    cases hF : ev g s f e p with
    | none => rw [hF] at h; cases h
    | some x =>
      obtain ⟨o1, k⟩ := x
      rw [hF] at h
      have hRe : R e p = o1 := hR e p o1 k heo hp ⟨f, hF⟩
      cases o1 with
      | some q =>
        simp only [Option.some.injEq, Prod.mk.injEq] at h
        obtain ⟨rfl, rfl⟩ := h
        obtain ⟨N1, v1, h1, h2, h3, h4, h5⟩ := hev p (some q) k (kidNum num all i) v hp hF (hv.mono (by omega))
        refine ⟨N1, v1, by rw [altM, h1], by omega, by rw [show n0 + k - n0 = k from by omega]; exact h2, h3, ?_, h5⟩
        rw [kidsAlt, hRe, visL, hat]
        simp only
        rw [h4]
        simp only
        rw [visL]
      | none =>
        simp only at h
        have hkn : n0 + k ≤ n := by
          rw [altE_acc] at h
          simp only [Option.map_eq_some_iff, Prod.mk.injEq] at h
          obtain ⟨y, -, -, h9⟩ := h
          omega
        obtain ⟨N1, v1, h1, h2, h3, h4, h5⟩ := hev p none k (kidNum num all i) v hp hF (hv.mono (by omega))
        obtain ⟨N2, v2, k1, k2, k3, k4, k5, k6⟩ := visAlt_of hR num all l (i + 1) p (n0 + k) o n v1 (by rw [← List.tail_drop, hdr]; rfl) (fun x hx => hl x (List.mem_cons_of_mem _ hx)) hp h ((h5.ok hv h2).mono (by omega))
        rw [h5.log] at k1 k3
        refine ⟨N1 ++ N2, v2, by rw [altM, h1]; simp only; rw [k1, List.append_assoc], by omega, ?_, k4, ?_, h5.trans k6⟩
        · rw [show n - n0 = k + (n - (n0 + k)) from by omega]
          exact h2.app k3
        · rw [kidsAlt, hRe, visL, hat]
          simp only
          rw [h4]
          exact k5
theorem visStar_of {f : Nat} {M : Ex → Nat → List St → RtL} {V : Ex → Nat → Nat → Vt → Option Vt} (hR : RSays g s R) (num : Nat) (x : Ex) (l : List Ex) (hx : x.Ok (IsRule g)) (hV : VisF g s (ev g s f) M V x) : ∀ (m p n0 : Nat) (o : Ot) (n : Nat) (v : Vt), p ≤ s.length → starE (ev g s f) x m p n0 = some (o, n) → VtOk g s v (n - n0) →
    ∃ N v', starM M x m p v.log = some (o, v.log ++ N) ∧ n0 ≤ n ∧ Adds g s v.log N (n - n0) ∧ (∀ q, o = some q → p ≤ q ∧ q ≤ s.length) ∧ (∀ m', m ≤ m' → visL V num (x :: l) (kidsStar R x m' p) v = some v') ∧ VisR g s v v' N
  | 0, p, n0, o, n, v, hp, h, hv => by cases h
  | m + 1, p, n0, o, n, v, hp, h, hv => by
    rw [starE] at h
    cases hF : ev g s f x p with
    | none => rw [hF] at h; cases h
    | some y =>
      obtain ⟨o1, k⟩ := y
      rw [hF] at h
      have hRe : R x p = o1 := hR x p o1 k hx hp ⟨f, hF⟩
      cases o1 with
      | none =>
        simp only [Option.some.injEq, Prod.mk.injEq] at h
        obtain ⟨rfl, rfl⟩ := h
        obtain ⟨N1, v1, h1, h2, h3, h4, h5⟩ := hV p none k (kidNum num (x :: l) 0) v hp hF (hv.mono (by omega))
        refine ⟨N1, v1, by rw [starM, h1], by omega, by rw [show n0 + k - n0 = k from by omega]; exact h2, fun q hq => by cases hq; exact ⟨Nat.le_refl _, hp⟩, fun m' hm' => ?_, h5⟩
        obtain ⟨m', rfl⟩ : ∃ j, m' = j + 1 := ⟨m' - 1, by omega⟩
        rw [kidsStar, hRe, visL, List.getElem?_cons_zero]
        simp only
        rw [h4]
        simp only
        rw [visL]
      | some q =>
        simp only at h
        have hkn : n0 + k ≤ n := by
          rw [starE_acc] at h
          simp only [Option.map_eq_some_iff, Prod.mk.injEq] at h
          obtain ⟨y, -, -, h9⟩ := h
          omega
        obtain ⟨N1, v1, h1, h2, h3, h4, h5⟩ := hV p (some q) k (kidNum num (x :: l) 0) v hp hF (hv.mono (by omega))
        obtain ⟨hq1, hq2⟩ := h3 q rfl
        obtain ⟨N2, v2, k1, k2, k3, k4, k5, k6⟩ := visStar_of hR num x l hx hV m q (n0 + k) o n v1 hq2 h ((h5.ok hv h2).mono (by omega))
        rw [h5.log] at k1 k3
        refine ⟨N1 ++ N2, v2, by rw [starM, h1]; simp only; rw [k1, List.append_assoc], by omega, ?_, fun t ht => ⟨by have := (k4 t ht).1; omega, (k4 t ht).2⟩, fun m' hm' => ?_, h5.trans k6⟩
        · rw [show n - n0 = k + (n - (n0 + k)) from by omega]
          exact h2.app k3
        · obtain ⟨m', rfl⟩ : ∃ j, m' = j + 1 := ⟨m' - 1, by omega⟩
          rw [kidsStar, hRe, visL, List.getElem?_cons_zero]
          simp only
          rw [h4]
          exact k5 m' (by omega)
theorem one_kid' {e : Ex} (hf : formOk e = true) (h1 : ¬ (e.k = 1 ∨ e.k = 2 ∨ e.k = 3)) (h4 : e.k ≠ 4) (h5 : e.k ≠ 5) (h6 : e.k ≠ 6) : (7 ≤ e.k ∧ e.k ≤ 11) ∧ ∃ x, e.kids = [x] := by
  have h := hf
  unfold formOk kidsOk at h
  rw [if_neg (by omega), if_neg (by omega)] at h
  simp only [Bool.and_eq_true] at h
  have h7 := h.2
  split at h7
  · rename_i h8
    exact ⟨h8, List.length_eq_one_iff.1 (by simpa using h7)⟩
  · cases h7
/-- One that only names itself among the visited. -/
theorem VisR.node {v : Vt} {x : Nt} (hv : ∀ x ∈ v.log, x.1 ∈ v.seen) : VisR g s v ⟨v.seen, v.log, v.tr ++ [x]⟩ [] := ⟨by simp, hv, fun k hk => .inl hk, fun k hk => hk⟩
theorem VtOk.node {v : Vt} {n : Nat} {x : List Nt} (h : VtOk g s v n) : VtOk g s ⟨v.seen, v.log, x⟩ n := ⟨h.so, h.sub, h.pend⟩
theorem visE_of (hB : BOk g) {lf : List Fa} (hL : Pre fLe g.rules.length (mst g.rules) lf) (hR : RSays g s R) : ∀ (f : Nat) (e : Ex), e.Ok (IsRule g) → VisF g s (ev g s f) (evM g s f) (visE g s R f) e
  | 0, e, _, p, o, n, num, v, _, h, _ => by cases h
  | f + 1, e, ho, p, o, n, num, v, hp, h, hv => by
    have ih := visE_of hB hL hR f
    have ho' := (ok_eq _ e).1 ho
    have hdo : ∀ q, o = some q → p ≤ q ∧ q ≤ s.length := fun q hq => by
      have := ev_does g s lf hL hB (f + 1) e ho p o n hp h
      subst hq
      exact ⟨this.1, this.2.1⟩
    obtain ⟨vs, vl, vt⟩ := v
    have hvn : VtOk g s ⟨vs, vl, vt ++ [((num, p), e)]⟩ n := hv.node
    rw [ev] at h
    rw [evM, visE]
    by_cases h1 : e.k = 1 ∨ e.k = 2 ∨ e.k = 3
    · rw [if_pos h1] at h ⊢
      rw [if_neg (by omega)]
      simp only [Option.some.injEq, Prod.mk.injEq] at h
      obtain ⟨rfl, rfl⟩ := h
      have hk0 : e.kids = [] := by
        have h2 := ho'.1
        unfold formOk kidsOk at h2
        rw [if_pos (by omega)] at h2
        simp only [Bool.and_eq_true, decide_eq_true_eq] at h2
        exact List.length_eq_zero_iff.1 h2.2
      have hkt : kidsT R (f + 1) e p = [] := by
        unfold kidsT
        rw [if_neg (by omega), if_neg (by omega), hk0]
      rw [hkt, visL]
      exact ⟨[], _, by simp, Adds.nil _ _, hdo, rfl, by simp, hv.sub, fun k hk => .inl hk, fun k hk => hk⟩
    rw [if_neg h1] at h ⊢
    by_cases h4 : e.k = 4
    · rw [if_pos h4] at h ⊢
      rw [if_pos h4]
      obtain ⟨i, r, hi, hr, hb⟩ := body_of (ho'.2.1 h4)
      rw [hb] at h ⊢
      simp only [Option.map_eq_some_iff, Prod.mk.injEq] at h
      obtain ⟨⟨o1, m⟩, hx, rfl, rfl⟩ := h
      rw [hi, show ((i : Nat) : Int).toNat = i from rfl]
      simp only
      have hev : Evs g s r.2 p o1 m := ⟨f, hx⟩
      have hRb : R r.2 p = o1 := hR r.2 p o1 m (hB r (List.mem_of_getElem? hr)) hp hev
      by_cases hseen : (i, p) ∈ vs
      · rw [if_pos hseen]
        have hlog : ∃ x ∈ vl, x.1 = (i, p) := by
          rcases hv.pend _ hseen with h5 | ⟨r', o', m', hr', hev', hle⟩
          · exact h5
          · exfalso
            simp only at hr' hev' hle
            rw [hr] at hr'
            cases hr'
            have := (hev'.same hev).2
            omega
        cases hm : memo vl i p with
        | none =>
          obtain ⟨x, hx1, hx2⟩ := hlog
          exact absurd hx2 (memo_none hm x hx1)
        | some o2 =>
          obtain ⟨r', m', hr', hev'⟩ := hv.so _ (memo_some hm)
          simp only at hr' hev'
          rw [hr] at hr'
          cases hr'
          obtain ⟨rfl, -⟩ := hev'.same hev
          exact ⟨[], _, by simp, Adds.nil _ _, hdo, rfl, by simp, hv.sub, fun k hk => .inl hk, fun k hk => hk⟩
      · rw [if_neg hseen]
        have hm : memo vl i p = none := by
          cases hm : memo vl i p with
          | none => rfl
          | some o2 => exact absurd (hv.sub _ (memo_some hm)) hseen
        rw [hm]
        simp only
        have hv2 : VtOk g s ⟨vs ++ [(i, p)], vl, vt ++ [((num, p), e)]⟩ m := by
          refine ⟨hv.so, fun x hx => List.mem_append_left _ (hv.sub x hx), fun k hk => ?_⟩
          rcases List.mem_append.1 hk with hk | hk
          · rcases hv.pend k hk with h5 | ⟨r', o', m', h6, h7, h8⟩
            · exact .inl h5
            · exact .inr ⟨r', o', m', h6, h7, by omega⟩
          · rw [List.mem_singleton] at hk
            subst hk
            exact .inr ⟨r, o1, m, hr, hev, Nat.le_refl _⟩
        obtain ⟨N, w, k1, k2, k3, k4, k5⟩ := ih r.2 (hB r (List.mem_of_getElem? hr)) p o1 m (ruleNum g i) _ hp hx hv2
        simp only at k1 k2
        have hA : Adds g s vl (N ++ [((i, p), o1)]) (m + 1) := by
          refine ⟨fun x hx => ?_, fun x hx y hy => ?_, ?_, by rw [List.length_append]; have := k2.few; simp; omega⟩
          · rcases List.mem_append.1 hx with hx | hx
            · exact (k2.ok x hx).mono (Nat.le_succ m)
            · rw [List.mem_singleton] at hx
              subst hx
              exact ⟨⟨r, m, hr, hev, Nat.lt_succ_self m⟩, hp⟩
          · rcases List.mem_append.1 hx with hx | hx
            · exact k2.new x hx y hy
            · rw [List.mem_singleton] at hx
              subst hx
              exact memo_none hm y hy
          · rw [List.map_append, List.nodup_append]
            refine ⟨k2.once, by simp, fun a ha b hb e0 => ?_⟩
            obtain ⟨x, hx', rfl⟩ := List.mem_map.1 ha
            have hb' : b = (i, p) := by simpa using hb
            obtain ⟨⟨r', k, hr', hev', hk⟩, -⟩ := k2.ok x hx'
            rw [e0, hb'] at hr' hev'
            simp only at hr' hev'
            rw [hr] at hr'
            cases hr'
            have := (hev'.same hev).2
            omega
        refine ⟨N ++ [((i, p), o1)], ⟨w.seen, w.log ++ [((i, p), R r.2 p)], w.tr⟩, ?_, hA, hdo, by rw [k4]; rfl, ?_, fun x hx => ?_, fun k hk => ?_, fun k hk => k5.keep k (List.mem_append_left _ hk)⟩
        · simp only [k1, List.append_assoc]
        · rw [hRb]; show w.log ++ _ = vl ++ _; rw [k5.log, List.append_assoc]
        · rcases List.mem_append.1 hx with hx | hx
          · exact k5.sub x hx
          · rw [List.mem_singleton] at hx
            subst hx
            exact k5.keep _ (List.mem_append_right _ (by simp))
        · rcases k5.from_ k hk with h6 | ⟨x, hx, e0⟩
          · rcases List.mem_append.1 h6 with h7 | h7
            · exact .inl h7
            · rw [List.mem_singleton] at h7
              exact .inr ⟨((i, p), R r.2 p), List.mem_append_right _ (by simp), h7.symm⟩
          · exact .inr ⟨x, List.mem_append_left _ hx, e0⟩
    rw [if_neg h4] at h ⊢
    rw [if_neg h4]
    have hih : ∀ x ∈ e.kids, x.Ok (IsRule g) ∧ VisF g s (ev g s f) (evM g s f) (visE g s R f) x := fun x hx => ⟨ho.kid hx, ih x (ho.kid hx)⟩
    by_cases h5 : e.k = 5
    · rw [if_pos h5] at h ⊢
      obtain ⟨N, w, a1, a2, a3, a4, a5, a6⟩ := visSeq_of hR num e.kids e.kids 0 p 1 o n ⟨vs, vl, vt ++ [((num, p), e)]⟩ rfl hih hp h (hvn.mono (by omega))
      refine ⟨N, w, a1, a3.mono (by omega), a4, ?_, a6.log, a6.sub, a6.from_, a6.keep⟩
      unfold kidsT
      rw [if_pos h5]
      exact a5
    rw [if_neg h5] at h ⊢
    by_cases h6 : e.k = 6
    · rw [if_pos h6] at h ⊢
      obtain ⟨N, w, a1, a2, a3, a4, a5, a6⟩ := visAlt_of hR num e.kids e.kids 0 p 1 o n ⟨vs, vl, vt ++ [((num, p), e)]⟩ rfl hih hp h (hvn.mono (by omega))
      refine ⟨N, w, a1, a3.mono (by omega), a4, ?_, a6.log, a6.sub, a6.from_, a6.keep⟩
      unfold kidsT
      rw [if_neg h5, if_pos h6]
      exact a5
    rw [if_neg h6] at h ⊢
    obtain ⟨hk711, x, hx⟩ := one_kid' ho'.1 h1 h4 h5 h6
    rw [hx] at h ⊢
    obtain ⟨hxo, hxv⟩ := hih x (by rw [hx]; simp)
    have hkt : kidsT R (f + 1) e p = if e.k = 7 ∨ e.k = 8 then kidsStar R x (f + 1) p else [(0, p)] := by
      unfold kidsT
      rw [if_neg h5, if_neg h6, hx]
      simp only
      by_cases h78 : e.k = 7 ∨ e.k = 8
      · rw [if_pos h78, if_pos h78]
      · rw [if_neg h78, if_neg h78, if_pos (by omega)]
    rw [hkt]
    simp only at h ⊢
    by_cases h7 : e.k = 7
    · rw [if_pos h7] at h ⊢
      rw [if_pos (.inl h7)]
      obtain ⟨N, w, a1, a2, a3, a4, a5, a6⟩ := visStar_of hR num x [] hxo hxv f p 1 o n ⟨vs, vl, vt ++ [((num, p), e)]⟩ hp h (hvn.mono (by omega))
      exact ⟨N, w, a1, a3.mono (by omega), a4, a5 (f + 1) (Nat.le_succ _), a6.log, a6.sub, a6.from_, a6.keep⟩
    rw [if_neg h7] at h ⊢
    cases hF : ev g s f x p with
    | none => rw [hF] at h; cases h
    | some y =>
      obtain ⟨o1, k⟩ := y
      rw [hF] at h
      simp only at h
      have hRx : R x p = o1 := hR x p o1 k hxo hp ⟨f, hF⟩
      have hkn : 1 + k ≤ n := by
        by_cases h8 : e.k = 8
        · rw [if_pos h8] at h
          cases o1 with
          | none =>
            simp only [Option.some.injEq, Prod.mk.injEq] at h
            omega
          | some q =>
            simp only at h
            rw [starE_acc] at h
            simp only [Option.map_eq_some_iff, Prod.mk.injEq] at h
            obtain ⟨y, -, -, h9⟩ := h
            omega
        · rw [if_neg h8] at h
          simp only [Option.some.injEq, Prod.mk.injEq] at h
          omega
      obtain ⟨N1, w1, b1, b2, b3, b4, b5⟩ := hxv p o1 k (kidNum num [x] 0) ⟨vs, vl, vt ++ [((num, p), e)]⟩ hp hF (hvn.mono (by omega))
      simp only at b1 b2
      rw [b1]
      simp only
      by_cases h8 : e.k = 8
      · rw [if_pos h8] at h ⊢
        rw [if_pos (.inr h8)]
        cases o1 with
        | none =>
          simp only [Option.some.injEq, Prod.mk.injEq] at h
          obtain ⟨rfl, rfl⟩ := h
          refine ⟨N1, w1, rfl, b2.mono (by omega), hdo, ?_, b5.log, b5.sub, b5.from_, b5.keep⟩
          rw [kidsStar, hRx, visL, List.getElem?_cons_zero]
          simp only
          rw [b4]
          simp only
          rw [visL]
        | some q =>
          simp only at h ⊢
          obtain ⟨N2, w2, a1, a2, a3, a4, a5, a6⟩ := visStar_of hR num x [] hxo hxv f q (1 + k) o n w1 (b3 q rfl).2 h ((b5.ok hvn b2).mono (by omega))
          rw [b5.log] at a1 a3
          simp only at a1 a3
          refine ⟨N1 ++ N2, w2, by rw [a1, List.append_assoc], (b2.app a3).mono (by omega), hdo, ?_, ?_⟩
          · rw [kidsStar, hRx, visL, List.getElem?_cons_zero]
            simp only
            rw [b4]
            exact a5 f (Nat.le_refl _)
          · have hb5 : VisR g s ⟨vs, vl, vt⟩ w1 N1 := ⟨b5.log, b5.sub, b5.from_, b5.keep⟩
            exact hb5.trans a6
      · rw [if_neg h8] at h ⊢
        rw [if_neg (by omega)]
        simp only [Option.some.injEq, Prod.mk.injEq] at h
        obtain ⟨rfl, rfl⟩ := h
        refine ⟨N1, w1, rfl, b2.mono (by omega), hdo, ?_, b5.log, b5.sub, b5.from_, b5.keep⟩
        rw [visL, List.getElem?_cons_zero]
        simp only
        rw [b4]
        simp only
        rw [visL]
end
end Go.Proofs.Ytokdaapmejccbaa
