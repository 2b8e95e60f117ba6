import Derived.Test.YtokdaapmejccbaaXRyA
namespace Go.Proofs.Ytokdaapmejccbaa
open Go.RowKit
set_option linter.unusedVariables false
/-! What a trier does, whatever it remembers: none: the fuel did not do; some none: it was thrown out. -/
abbrev Rg (σ : Type) := Option (Option (Ot × σ))
section
variable {σ : Type}
def seqG (F : Ex → Nat → σ → Rg σ) : List Ex → Nat → σ → Rg σ
  | [], p, x => some (some (some p, x))
  | e :: r, p, x => match F e p x with
    | none => none
    | some none => some none
    | some (some (none, y)) => some (some (none, y))
    | some (some (some q, y)) => seqG F r q y
def altG (F : Ex → Nat → σ → Rg σ) : List Ex → Nat → σ → Rg σ
  | [], p, x => some (some (none, x))
  | e :: r, p, x => match F e p x with
    | none => none
    | some none => some none
    | some (some (some q, y)) => some (some (some q, y))
    | some (some (none, y)) => altG F r p y
def starG (F : Ex → Nat → σ → Rg σ) (e : Ex) : Nat → Nat → σ → Rg σ
  | 0, _, _ => none
  | m + 1, p, x => match F e p x with
    | none => none
    | some none => some none
    | some (some (none, y)) => some (some (some p, y))
    | some (some (some q, y)) => starG F e m q y
/-- What comes of a node, before it is told. -/
def comesG (C : (Ex → Nat → σ → Rg σ) → ByteArray → Nat → σ → Rg σ) (s : List UInt8) (F : Ex → Nat → σ → Rg σ) (f : Nat) (e : Ex) (p : Nat) (x : σ) : Rg σ :=
  if e.k = 1 ∨ e.k = 2 ∨ e.k = 3 then some (some (leafE s e p, x))
  else if e.k = 4 then C F e.t p x
  else if e.k = 5 then seqG F e.kids p x
  else if e.k = 6 then altG F e.kids p x
  else match e.kids with
    | [] => none
    | y :: _ =>
      if e.k = 7 then starG F y f p x
      else match F y p x with
        | none => none
        | some none => some none
        | some (some (o, z)) => if e.k = 8 then (match o with | none => some (some (none, z)) | some q => starG F y f q z) else some (some (lookE e.k p o, z))
def toldG (T : Ex → Nat → Ot → σ → Option σ) (e : Ex) (p : Nat) : Rg σ → Rg σ
  | some (some (o, y)) => (match T e p o y with | none => some none | some z => some (some (o, z)))
  | r => r
def tryG (C : (Ex → Nat → σ → Rg σ) → ByteArray → Nat → σ → Rg σ) (T : Ex → Nat → Ot → σ → Option σ) (s : List UInt8) : Nat → Ex → Nat → σ → Rg σ
  | 0, _, _, _ => none
  | f + 1, e, p, x => toldG T e p (comesG C s (tryG C T s f) f e p x)
end
/-! Each time anew, with steps that are counted, most at most. -/
def callA (g : Gr) (F : Ex → Nat → Nat → Rg Nat) (t : ByteArray) (p : Nat) (x : Nat) : Rg Nat := match bodyOf g t with | none => none | some b => F b p x
def toldA (most : Nat) (_ : Ex) (_ : Nat) (_ : Ot) (x : Nat) : Option Nat := if x + 1 ≤ most then some (x + 1) else none
/-- After n steps more. -/
def stp (most x : Nat) (o : Ot) (n : Nat) : Rg Nat := if x + n ≤ most then some (some (o, x + n)) else some none
def AnF (F : Ex → Nat → Rt) (G : Ex → Nat → Nat → Rg Nat) (most : Nat) : Prop := ∀ e p o n x, F e p = some (o, n) → x ≤ most → 1 ≤ n ∧ G e p x = stp most x o n
section
variable {F : Ex → Nat → Rt} {G : Ex → Nat → Nat → Rg Nat} {most : Nat}
theorem seqG_an (h : AnF F G most) : ∀ (l : List Ex) (p n0 : Nat) (o : Ot) (n x : Nat), seqE F l p n0 = some (o, n) → x ≤ most → n0 ≤ n ∧ seqG G l p x = stp most x o (n - n0)
  | [], p, n0, o, n, x, h1, hx => by
    rw [seqE] at h1
    simp only [Option.some.injEq, Prod.mk.injEq] at h1
    obtain ⟨rfl, rfl⟩ := h1
    refine ⟨Nat.le_refl _, ?_⟩
    rw [seqG, stp, if_pos (by omega), Nat.sub_self, Nat.add_zero]
  | e :: l, p, n0, o, n, x, h1, hx => by
    rw [seqE] at h1
    cases hF : F e p with
    | none => rw [hF] at h1; cases h1
    | some y =>
      obtain ⟨o1, k⟩ := y
      rw [hF] at h1
      obtain ⟨h2, h3⟩ := h e p o1 k x hF hx
      rw [seqG, h3]
      cases o1 with
      | none =>
        simp only [Option.some.injEq, Prod.mk.injEq] at h1
        obtain ⟨rfl, rfl⟩ := h1
        refine ⟨by omega, ?_⟩
        rw [show n0 + k - n0 = k from by omega]
        unfold stp
        by_cases hk : x + k ≤ most
        · rw [if_pos hk]
        · rw [if_neg hk]
      | some q =>
        simp only at h1
        by_cases hk : x + k ≤ most
        · obtain ⟨h4, h5⟩ := seqG_an h l q (n0 + k) o n (x + k) h1 hk
          refine ⟨by omega, ?_⟩
          rw [stp, if_pos hk]
          simp only
          rw [h5]
          unfold stp
          rw [show x + k + (n - (n0 + k)) = x + (n - n0) from by omega]
        · have h4 : n0 + k ≤ n := by
            rw [seqE_acc] at h1
            simp only [Option.map_eq_some_iff, Prod.mk.injEq] at h1
            obtain ⟨y, -, -, h9⟩ := h1
            omega
          refine ⟨by omega, ?_⟩
          rw [stp, if_neg hk, stp, if_neg (by omega)]
theorem altG_an (h : AnF F G most) : ∀ (l : List Ex) (p n0 : Nat) (o : Ot) (n x : Nat), altE F l p n0 = some (o, n) → x ≤ most → n0 ≤ n ∧ altG G l p x = stp most x o (n - n0)
  | [], p, n0, o, n, x, h1, hx => by
    rw [altE] at h1
    simp only [Option.some.injEq, Prod.mk.injEq] at h1
    obtain ⟨rfl, rfl⟩ := h1
    refine ⟨Nat.le_refl _, ?_⟩
    rw [altG, stp, if_pos (by omega), Nat.sub_self, Nat.add_zero]
  | e :: l, p, n0, o, n, x, h1, hx => by
    rw [altE] at h1
    cases hF : F e p with
    | none => rw [hF] at h1; cases h1
    | some y =>
      obtain ⟨o1, k⟩ := y
      rw [hF] at h1
      obtain ⟨h2, h3⟩ := h e p o1 k x hF hx
      rw [altG, h3]
      cases o1 with
      | some q =>
        simp only [Option.some.injEq, Prod.mk.injEq] at h1
        obtain ⟨rfl, rfl⟩ := h1
        refine ⟨by omega, ?_⟩
        rw [show n0 + k - n0 = k from by omega]
        unfold stp
        by_cases hk : x + k ≤ most
        · rw [if_pos hk]
        · rw [if_neg hk]
      | none =>
        simp only at h1
        by_cases hk : x + k ≤ most
        · obtain ⟨h4, h5⟩ := altG_an h l p (n0 + k) o n (x + k) h1 hk
          refine ⟨by omega, ?_⟩
          rw [stp, if_pos hk]
          simp only
          rw [h5]
          unfold stp
          rw [show x + k + (n - (n0 + k)) = x + (n - n0) from by omega]
        · have h4 : n0 + k ≤ n := by
            rw [altE_acc] at h1
            simp only [Option.map_eq_some_iff, Prod.mk.injEq] at h1
            obtain ⟨y, -, -, h9⟩ := h1
            omega
          refine ⟨by omega, ?_⟩
          rw [stp, if_neg hk, stp, if_neg (by omega)]
theorem starG_an (h : AnF F G most) (e : Ex) : ∀ (m p n0 : Nat) (o : Ot) (n x : Nat), starE F e m p n0 = some (o, n) → x ≤ most → n0 ≤ n ∧ starG G e m p x = stp most x o (n - n0)
  | 0, p, n0, o, n, x, h1, hx => by cases h1
  | m + 1, p, n0, o, n, x, h1, hx => by
    rw [starE] at h1
    cases hF : F e p with
    | none => rw [hF] at h1; cases h1
    | some y =>
      obtain ⟨o1, k⟩ := y
      rw [hF] at h1
      obtain ⟨h2, h3⟩ := h e p o1 k x hF hx
      rw [starG, h3]
      cases o1 with
      | none =>
        simp only [Option.some.injEq, Prod.mk.injEq] at h1
        obtain ⟨rfl, rfl⟩ := h1
        refine ⟨by omega, ?_⟩
        rw [show n0 + k - n0 = k from by omega]
        unfold stp
        by_cases hk : x + k ≤ most
        · rw [if_pos hk, if_pos hk]
        · rw [if_neg hk, if_neg hk]
      | some q =>
        simp only at h1
        by_cases hk : x + k ≤ most
        · obtain ⟨h4, h5⟩ := starG_an h e m q (n0 + k) o n (x + k) h1 hk
          refine ⟨by omega, ?_⟩
          rw [stp, if_pos hk]
          simp only
          rw [h5]
          unfold stp
          rw [show x + k + (n - (n0 + k)) = x + (n - n0) from by omega]
        · have h4 : n0 + k ≤ n := by
            rw [starE_acc] at h1
            simp only [Option.map_eq_some_iff, Prod.mk.injEq] at h1
            obtain ⟨y, -, -, h9⟩ := h1
            omega
          refine ⟨by omega, ?_⟩
          rw [stp, if_neg hk, stp, if_neg (by omega)]
end
theorem toldA_stp (most : Nat) (e : Ex) (p x : Nat) (o : Ot) (n : Nat) (hx : x ≤ most) : toldG (toldA most) e p (stp most x o n) = stp most x o (n + 1) := by
  unfold stp
  by_cases h : x + n ≤ most
  · rw [if_pos h]
    simp only [toldG, toldA]
    by_cases h2 : x + n + 1 ≤ most
    · rw [if_pos h2, if_pos (by omega)]; rfl
    · rw [if_neg h2, if_neg (by omega)]
  · rw [if_neg h, if_neg (by omega)]; rfl
/-- Step by step, it is what it means; and it is thrown out where it is more than so many. -/
theorem tryG_an (g : Gr) (s : List UInt8) (most : Nat) : ∀ f, AnF (ev g s f) (tryG (callA g) (toldA most) s f) most
  | 0, e, p, o, n, x, h, _ => by cases h
  | f + 1, e, p, o, n, x, h, hx => by
    have ih := tryG_an g s most f
    have main : ∃ m, n = m + 1 ∧ comesG (callA g) s (tryG (callA g) (toldA most) s f) f e p x = stp most x o m := by
      rw [ev] at h
      unfold comesG
      by_cases h1 : e.k = 1 ∨ e.k = 2 ∨ e.k = 3
      · rw [if_pos h1] at h ⊢
        simp only [Option.some.injEq, Prod.mk.injEq] at h
        obtain ⟨rfl, rfl⟩ := h
        exact ⟨0, rfl, by rw [stp, if_pos (by omega)]; rfl⟩
      rw [if_neg h1] at h ⊢
      by_cases h4 : e.k = 4
      · rw [if_pos h4] at h ⊢
        unfold callA
        cases hb : bodyOf g e.t with
        | none => rw [hb] at h; cases h
        | some b =>
          rw [hb] at h
          simp only [Option.map_eq_some_iff, Prod.mk.injEq] at h
          obtain ⟨⟨o1, m⟩, hF, rfl, rfl⟩ := h
          exact ⟨m, rfl, (ih b p o1 m x hF hx).2⟩
      rw [if_neg h4] at h ⊢
      by_cases h5 : e.k = 5
      · rw [if_pos h5] at h ⊢
        obtain ⟨h2, h3⟩ := seqG_an ih e.kids p 1 o n x h hx
        exact ⟨n - 1, by omega, h3⟩
      rw [if_neg h5] at h ⊢
      by_cases h6 : e.k = 6
      · rw [if_pos h6] at h ⊢
        obtain ⟨h2, h3⟩ := altG_an ih e.kids p 1 o n x h hx
        exact ⟨n - 1, by omega, h3⟩
      rw [if_neg h6] at h ⊢
      cases hk : e.kids with
      | nil => rw [hk] at h; cases h
      | cons y l =>
        rw [hk] at h
        simp only at h ⊢
        by_cases h7 : e.k = 7
        · rw [if_pos h7] at h ⊢
          obtain ⟨h2, h3⟩ := starG_an ih y f p 1 o n x h hx
          exact ⟨n - 1, by omega, h3⟩
        rw [if_neg h7] at h ⊢
        cases hF : ev g s f y p with
        | none => rw [hF] at h; cases h
        | some z =>
          obtain ⟨o1, k⟩ := z
          rw [hF] at h
          obtain ⟨h2, h3⟩ := ih y p o1 k x hF hx
          rw [h3]
          simp only at h
          by_cases h8 : e.k = 8
          · rw [if_pos h8] at h
            cases o1 with
            | none =>
              simp only [Option.some.injEq, Prod.mk.injEq] at h
              obtain ⟨rfl, rfl⟩ := h
              refine ⟨k, by omega, ?_⟩
              unfold stp
              by_cases hk2 : x + k ≤ most
              · rw [if_pos hk2]; simp only; rw [if_pos h8]
              · rw [if_neg hk2]
            | some q =>
              simp only at h
              by_cases hk2 : x + k ≤ most
              · obtain ⟨h5', h6'⟩ := starG_an ih y f q (1 + k) o n (x + k) h hk2
                refine ⟨n - 1, by omega, ?_⟩
                rw [stp, if_pos hk2]
                simp only
                rw [if_pos h8, h6']
                unfold stp
                rw [show x + k + (n - (1 + k)) = x + (n - 1) from by omega]
              · have h4' : 1 + k ≤ n := by
                  rw [starE_acc] at h
                  simp only [Option.map_eq_some_iff, Prod.mk.injEq] at h
                  obtain ⟨y, -, -, h9⟩ := h
                  omega
                refine ⟨n - 1, by omega, ?_⟩
                rw [stp, if_neg hk2, stp, if_neg (by omega)]
          · rw [if_neg h8] at h
            simp only [Option.some.injEq, Prod.mk.injEq] at h
            obtain ⟨rfl, rfl⟩ := h
            refine ⟨k, by omega, ?_⟩
            unfold stp
            by_cases hk2 : x + k ≤ most
            · rw [if_pos hk2, if_pos hk2]; simp only; rw [if_neg h8]
            · rw [if_neg hk2, if_neg hk2]
    obtain ⟨m, rfl, hm⟩ := main
    refine ⟨by omega, ?_⟩
    rw [tryG, hm]
    exact toldA_stp most e p x o m hx
/-! With all remembered, and nothing told. -/
def callM (g : Gr) (F : Ex → Nat → List St → Rg (List St)) (t : ByteArray) (p : Nat) (L : List St) : Rg (List St) :=
  match bodyOf g t with
  | none => none
  | some b => match memo L (fnd g.rules t).toNat p with
    | some o => some (some (o, L))
    | none => match F b p L with
      | none => none
      | some none => some none
      | some (some (o, L')) => some (some (o, L' ++ [(((fnd g.rules t).toNat, p), o)]))
def noTold {σ : Type} (_ : Ex) (_ : Nat) (_ : Ot) (x : σ) : Option σ := some x
theorem toldG_no {σ : Type} (e : Ex) (p : Nat) (r : Rg σ) : toldG (noTold (σ := σ)) e p r = r := by
  match r with
  | none => rfl
  | some none => rfl
  | some (some (o, y)) => rfl
def MeF (F : Ex → Nat → List St → RtL) (G : Ex → Nat → List St → Rg (List St)) : Prop := ∀ e p L, G e p L = (F e p L).map some
section
variable {F : Ex → Nat → List St → RtL} {G : Ex → Nat → List St → Rg (List St)}
theorem seqG_me (h : MeF F G) : ∀ (l : List Ex) (p : Nat) (L : List St), seqG G l p L = (seqM F l p L).map some
  | [], p, L => rfl
  | e :: l, p, L => by
    rw [seqG, seqM, h e p L]
    match F e p L with
    | none => rfl
    | some (none, L') => rfl
    | some (some q, L') => exact seqG_me h l q L'
theorem altG_me (h : MeF F G) : ∀ (l : List Ex) (p : Nat) (L : List St), altG G l p L = (altM F l p L).map some
  | [], p, L => rfl
  | e :: l, p, L => by
    rw [altG, altM, h e p L]
    match F e p L with
    | none => rfl
    | some (some q, L') => rfl
    | some (none, L') => exact altG_me h l p L'
theorem starG_me (h : MeF F G) (e : Ex) : ∀ (m p : Nat) (L : List St), starG G e m p L = (starM F e m p L).map some
  | 0, p, L => rfl
  | m + 1, p, L => by
    rw [starG, starM, h e p L]
    match F e p L with
    | none => rfl
    | some (none, L') => rfl
    | some (some q, L') => exact starG_me h e m q L'
end
theorem callM_me (g : Gr) {F : Ex → Nat → List St → RtL} {G : Ex → Nat → List St → Rg (List St)} (h : MeF F G) (t : ByteArray) (p : Nat) (L : List St) : callM g G t p L = (match bodyOf g t with
      | none => none
      | some b => match memo L (fnd g.rules t).toNat p with
        | some o => some (o, L)
        | none => match F b p L with
          | none => none
          | some (o, L') => some (o, L' ++ [(((fnd g.rules t).toNat, p), o)]) : RtL).map some := by
  unfold callM
  cases bodyOf g t with
  | none => rfl
  | some b =>
    simp only
    cases memo L (fnd g.rules t).toNat p with
    | some o => rfl
    | none =>
      simp only
      rw [h b p L]
      match F b p L with
      | none => rfl
      | some (o, L') => rfl
theorem tryG_me (g : Gr) (s : List UInt8) : ∀ f, MeF (evM g s f) (tryG (callM g) noTold s f)
  | 0, e, p, L => rfl
  | f + 1, e, p, L => by
    have ih := tryG_me g s f
    rw [tryG, toldG_no, evM]
    unfold comesG
    by_cases h1 : e.k = 1 ∨ e.k = 2 ∨ e.k = 3
    · rw [if_pos h1, if_pos h1]; rfl
    rw [if_neg h1, if_neg h1]
    by_cases h4 : e.k = 4
    · rw [if_pos h4, if_pos h4]
      exact callM_me g ih e.t p L
    rw [if_neg h4, if_neg h4]
    by_cases h5 : e.k = 5
    · rw [if_pos h5, if_pos h5]; exact seqG_me ih _ _ _
    rw [if_neg h5, if_neg h5]
    by_cases h6 : e.k = 6
    · rw [if_pos h6, if_pos h6]; exact altG_me ih _ _ _
    rw [if_neg h6, if_neg h6]
    cases e.kids with
    | nil => rfl
    | cons y l =>
      simp only
      by_cases h7 : e.k = 7
      · rw [if_pos h7, if_pos h7]; exact starG_me ih y f p L
      rw [if_neg h7, if_neg h7, ih y p L]
      match evM g s f y p L with
      | none => rfl
      | some (o, L') =>
        simp only [Option.map_some]
        by_cases h8 : e.k = 8
        · rw [if_pos h8, if_pos h8]
          cases o with
          | none => rfl
          | some q => exact starG_me ih y f q L'
        · rw [if_neg h8, if_neg h8]; rfl
end Go.Proofs.Ytokdaapmejccbaa
