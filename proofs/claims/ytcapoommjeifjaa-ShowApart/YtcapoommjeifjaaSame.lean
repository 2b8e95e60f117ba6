import Derived.Test.YtcapoommjeifjaaPr
namespace Go.Proofs.Ytcapoommjeifjaa
open Ex.pr (prKs)
/-- Whether two expressions are the same, wherever they lie. -/
def Ex.same : Ex → Ex → Bool
  | .mk k S t _ _ kids, .mk k' S' t' _ _ kids' => decide (k = k') && decide (S = S') && decide (t = t') && sameL kids kids'
  where
  sameL : List Ex → List Ex → Bool
    | [], [] => true
    | x :: r, y :: s => Ex.same x y && sameL r s
    | _, _ => false
open Ex.same (sameL)
theorem same_iff (a b : Ex) : a.same b = true ↔ a.k = b.k ∧ a.S = b.S ∧ a.t = b.t ∧ sameL a.kids b.kids = true := by
  cases a with
  | mk k S t x c kids =>
    cases b with
    | mk k' S' t' x' c' kids' =>
      rw [Ex.same]
      simp only [Bool.and_eq_true, decide_eq_true_eq, Ex.k, Ex.S, Ex.t, Ex.kids]
      constructor
      · rintro ⟨⟨⟨h1, h2⟩, h3⟩, h4⟩; exact ⟨h1, h2, h3, h4⟩
      · rintro ⟨h1, h2, h3, h4⟩; exact ⟨⟨⟨h1, h2⟩, h3⟩, h4⟩
theorem sameL_cons (x y : Ex) (r s : List Ex) : sameL (x :: r) (y :: s) = true ↔ x.same y = true ∧ sameL r s = true := by
  rw [sameL, Bool.and_eq_true]
theorem same_pr : ∀ (a b : Ex), a.same b = true → a.pr = b.pr ∧ a.k = b.k
  | .mk k S t _ _ kids, .mk k' S' t' _ _ kids', h => by
    rw [same_iff] at h
    simp only [Ex.k, Ex.S, Ex.t, Ex.kids] at h
    obtain ⟨rfl, rfl, rfl, h4⟩ := h
    have hL := fun least => sameL_pr least kids kids' h4
    refine ⟨?_, rfl⟩
    rw [Ex.pr, Ex.pr, hL 1, hL 2, hL 3]
  where
  sameL_pr (least : Int) : ∀ (l m : List Ex), sameL l m = true → prKs least l = prKs least m
    | [], [], _ => rfl
    | [], _ :: _, h => by simp [sameL] at h
    | _ :: _, [], h => by simp [sameL] at h
    | x :: r, y :: s, h => by
      rw [sameL_cons] at h
      have h1 := same_pr x y h.1
      rw [prKs, prKs, h1.1, h1.2, sameL_pr least r s h.2]
theorem sameL_pr (least : Int) : ∀ (l m : List Ex), sameL l m = true → prKs least l = prKs least m := same_pr.sameL_pr least
/-- An expression's text where brackets are asked for. -/
def Ex.bt (least : Int) (x : Ex) : List UInt8 := brk least x.k x.pr
/-- A sign that may stand behind. -/
def isPost (c : UInt8) : Prop := c = 42 ∨ c = 43 ∨ c = 63
/-- What may follow behind what holds tight: no sign that belongs to it. -/
def fol2 (r : List UInt8) : Prop := ∀ c s, r = c :: s → ¬ isPost c ∧ okc c = false
def fol1 (r : List UInt8) : Prop := r = [] ∨ (∃ s, r = 41 :: s) ∨ (∃ s, r = 32 :: 47 :: s)
def fol0 (r : List UInt8) : Prop := r = [] ∨ ∃ s, r = 41 :: s
theorem fol0_1 {r : List UInt8} (h : fol0 r) : fol1 r := by
  rcases h with h | h
  · exact .inl h
  · exact .inr (.inl h)
theorem not_post41 : ¬ isPost 41 ∧ okc 41 = false := ⟨by unfold isPost; decide, by decide⟩
theorem not_post32 : ¬ isPost 32 ∧ okc 32 = false := ⟨by unfold isPost; decide, by decide⟩
theorem fol1_2 {r : List UInt8} (h : fol1 r) : fol2 r := by
  intro c s hr
  rcases h with h | ⟨s', h⟩ | ⟨s', h⟩
  · rw [h] at hr; cases hr
  · rw [h] at hr; cases hr; exact not_post41
  · rw [h] at hr; cases hr; exact not_post32
theorem fol2_sp (s : List UInt8) : fol2 (32 :: s) := fun c t h => by cases h; exact not_post32
theorem post_not_ok (c : UInt8) (h : isPost c) : okc c = false := by
  rcases h with rfl | rfl | rfl <;> decide
theorem sgn_post (k : Int) : isPost (sgn k) := by
  unfold sgn isPost
  split
  · simp
  split
  · simp
  · simp
/-- Within a row of signs that stand behind, and what follows, the signs are told. -/
theorem post_split : ∀ (p q r s : List UInt8), (∀ c ∈ p, isPost c) → (∀ c ∈ q, isPost c) → fol2 r → fol2 s → p ++ r = q ++ s → p = q ∧ r = s
  | [], [], r, s, _, _, _, _, h => ⟨rfl, h⟩
  | [], c :: q, r, s, _, hq, hr, _, h => absurd (hq c List.mem_cons_self) (hr c _ h).1
  | c :: p, [], r, s, hp, _, _, hs, h => absurd (hp c List.mem_cons_self) (hs c _ h.symm).1
  | c :: p, d :: q, r, s, hp, hq, hr, hs, h => by
    simp only [List.cons_append, List.cons.injEq] at h
    obtain ⟨h1, h2⟩ := post_split p q r s (fun x hx => hp x (List.mem_cons_of_mem _ hx)) (fun x hx => hq x (List.mem_cons_of_mem _ hx)) hr hs h.2
    exact ⟨by rw [h.1, h1], h2⟩
/-- Names are told by what follows. -/
theorem name_split : ∀ (p q r s : List UInt8), (∀ c ∈ p, okc c = true) → (∀ c ∈ q, okc c = true) → (∀ c t, r = c :: t → okc c = false) → (∀ c t, s = c :: t → okc c = false) → p ++ r = q ++ s → p = q ∧ r = s
  | [], [], r, s, _, _, _, _, h => ⟨rfl, h⟩
  | [], c :: q, r, s, _, hq, hr, _, h => by have h1 := hr c _ h; rw [hq c List.mem_cons_self] at h1; cases h1
  | c :: p, [], r, s, hp, _, _, hs, h => by have h1 := hs c _ h.symm; rw [hp c List.mem_cons_self] at h1; cases h1
  | c :: p, d :: q, r, s, hp, hq, hr, hs, h => by
    simp only [List.cons_append, List.cons.injEq] at h
    obtain ⟨h1, h2⟩ := name_split p q r s (fun x hx => hp x (List.mem_cons_of_mem _ hx)) (fun x hx => hq x (List.mem_cons_of_mem _ hx)) hr hs h.2
    exact ⟨by rw [h.1, h1], h2⟩
theorem name_ok (t : ByteArray) (h : isName t.data.toList = true) : (∀ c ∈ t.data.toList, okc c = true) ∧ ∃ c r, t.data.toList = c :: r ∧ isL (c.toNat : Int) = true := by
  unfold isName at h
  simp only [Bool.and_eq_true] at h
  cases hl : t.data.toList with
  | nil => rw [hl] at h; simp at h
  | cons c r =>
    rw [hl] at h
    have h1 := h.1.1
    simp only [part, Bool.and_eq_true, List.all_eq_true] at h1
    refine ⟨fun x hx => ?_, c, r, rfl, h1.1⟩
    rcases List.mem_cons.1 hx with rfl | hx
    · unfold okc; rw [h1.1]; rfl
    · exact h1.2 x hx
end Go.Proofs.Ytcapoommjeifjaa
