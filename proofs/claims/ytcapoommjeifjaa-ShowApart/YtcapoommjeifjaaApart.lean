import Derived.Test.YtcapoommjeifjaaSame
namespace Go.Proofs.Ytcapoommjeifjaa
open Ex.same (sameL)
/-- An expression, wherever it lies. -/
def Ex.er : Ex → Ex
  | .mk k S t _ _ kids => .mk k S t none 0 (erL kids)
  where
  erL : List Ex → List Ex
    | [] => []
    | x :: r => Ex.er x :: erL r
open Ex.er (erL)
theorem erL_map : ∀ (l : List Ex), erL l = l.map Ex.er
  | [] => rfl
  | x :: r => by rw [erL, List.map_cons, erL_map r]
theorem same_er : ∀ (a b : Ex), a.same b = true ↔ a.er = b.er
  | .mk k S t _ _ kids, .mk k' S' t' _ _ kids' => by
    rw [same_iff, Ex.er, Ex.er]
    simp only [Ex.k, Ex.S, Ex.t, Ex.kids, Ex.mk.injEq, true_and]
    rw [sameL_er kids kids']
  where
  sameL_er : ∀ (l m : List Ex), sameL l m = true ↔ erL l = erL m
    | [], [] => by simp [sameL, erL]
    | [], _ :: _ => by simp [sameL, erL]
    | _ :: _, [] => by simp [sameL, erL]
    | x :: r, y :: s => by
      rw [sameL_cons, erL, erL, same_er x y, sameL_er r s]
      simp
theorem sameL_er : ∀ (l m : List Ex), sameL l m = true ↔ erL l = erL m := same_er.sameL_er
theorem er_eq (e : Ex) : e.er = .mk e.k e.S e.t none 0 (e.kids.map Ex.er) := by
  cases e with
  | mk k S t a c kids => rw [Ex.er, erL_map]; rfl
/-- A sign put behind. -/
def mkPost (c : UInt8) (e : Ex) : Ex := .mk (if c = 42 then 7 else if c = 43 then 8 else 9) 0#256 ⟨#[]⟩ none 0 [e]
def wrapP (e : Ex) : List UInt8 → Ex
  | [] => e
  | c :: p => wrapP (mkPost c e) p
theorem noS_iff (S : BitVec 256) (h : noS S = true) : S = 0#256 := by
  unfold noS at h
  simp only [Bool.and_eq_true, beq_iff_eq] at h
  obtain ⟨h0, h1, h2, h3⟩ := h
  exact wd_inj _ _ fun k hk => by
    rw [wd_zero]
    match k, hk with
    | 0, _ => exact h0
    | 1, _ => exact h1
    | 2, _ => exact h2
    | 3, _ => exact h3
/-- Of a kind with kids the rest is nothing. -/
theorem form_rest (e : Ex) (h : formOk e = true) (hk : 5 ≤ e.k) : e.S = 0#256 ∧ e.t = ⟨#[]⟩ := by
  unfold formOk at h
  rw [Bool.and_eq_true, Bool.and_eq_true] at h
  obtain ⟨⟨ht, hs⟩, _⟩ := h
  unfold textOk at ht
  rw [if_neg (by omega), if_neg (by omega)] at ht
  unfold setOk at hs
  rw [decide_eq_false (by omega : ¬ e.k = 2), Bool.false_or] at hs
  exact ⟨noS_iff _ hs, empty_of _ (of_decide_eq_true ht)⟩
theorem form_leaf (e : Ex) (h : formOk e = true) : (e.k ≠ 2 → e.S = 0#256) ∧ (e.k = 1 ∨ e.k = 2 → e.t = ⟨#[]⟩) := by
  unfold formOk at h
  rw [Bool.and_eq_true, Bool.and_eq_true] at h
  obtain ⟨⟨ht, hs⟩, _⟩ := h
  refine ⟨fun hk => ?_, fun hk => ?_⟩
  · unfold setOk at hs
    rw [decide_eq_false hk, Bool.false_or] at hs
    exact noS_iff _ hs
  · unfold textOk at ht
    rw [if_neg (by omega), if_neg (by omega)] at ht
    exact empty_of _ (of_decide_eq_true ht)
theorem okA_form {e : Ex} (h : e.okA = true) : formOk e = true := by rw [okA_eq, Bool.and_eq_true] at h; exact h.1
theorem star_er (a x : Ex) (h : formOk a = true) (h7 : 7 ≤ a.k ∧ a.k ≤ 9) (hk : a.kids = [x]) : a.er = mkPost (sgn a.k) x.er := by
  have hr := form_rest a h (by omega)
  rw [er_eq, hk, hr.1, hr.2]
  unfold mkPost sgn
  have : a.k = 7 ∨ a.k = 8 ∨ a.k = 9 := by omega
  rcases this with h1 | h1 | h1 <;> rw [h1] <;> rfl
theorem kid_one {a : Ex} (h : a.kids.length = 1) : ∃ x, a.kids = [x] := by
  match hk : a.kids, h with
  | [x], _ => exact ⟨x, rfl⟩
theorem join_cons2 (x y : List UInt8) (r : List (List UInt8)) (sep : List UInt8) : Lib.join (x :: y :: r) sep = x ++ (sep ++ Lib.join (y :: r) sep) := by
  rw [Lib.join_cons, Lib.join_cons]; simp [Lib.joinTail]
theorem lit_split (a b : List UInt8) (r s : List UInt8) (h : lit a ++ r = lit b ++ s) : a = b ∧ r = s := by
  have h1 := unlit_back a r
  have h2 := unlit_back b s
  rw [h, h2] at h1
  have h3 : b = a := by simpa using congrArg (fun o => o.map Prod.fst) h1
  subst h3
  exact ⟨rfl, List.append_cancel_left h⟩
theorem cls_split (a b : BitVec 256) (r s : List UInt8) (h : cls a ++ r = cls b ++ s) : a = b ∧ r = s := by
  have h1 := unclass_back a r
  have h2 := unclass_back b s
  rw [h, h2] at h1
  have h3 : b = a := by simpa using congrArg (fun o => o.map Prod.fst) h1
  subst h3
  exact ⟨rfl, List.append_cancel_left h⟩
/-- Lists of items with a text between are told, where each item is. -/
theorem list_split (f : Ex → List UInt8) (sep : List UInt8) (F G : List UInt8 → Prop) (hFs : ∀ t, F (sep ++ t)) (hG : ∀ r, G r → F r) (hne : ∀ y, y.okA = true → ∀ t, ¬ G (sep ++ (f y ++ t))) :
    ∀ (X Y : List Ex), (∀ x ∈ X, ∀ y : Ex, y.okA = true → ∀ r s, F r → F s → f x ++ r = f y ++ s → x.er = y.er ∧ r = s) → (∀ x ∈ X, x.okA = true) → (∀ y ∈ Y, y.okA = true) → X ≠ [] → Y ≠ [] → ∀ r s, G r → G s → Lib.join (X.map f) sep ++ r = Lib.join (Y.map f) sep ++ s → X.map Ex.er = Y.map Ex.er ∧ r = s
  | [], _, _, _, _, h, _, _, _, _, _, _ => absurd rfl h
  | _ :: _, [], _, _, _, _, h, _, _, _, _, _ => absurd rfl h
  | [x], [y], hU, _, hy, _, _, r, s, hr, hs, h => by
    rw [List.map_cons, List.map_nil, List.map_cons, List.map_nil, Lib.join_one, Lib.join_one] at h
    have := hU x List.mem_cons_self y (hy y List.mem_cons_self) r s (hG r hr) (hG s hs) h
    exact ⟨by rw [List.map_cons, List.map_nil, List.map_cons, List.map_nil, this.1], this.2⟩
  | [x], y :: y2 :: Y, hU, _, hy, _, _, r, s, hr, hs, h => by
    simp only [List.map_cons, List.map_nil, Lib.join_one, join_cons2, List.append_assoc] at h
    have h1 := hU x List.mem_cons_self y (hy y List.mem_cons_self) r _ (hG r hr) (hFs _) h
    refine absurd (h1.2 ▸ hr) ?_
    cases Y with
    | nil => rw [List.map_nil, Lib.join_one]; exact hne y2 (hy y2 (by simp)) s
    | cons y3 Y => rw [List.map_cons, join_cons2, List.append_assoc]; exact hne y2 (hy y2 (by simp)) _
  | x :: x2 :: X, [y], hU, hx, hy, _, _, r, s, hr, hs, h => by
    simp only [List.map_cons, List.map_nil, Lib.join_one, join_cons2, List.append_assoc] at h
    have h1 := hU x List.mem_cons_self y (hy y List.mem_cons_self) _ s (hFs _) (hG s hs) h
    refine absurd (h1.2.symm ▸ hs) ?_
    cases X with
    | nil => rw [List.map_nil, Lib.join_one]; exact hne x2 (hx x2 (by simp)) r
    | cons x3 X => rw [List.map_cons, join_cons2, List.append_assoc]; exact hne x2 (hx x2 (by simp)) _
  | x :: x2 :: X, y :: y2 :: Y, hU, hx, hy, _, _, r, s, hr, hs, h => by
    rw [List.map_cons, List.map_cons, List.map_cons, List.map_cons, join_cons2, join_cons2] at h
    simp only [List.append_assoc] at h
    have h1 := hU x List.mem_cons_self y (hy y List.mem_cons_self) _ _ (hFs _) (hFs _) h
    have h2 := List.append_cancel_left h1.2
    rw [← List.map_cons, ← List.map_cons] at h2
    have h3 := list_split f sep F G hFs hG hne (x2 :: X) (y2 :: Y) (fun z hz => hU z (List.mem_cons_of_mem _ hz)) (fun z hz => hx z (List.mem_cons_of_mem _ hz)) (fun z hz => hy z (List.mem_cons_of_mem _ hz)) (by simp) (by simp) r s hr hs h2
    exact ⟨by rw [List.map_cons, List.map_cons (l := y2 :: Y), h1.1, h3.1], h3.2⟩
end Go.Proofs.Ytcapoommjeifjaa
