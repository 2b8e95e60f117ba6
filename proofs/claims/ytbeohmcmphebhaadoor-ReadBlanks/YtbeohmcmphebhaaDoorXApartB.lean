import Derived.Test.YtbeohmcmphebhaaDoorXFull
namespace Go.Proofs.YtbeohmcmphebhaaDoor
open Ex.same (sameL)
/-- An expression, wherever it lies. -/
def Ex.er : Ex → Ex
  | .mk k S t _ _ kids => .mk k S t none 0 (erL kids)
  where
  erL : List Ex → List Ex
    | [] => []
    | x :: r => Ex.er x :: erL r
open Ex.er (erL)
theorem erL_map : ∀ (l : List Ex), erL l = l.map Ex.er
  | [] => rfl
  | x :: r => by rw [erL, List.map_cons, erL_map r]
theorem same_er : ∀ (a b : Ex), a.same b = true ↔ a.er = b.er
  | .mk k S t _ _ kids, .mk k' S' t' _ _ kids' => by
    rw [same_iff, Ex.er, Ex.er]
    simp only [Ex.k, Ex.S, Ex.t, Ex.kids, Ex.mk.injEq, true_and]
    rw [sameL_er kids kids']
  where
  sameL_er : ∀ (l m : List Ex), sameL l m = true ↔ erL l = erL m
    | [], [] => by simp [sameL, erL]
    | [], _ :: _ => by simp [sameL, erL]
    | _ :: _, [] => by simp [sameL, erL]
    | x :: r, y :: s => by
      rw [sameL_cons, erL, erL, same_er x y, sameL_er r s]
      simp
theorem sameL_er : ∀ (l m : List Ex), sameL l m = true ↔ erL l = erL m := same_er.sameL_er
theorem er_eq (e : Ex) : e.er = .mk e.k e.S e.t none 0 (e.kids.map Ex.er) := by
  cases e with
  | mk k S t a c kids => rw [Ex.er, erL_map]; rfl
/-- A sign put behind. -/
def mkPost (c : UInt8) (e : Ex) : Ex := .mk (if c = 42 then 7 else if c = 43 then 8 else 9) 0#256 ⟨#[]⟩ none 0 [e]
def wrapP (e : Ex) : List UInt8 → Ex
  | [] => e
  | c :: p => wrapP (mkPost c e) p
theorem noS_iff (S : BitVec 256) (h : noS S = true) : S = 0#256 := by
  unfold noS at h
  simp only [Bool.and_eq_true, beq_iff_eq] at h
  obtain ⟨h0, h1, h2, h3⟩ := h
  exact wd_inj _ _ fun k hk => by
    rw [wd_zero]
    match k, hk with
    | 0, _ => exact h0
    | 1, _ => exact h1
    | 2, _ => exact h2
    | 3, _ => exact h3
/-- Of a kind with kids the rest is nothing. -/
theorem form_rest (e : Ex) (h : formOk e = true) (hk : 5 ≤ e.k) : e.S = 0#256 ∧ e.t = ⟨#[]⟩ := by
  unfold formOk at h
  rw [Bool.and_eq_true, Bool.and_eq_true] at h
  obtain ⟨⟨ht, hs⟩, _⟩ := h
  unfold textOk at ht
  rw [if_neg (by omega), if_neg (by omega)] at ht
  unfold setOk at hs
  rw [decide_eq_false (by omega : ¬ e.k = 2), Bool.false_or] at hs
  exact ⟨noS_iff _ hs, empty_of _ (of_decide_eq_true ht)⟩
theorem form_leaf (e : Ex) (h : formOk e = true) : (e.k ≠ 2 → e.S = 0#256) ∧ (e.k = 1 ∨ e.k = 2 → e.t = ⟨#[]⟩) := by
  unfold formOk at h
  rw [Bool.and_eq_true, Bool.and_eq_true] at h
  obtain ⟨⟨ht, hs⟩, _⟩ := h
  refine ⟨fun hk => ?_, fun hk => ?_⟩
  · unfold setOk at hs
    rw [decide_eq_false hk, Bool.false_or] at hs
    exact noS_iff _ hs
  · unfold textOk at ht
    rw [if_neg (by omega), if_neg (by omega)] at ht
    exact empty_of _ (of_decide_eq_true ht)
theorem okA_form {e : Ex} (h : e.okA = true) : formOk e = true := by rw [okA_eq, Bool.and_eq_true] at h; exact h.1
theorem star_er (a x : Ex) (h : formOk a = true) (h7 : 7 ≤ a.k ∧ a.k ≤ 9) (hk : a.kids = [x]) : a.er = mkPost (sgn a.k) x.er := by
  have hr := form_rest a h (by omega)
  rw [er_eq, hk, hr.1, hr.2]
  unfold mkPost sgn
  have : a.k = 7 ∨ a.k = 8 ∨ a.k = 9 := by omega
  rcases this with h1 | h1 | h1 <;> rw [h1] <;> rfl
theorem kid_one {a : Ex} (h : a.kids.length = 1) : ∃ x, a.kids = [x] := by
  match hk : a.kids, h with
  | [x], _ => exact ⟨x, rfl⟩
theorem join_cons2 (x y : List UInt8) (r : List (List UInt8)) (sep : List UInt8) : Lib.join (x :: y :: r) sep = x ++ (sep ++ Lib.join (y :: r) sep) := by
  rw [Lib.join_cons, Lib.join_cons]; simp [Lib.joinTail]
theorem lit_split (a b : List UInt8) (r s : List UInt8) (h : lit a ++ r = lit b ++ s) : a = b ∧ r = s := by
  have h1 := unlit_back a r
  have h2 := unlit_back b s
  rw [h, h2] at h1
  have h3 : b = a := by simpa using congrArg (fun o => o.map Prod.fst) h1
  subst h3
  exact ⟨rfl, List.append_cancel_left h⟩
theorem cls_split (a b : BitVec 256) (r s : List UInt8) (h : cls a ++ r = cls b ++ s) : a = b ∧ r = s := by
  have h1 := unclass_back a r
  have h2 := unclass_back b s
  rw [h, h2] at h1
  have h3 : b = a := by simpa using congrArg (fun o => o.map Prod.fst) h1
  subst h3
  exact ⟨rfl, List.append_cancel_left h⟩
/-- Lists of items with a text between are told, where each item is. -/
theorem list_split (f : Ex → List UInt8) (sep : List UInt8) (F G : List UInt8 → Prop) (hFs : ∀ t, F (sep ++ t)) (hG : ∀ r, G r → F r) (hne : ∀ y, y.okA = true → ∀ t, ¬ G (sep ++ (f y ++ t))) :
    ∀ (X Y : List Ex), (∀ x ∈ X, ∀ y : Ex, y.okA = true → ∀ r s, F r → F s → f x ++ r = f y ++ s → x.er = y.er ∧ r = s) → (∀ x ∈ X, x.okA = true) → (∀ y ∈ Y, y.okA = true) → X ≠ [] → Y ≠ [] → ∀ r s, G r → G s → Lib.join (X.map f) sep ++ r = Lib.join (Y.map f) sep ++ s → X.map Ex.er = Y.map Ex.er ∧ r = s
  | [], _, _, _, _, h, _, _, _, _, _, _ => absurd rfl h
  | _ :: _, [], _, _, _, _, h, _, _, _, _, _ => absurd rfl h
  | [x], [y], hU, _, hy, _, _, r, s, hr, hs, h => by
    rw [List.map_cons, List.map_nil, List.map_cons, List.map_nil, Lib.join_one, Lib.join_one] at h
    have := hU x List.mem_cons_self y (hy y List.mem_cons_self) r s (hG r hr) (hG s hs) h
    exact ⟨by rw [List.map_cons, List.map_nil, List.map_cons, List.map_nil, this.1], this.2⟩
  | [x], y :: y2 :: Y, hU, _, hy, _, _, r, s, hr, hs, h => by
    simp only [List.map_cons, List.map_nil, Lib.join_one, join_cons2, List.append_assoc] at h
    have h1 := hU x List.mem_cons_self y (hy y List.mem_cons_self) r _ (hG r hr) (hFs _) h
    refine absurd (h1.2 ▸ hr) ?_
    cases Y with
    | nil => rw [List.map_nil, Lib.join_one]; exact hne y2 (hy y2 (by simp)) s
    | cons y3 Y => rw [List.map_cons, join_cons2, List.append_assoc]; exact hne y2 (hy y2 (by simp)) _
  | x :: x2 :: X, [y], hU, hx, hy, _, _, r, s, hr, hs, h => by
    simp only [List.map_cons, List.map_nil, Lib.join_one, join_cons2, List.append_assoc] at h
    have h1 := hU x List.mem_cons_self y (hy y List.mem_cons_self) _ s (hFs _) (hG s hs) h
    refine absurd (h1.2.symm ▸ hs) ?_
    cases X with
    | nil => rw [List.map_nil, Lib.join_one]; exact hne x2 (hx x2 (by simp)) r
    | cons x3 X => rw [List.map_cons, join_cons2, List.append_assoc]; exact hne x2 (hx x2 (by simp)) _
  | x :: x2 :: X, y :: y2 :: Y, hU, hx, hy, _, _, r, s, hr, hs, h => by
    rw [List.map_cons, List.map_cons, List.map_cons, List.map_cons, join_cons2, join_cons2] at h
    simp only [List.append_assoc] at h
    have h1 := hU x List.mem_cons_self y (hy y List.mem_cons_self) _ _ (hFs _) (hFs _) h
    have h2 := List.append_cancel_left h1.2
    rw [← List.map_cons, ← List.map_cons] at h2
    have h3 := list_split f sep F G hFs hG hne (x2 :: X) (y2 :: Y) (fun z hz => hU z (List.mem_cons_of_mem _ hz)) (fun z hz => hx z (List.mem_cons_of_mem _ hz)) (fun z hz => hy z (List.mem_cons_of_mem _ hz)) (by simp) (by simp) r s hr hs h2
    exact ⟨by rw [List.map_cons, List.map_cons (l := y2 :: Y), h1.1, h3.1], h3.2⟩
end Go.Proofs.YtbeohmcmphebhaaDoor
namespace Go.Proofs.YtbeohmcmphebhaaDoor
open Ex.pr (prKs)
def U2 (a b : Ex) : Prop := ∀ r s, fol2 r → fol2 s → a.bt 2 ++ r = b.bt 2 ++ s → a.er = b.er ∧ r = s
def U1 (a b : Ex) : Prop := ∀ r s, fol1 r → fol1 s → a.bt 1 ++ r = b.bt 1 ++ s → a.er = b.er ∧ r = s
def U0 (a b : Ex) : Prop := ∀ r s, fol0 r → fol0 s → a.pr ++ r = b.pr ++ s → a.er = b.er ∧ r = s
theorem isL_ne (c : UInt8) (h : isL (c.toNat : Int) = true) : c ≠ 41 ∧ c ≠ 47 ∧ c ≠ 40 ∧ c ≠ 46 ∧ c ≠ 91 ∧ c ≠ 39 ∧ c ≠ 38 ∧ c ≠ 33 := by
  refine ⟨?_, ?_, ?_, ?_, ?_, ?_, ?_, ?_⟩ <;> (rintro rfl; revert h; decide)
/-- How an expression's text begins, where it stands by itself. -/
theorem bt_head (least : Int) (x : Ex) (h : ∃ c t, x.pr = c :: t ∧ c ≠ 41 ∧ c ≠ 47) : ∃ c t, x.bt least = c :: t ∧ c ≠ 41 ∧ c ≠ 47 := by
  unfold Ex.bt brk
  split
  · exact h
  · exact ⟨40, _, rfl, by decide, by decide⟩
theorem join_head (l : List (List UInt8)) (sep : List UInt8) (h : ∃ c t r, l = (c :: t) :: r ∧ c ≠ 41 ∧ c ≠ 47) : ∃ c t, Lib.join l sep = c :: t ∧ c ≠ 41 ∧ c ≠ 47 := by
  obtain ⟨c, t, r, rfl, h1, h2⟩ := h
  rw [Lib.join_cons]
  exact ⟨c, _, rfl, h1, h2⟩
theorem pr_head : ∀ (n : Nat) (e : Ex), e.size ≤ n → e.okA = true → ∃ c t, e.pr = c :: t ∧ c ≠ 41 ∧ c ≠ 47 := by
  intro n
  induction n with
  | zero => intro e he; rw [size_eq] at he; omega
  | succ n ih =>
    intro e he hok
    have hf := okA_form hok
    have hkid : ∀ least, e.kids ≠ [] → ∃ c t r, prKs least e.kids = (c :: t) :: r ∧ c ≠ 41 ∧ c ≠ 47 := fun least hne => by
      match hk : e.kids, hne with
      | x :: r, _ =>
        have hx : x ∈ e.kids := by rw [hk]; exact List.mem_cons_self
        have h1 := size_kid hx
        obtain ⟨c, t, h2, h3⟩ := bt_head least x (ih x (by omega) (okA_kid hok hx))
        refine ⟨c, t, prKs least r, ?_, h3⟩
        rw [prKs]
        unfold Ex.bt at h2
        rw [h2]
    rw [pr_eq]
    rcases form_kinds e hf with (⟨h1, _⟩ | ⟨h1, _⟩ | ⟨h1, _, h2⟩ | ⟨h1, _, h2⟩) | ⟨h1 | h1, h2, _⟩ | ⟨h1, h2, h3⟩
    · rw [if_pos h1]; exact ⟨40, _, rfl, by decide, by decide⟩
    · rw [if_neg (by omega), if_pos h1]
      split
      · exact ⟨46, _, rfl, by decide, by decide⟩
      · exact ⟨91, _, rfl, by decide, by decide⟩
    · rw [if_neg (by omega), if_neg (by omega), if_pos h1]; exact ⟨39, _, rfl, by decide, by decide⟩
    · rw [if_neg (by omega), if_neg (by omega), if_neg (by omega), if_pos h1]
      have hnm : isName e.t.data.toList = true := by
        unfold formOk at hf
        rw [Bool.and_eq_true, Bool.and_eq_true] at hf
        have ht := hf.1.1
        unfold textOk at ht
        rwa [if_neg (by omega), if_pos h1] at ht
      obtain ⟨_, c, r, hc, hl⟩ := name_ok e.t hnm
      exact ⟨c, r, hc, (isL_ne c hl).1, (isL_ne c hl).2.1⟩
    · have hne : e.kids ≠ [] := by intro h; rw [h] at h2; simp at h2
      rw [if_neg (by omega), if_neg (by omega), if_neg (by omega), if_neg (by omega), if_neg (by omega), if_pos h1]
      exact join_head _ _ (hkid 2 hne)
    · have hne : e.kids ≠ [] := by intro h; rw [h] at h2; simp at h2
      rw [if_neg (by omega), if_neg (by omega), if_neg (by omega), if_neg (by omega), if_pos h1]
      exact join_head _ _ (hkid 1 hne)
    · have hne : e.kids ≠ [] := by intro h; rw [h] at h3; simp at h3
      rw [if_neg (by omega), if_neg (by omega), if_neg (by omega), if_neg (by omega), if_neg (by omega), if_neg (by omega)]
      split
      · exact ⟨38, _, rfl, by decide, by decide⟩
      split
      · exact ⟨33, _, rfl, by decide, by decide⟩
      · obtain ⟨c, t, r, h4, h5⟩ := hkid 3 hne
        rw [h4]
        exact ⟨c, _, rfl, h5⟩
/-- What stands side by side in a sequence, and what is chosen from. -/
def items2 (x : Ex) : List Ex := if x.k = 5 then x.kids else [x]
def items1 (x : Ex) : List Ex := if x.k = 6 then x.kids else [x]
theorem tight_cases (k : Int) : (k = 6 ∧ tight k = 0) ∨ (k = 5 ∧ tight k = 1) ∨ ((k = 10 ∨ k = 11) ∧ tight k = 2) ∨ (k ≠ 6 ∧ k ≠ 5 ∧ k ≠ 10 ∧ k ≠ 11 ∧ tight k = 3) := by
  unfold tight
  by_cases h6 : k = 6
  · exact .inl ⟨h6, if_pos h6⟩
  by_cases h5 : k = 5
  · exact .inr (.inl ⟨h5, by rw [if_neg h6, if_pos h5]⟩)
  by_cases h10 : k = 10 ∨ k = 11
  · exact .inr (.inr (.inl ⟨h10, by rw [if_neg h6, if_neg h5, if_pos h10]⟩))
  · exact .inr (.inr (.inr ⟨h6, h5, by omega, by omega, by rw [if_neg h6, if_neg h5, if_neg h10]⟩))
theorem bt_pr (least : Int) (x : Ex) (h : least ≤ tight x.k) : x.bt least = x.pr := by unfold Ex.bt brk; rw [if_pos h]
theorem bt_brk (least : Int) (x : Ex) (h : ¬ least ≤ tight x.k) : x.bt least = [40] ++ x.pr ++ [41] := by unfold Ex.bt brk; rw [if_neg h]
theorem bt1_items (x : Ex) : x.bt 1 = Lib.join ((items2 x).map (Ex.bt 2)) [32] := by
  unfold items2
  have ht := tight_cases x.k
  by_cases h5 : x.k = 5
  · rw [if_pos h5, bt_pr 1 x (by omega), pr_eq, if_neg (by omega), if_neg (by omega), if_neg (by omega), if_neg (by omega), if_neg (by omega), if_pos h5, prKs_map]
    rfl
  · rw [if_neg h5, List.map_cons, List.map_nil, Lib.join_one]
    by_cases h6 : x.k = 6
    · rw [bt_brk 1 x (by omega), bt_brk 2 x (by omega)]
    · rw [bt_pr 1 x (by omega), bt_pr 2 x (by omega)]
theorem pr_items (x : Ex) : x.pr = Lib.join ((items1 x).map (Ex.bt 1)) [32, 47, 32] := by
  unfold items1
  have ht := tight_cases x.k
  by_cases h6 : x.k = 6
  · rw [if_pos h6, pr_eq, if_neg (by omega), if_neg (by omega), if_neg (by omega), if_neg (by omega), if_pos h6, prKs_map]
    rfl
  · rw [if_neg h6, List.map_cons, List.map_nil, Lib.join_one, bt_pr 1 x (by omega)]
theorem items2_ok {x : Ex} (h : x.okA = true) : ∀ y ∈ items2 x, y.okA = true := by
  intro y hy
  unfold items2 at hy
  split at hy
  · exact okA_kid h hy
  · simp at hy; rw [hy]; exact h
theorem items1_ok {x : Ex} (h : x.okA = true) : ∀ y ∈ items1 x, y.okA = true := by
  intro y hy
  unfold items1 at hy
  split at hy
  · exact okA_kid h hy
  · simp at hy; rw [hy]; exact h
theorem kids_two {x : Ex} (h : x.okA = true) (hk : x.k = 5 ∨ x.k = 6) : 2 ≤ x.kids.length := by
  rcases form_kinds x (okA_form h) with (⟨h1, _⟩ | ⟨h1, _⟩ | ⟨h1, _⟩ | ⟨h1, _⟩) | ⟨h1, h2, _⟩ | ⟨h1, h2, h3⟩
  all_goals omega
theorem items_er (K : Int) (hK : K = 5 ∨ K = 6) (x y : Ex) (hx : x.okA = true) (hy : y.okA = true) (h : (if x.k = K then x.kids else [x]).map Ex.er = (if y.k = K then y.kids else [y]).map Ex.er) : x.er = y.er := by
  have hl := congrArg List.length h
  simp only [List.length_map] at hl
  by_cases hxk : x.k = K
  · by_cases hyk : y.k = K
    · rw [if_pos hxk, if_pos hyk] at h
      have h1 := form_rest x (okA_form hx) (by omega)
      have h2 := form_rest y (okA_form hy) (by omega)
      rw [er_eq, er_eq, h, h1.1, h1.2, h2.1, h2.2, hxk, hyk]
    · rw [if_pos hxk, if_neg hyk] at hl
      have := kids_two hx (by omega)
      simp at hl; omega
  · by_cases hyk : y.k = K
    · rw [if_neg hxk, if_pos hyk] at hl
      have := kids_two hy (by omega)
      simp at hl; omega
    · rw [if_neg hxk, if_neg hyk] at h
      simpa using h
theorem items2_ne {x : Ex} (h : x.okA = true) : items2 x ≠ [] := by
  unfold items2
  split
  · rename_i hk
    have := kids_two h (.inl hk)
    intro h0; rw [h0] at this; simp at this
  · simp
theorem items1_ne {x : Ex} (h : x.okA = true) : items1 x ≠ [] := by
  unfold items1
  split
  · rename_i hk
    have := kids_two h (.inr hk)
    intro h0; rw [h0] at this; simp at this
  · simp
theorem bt_first (least : Int) (y : Ex) (hy : y.okA = true) : ∃ c t, y.bt least = c :: t ∧ c ≠ 41 ∧ c ≠ 47 := bt_head least y (pr_head y.size y (Nat.le_refl _) hy)
theorem U1_of (x : Ex) (hx : x.okA = true) (H : ∀ u ∈ items2 x, ∀ b : Ex, b.okA = true → U2 u b) (y : Ex) (hy : y.okA = true) : U1 x y := fun r s hr hs h => by
  rw [bt1_items x, bt1_items y] at h
  have := list_split (Ex.bt 2) [32] fol2 fol1 (fun t => fol2_sp t) (fun r hr => fol1_2 hr) (fun z hz t hg => by
    obtain ⟨c, t', h1, h2, h3⟩ := bt_first 2 z hz
    rw [h1] at hg
    rcases hg with hg | ⟨s', hg⟩ | ⟨s', hg⟩
    · cases hg
    · cases hg
    · simp at hg; exact h3 hg.1) (items2 x) (items2 y) (fun u hu b hb r s hr hs he => H u hu b hb r s hr hs he) (items2_ok hx) (items2_ok hy) (items2_ne hx) (items2_ne hy) r s hr hs h
  exact ⟨items_er 5 (.inl rfl) x y hx hy this.1, this.2⟩
theorem U0_of (x : Ex) (hx : x.okA = true) (H : ∀ u ∈ items1 x, ∀ b : Ex, b.okA = true → U1 u b) (y : Ex) (hy : y.okA = true) : U0 x y := fun r s hr hs h => by
  rw [pr_items x, pr_items y] at h
  have := list_split (Ex.bt 1) [32, 47, 32] fol1 fol0 (fun t => .inr (.inr ⟨32 :: t, rfl⟩)) (fun r hr => fol0_1 hr) (fun z hz t hg => by
    rcases hg with hg | ⟨s', hg⟩
    · cases hg
    · cases hg) (items1 x) (items1 y) (fun u hu b hb r s hr hs he => H u hu b hb r s hr hs he) (items1_ok hx) (items1_ok hy) (items1_ne hx) (items1_ne hy) r s hr hs h
  exact ⟨items_er 6 (.inr rfl) x y hx hy this.1, this.2⟩
end Go.Proofs.YtbeohmcmphebhaaDoor
