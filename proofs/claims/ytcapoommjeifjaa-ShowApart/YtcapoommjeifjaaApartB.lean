import Derived.Test.YtcapoommjeifjaaApart
namespace Go.Proofs.Ytcapoommjeifjaa
open Ex.pr (prKs)
def U2 (a b : Ex) : Prop := ∀ r s, fol2 r → fol2 s → a.bt 2 ++ r = b.bt 2 ++ s → a.er = b.er ∧ r = s
def U1 (a b : Ex) : Prop := ∀ r s, fol1 r → fol1 s → a.bt 1 ++ r = b.bt 1 ++ s → a.er = b.er ∧ r = s
def U0 (a b : Ex) : Prop := ∀ r s, fol0 r → fol0 s → a.pr ++ r = b.pr ++ s → a.er = b.er ∧ r = s
theorem isL_ne (c : UInt8) (h : isL (c.toNat : Int) = true) : c ≠ 41 ∧ c ≠ 47 ∧ c ≠ 40 ∧ c ≠ 46 ∧ c ≠ 91 ∧ c ≠ 39 ∧ c ≠ 38 ∧ c ≠ 33 := by
  refine ⟨?_, ?_, ?_, ?_, ?_, ?_, ?_, ?_⟩ <;> (rintro rfl; revert h; decide)
/-- How an expression's text begins, where it stands by itself. -/
theorem bt_head (least : Int) (x : Ex) (h : ∃ c t, x.pr = c :: t ∧ c ≠ 41 ∧ c ≠ 47) : ∃ c t, x.bt least = c :: t ∧ c ≠ 41 ∧ c ≠ 47 := by
  unfold Ex.bt brk
  split
  · exact h
  · exact ⟨40, _, rfl, by decide, by decide⟩
theorem join_head (l : List (List UInt8)) (sep : List UInt8) (h : ∃ c t r, l = (c :: t) :: r ∧ c ≠ 41 ∧ c ≠ 47) : ∃ c t, Lib.join l sep = c :: t ∧ c ≠ 41 ∧ c ≠ 47 := by
  obtain ⟨c, t, r, rfl, h1, h2⟩ := h
  rw [Lib.join_cons]
  exact ⟨c, _, rfl, h1, h2⟩
theorem pr_head : ∀ (n : Nat) (e : Ex), e.size ≤ n → e.okA = true → ∃ c t, e.pr = c :: t ∧ c ≠ 41 ∧ c ≠ 47 := by
  intro n
  induction n with
  | zero => intro e he; rw [size_eq] at he; omega
  | succ n ih =>
    intro e he hok
    have hf := okA_form hok
    have hkid : ∀ least, e.kids ≠ [] → ∃ c t r, prKs least e.kids = (c :: t) :: r ∧ c ≠ 41 ∧ c ≠ 47 := fun least hne => by
      match hk : e.kids, hne with
      | x :: r, _ =>
        have hx : x ∈ e.kids := by rw [hk]; exact List.mem_cons_self
        have h1 := size_kid hx
        obtain ⟨c, t, h2, h3⟩ := bt_head least x (ih x (by omega) (okA_kid hok hx))
        refine ⟨c, t, prKs least r, ?_, h3⟩
        rw [prKs]
        unfold Ex.bt at h2
        rw [h2]
    rw [pr_eq]
    rcases form_kinds e hf with (⟨h1, _⟩ | ⟨h1, _⟩ | ⟨h1, _, h2⟩ | ⟨h1, _, h2⟩) | ⟨h1 | h1, h2, _⟩ | ⟨h1, h2, h3⟩
    · rw [if_pos h1]; exact ⟨40, _, rfl, by decide, by decide⟩
    · rw [if_neg (by omega), if_pos h1]
      split
      · exact ⟨46, _, rfl, by decide, by decide⟩
      · exact ⟨91, _, rfl, by decide, by decide⟩
    · rw [if_neg (by omega), if_neg (by omega), if_pos h1]; exact ⟨39, _, rfl, by decide, by decide⟩
    · rw [if_neg (by omega), if_neg (by omega), if_neg (by omega), if_pos h1]
      have hnm : isName e.t.data.toList = true := by
        unfold formOk at hf
        rw [Bool.and_eq_true, Bool.and_eq_true] at hf
        have ht := hf.1.1
        unfold textOk at ht
        rwa [if_neg (by omega), if_pos h1] at ht
      obtain ⟨_, c, r, hc, hl⟩ := name_ok e.t hnm
      exact ⟨c, r, hc, (isL_ne c hl).1, (isL_ne c hl).2.1⟩
    · have hne : e.kids ≠ [] := by intro h; rw [h] at h2; simp at h2
      rw [if_neg (by omega), if_neg (by omega), if_neg (by omega), if_neg (by omega), if_neg (by omega), if_pos h1]
      exact join_head _ _ (hkid 2 hne)
    · have hne : e.kids ≠ [] := by intro h; rw [h] at h2; simp at h2
      rw [if_neg (by omega), if_neg (by omega), if_neg (by omega), if_neg (by omega), if_pos h1]
      exact join_head _ _ (hkid 1 hne)
    · have hne : e.kids ≠ [] := by intro h; rw [h] at h3; simp at h3
      rw [if_neg (by omega), if_neg (by omega), if_neg (by omega), if_neg (by omega), if_neg (by omega), if_neg (by omega)]
      split
      · exact ⟨38, _, rfl, by decide, by decide⟩
      split
      · exact ⟨33, _, rfl, by decide, by decide⟩
      · obtain ⟨c, t, r, h4, h5⟩ := hkid 3 hne
        rw [h4]
        exact ⟨c, _, rfl, h5⟩
/-- What stands side by side in a sequence, and what is chosen from. -/
def items2 (x : Ex) : List Ex := if x.k = 5 then x.kids else [x]
def items1 (x : Ex) : List Ex := if x.k = 6 then x.kids else [x]
theorem tight_cases (k : Int) : (k = 6 ∧ tight k = 0) ∨ (k = 5 ∧ tight k = 1) ∨ ((k = 10 ∨ k = 11) ∧ tight k = 2) ∨ (k ≠ 6 ∧ k ≠ 5 ∧ k ≠ 10 ∧ k ≠ 11 ∧ tight k = 3) := by
  unfold tight
  by_cases h6 : k = 6
  · exact .inl ⟨h6, if_pos h6⟩
  by_cases h5 : k = 5
  · exact .inr (.inl ⟨h5, by rw [if_neg h6, if_pos h5]⟩)
  by_cases h10 : k = 10 ∨ k = 11
  · exact .inr (.inr (.inl ⟨h10, by rw [if_neg h6, if_neg h5, if_pos h10]⟩))
  · exact .inr (.inr (.inr ⟨h6, h5, by omega, by omega, by rw [if_neg h6, if_neg h5, if_neg h10]⟩))
theorem bt_pr (least : Int) (x : Ex) (h : least ≤ tight x.k) : x.bt least = x.pr := by unfold Ex.bt brk; rw [if_pos h]
theorem bt_brk (least : Int) (x : Ex) (h : ¬ least ≤ tight x.k) : x.bt least = [40] ++ x.pr ++ [41] := by unfold Ex.bt brk; rw [if_neg h]
theorem bt1_items (x : Ex) : x.bt 1 = Lib.join ((items2 x).map (Ex.bt 2)) [32] := by
  unfold items2
  have ht := tight_cases x.k
  by_cases h5 : x.k = 5
  · rw [if_pos h5, bt_pr 1 x (by omega), pr_eq, if_neg (by omega), if_neg (by omega), if_neg (by omega), if_neg (by omega), if_neg (by omega), if_pos h5, prKs_map]
    rfl
  · rw [if_neg h5, List.map_cons, List.map_nil, Lib.join_one]
    by_cases h6 : x.k = 6
    · rw [bt_brk 1 x (by omega), bt_brk 2 x (by omega)]
    · rw [bt_pr 1 x (by omega), bt_pr 2 x (by omega)]
theorem pr_items (x : Ex) : x.pr = Lib.join ((items1 x).map (Ex.bt 1)) [32, 47, 32] := by
  unfold items1
  have ht := tight_cases x.k
  by_cases h6 : x.k = 6
  · rw [if_pos h6, pr_eq, if_neg (by omega), if_neg (by omega), if_neg (by omega), if_neg (by omega), if_pos h6, prKs_map]
    rfl
  · rw [if_neg h6, List.map_cons, List.map_nil, Lib.join_one, bt_pr 1 x (by omega)]
theorem items2_ok {x : Ex} (h : x.okA = true) : ∀ y ∈ items2 x, y.okA = true := by
  intro y hy
  unfold items2 at hy
  split at hy
  · exact okA_kid h hy
  · simp at hy; rw [hy]; exact h
theorem items1_ok {x : Ex} (h : x.okA = true) : ∀ y ∈ items1 x, y.okA = true := by
  intro y hy
  unfold items1 at hy
  split at hy
  · exact okA_kid h hy
  · simp at hy; rw [hy]; exact h
theorem kids_two {x : Ex} (h : x.okA = true) (hk : x.k = 5 ∨ x.k = 6) : 2 ≤ x.kids.length := by
  rcases form_kinds x (okA_form h) with (⟨h1, _⟩ | ⟨h1, _⟩ | ⟨h1, _⟩ | ⟨h1, _⟩) | ⟨h1, h2, _⟩ | ⟨h1, h2, h3⟩
  all_goals omega
theorem items_er (K : Int) (hK : K = 5 ∨ K = 6) (x y : Ex) (hx : x.okA = true) (hy : y.okA = true) (h : (if x.k = K then x.kids else [x]).map Ex.er = (if y.k = K then y.kids else [y]).map Ex.er) : x.er = y.er := by
  have hl := congrArg List.length h
  simp only [List.length_map] at hl
  by_cases hxk : x.k = K
  · by_cases hyk : y.k = K
    · rw [if_pos hxk, if_pos hyk] at h
      have h1 := form_rest x (okA_form hx) (by omega)
      have h2 := form_rest y (okA_form hy) (by omega)
      rw [er_eq, er_eq, h, h1.1, h1.2, h2.1, h2.2, hxk, hyk]
    · rw [if_pos hxk, if_neg hyk] at hl
      have := kids_two hx (by omega)
      simp at hl; omega
  · by_cases hyk : y.k = K
    · rw [if_neg hxk, if_pos hyk] at hl
      have := kids_two hy (by omega)
      simp at hl; omega
    · rw [if_neg hxk, if_neg hyk] at h
      simpa using h
theorem items2_ne {x : Ex} (h : x.okA = true) : items2 x ≠ [] := by
  unfold items2
  split
  · rename_i hk
    have := kids_two h (.inl hk)
    intro h0; rw [h0] at this; simp at this
  · simp
theorem items1_ne {x : Ex} (h : x.okA = true) : items1 x ≠ [] := by
  unfold items1
  split
  · rename_i hk
    have := kids_two h (.inr hk)
    intro h0; rw [h0] at this; simp at this
  · simp
theorem bt_first (least : Int) (y : Ex) (hy : y.okA = true) : ∃ c t, y.bt least = c :: t ∧ c ≠ 41 ∧ c ≠ 47 := bt_head least y (pr_head y.size y (Nat.le_refl _) hy)
theorem U1_of (x : Ex) (hx : x.okA = true) (H : ∀ u ∈ items2 x, ∀ b : Ex, b.okA = true → U2 u b) (y : Ex) (hy : y.okA = true) : U1 x y := fun r s hr hs h => by
  rw [bt1_items x, bt1_items y] at h
  have := list_split (Ex.bt 2) [32] fol2 fol1 (fun t => fol2_sp t) (fun r hr => fol1_2 hr) (fun z hz t hg => by
    obtain ⟨c, t', h1, h2, h3⟩ := bt_first 2 z hz
    rw [h1] at hg
    rcases hg with hg | ⟨s', hg⟩ | ⟨s', hg⟩
    · cases hg
    · cases hg
    · simp at hg; exact h3 hg.1) (items2 x) (items2 y) (fun u hu b hb r s hr hs he => H u hu b hb r s hr hs he) (items2_ok hx) (items2_ok hy) (items2_ne hx) (items2_ne hy) r s hr hs h
  exact ⟨items_er 5 (.inl rfl) x y hx hy this.1, this.2⟩
theorem U0_of (x : Ex) (hx : x.okA = true) (H : ∀ u ∈ items1 x, ∀ b : Ex, b.okA = true → U1 u b) (y : Ex) (hy : y.okA = true) : U0 x y := fun r s hr hs h => by
  rw [pr_items x, pr_items y] at h
  have := list_split (Ex.bt 1) [32, 47, 32] fol1 fol0 (fun t => .inr (.inr ⟨32 :: t, rfl⟩)) (fun r hr => fol0_1 hr) (fun z hz t hg => by
    rcases hg with hg | ⟨s', hg⟩
    · cases hg
    · cases hg) (items1 x) (items1 y) (fun u hu b hb r s hr hs he => H u hu b hb r s hr hs he) (items1_ok hx) (items1_ok hy) (items1_ne hx) (items1_ne hy) r s hr hs h
  exact ⟨items_er 6 (.inr rfl) x y hx hy this.1, this.2⟩
end Go.Proofs.Ytcapoommjeifjaa
