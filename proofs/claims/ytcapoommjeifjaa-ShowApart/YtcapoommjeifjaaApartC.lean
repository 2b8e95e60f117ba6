import Derived.Test.YtcapoommjeifjaaApartB
namespace Go.Proofs.Ytcapoommjeifjaa
/-- How a text begins. -/
def tg (l : List UInt8) : Nat := if l.headD 0 = 40 then (if (l.drop 1).headD 0 = 41 then 1 else 5) else if l.headD 0 = 46 then 2 else if l.headD 0 = 91 then 3 else if l.headD 0 = 39 then 4 else if l.headD 0 = 38 then 7 else if l.headD 0 = 33 then 8 else 6
theorem form_name (e : Ex) (hf : formOk e = true) (h1 : e.k = 4) : isName e.t.data.toList = true := by
  unfold formOk at hf
  rw [Bool.and_eq_true, Bool.and_eq_true] at hf
  have ht := hf.1.1
  unfold textOk at ht
  rwa [if_neg (by omega), if_pos h1] at ht
theorem pr_k1 (e : Ex) (h : e.k = 1) : e.pr = [40, 41] := by rw [pr_eq, if_pos h]
theorem pr_k2 (e : Ex) (h : e.k = 2) : e.pr = if isFull e.S then [46] else cls e.S := by rw [pr_eq, if_neg (by omega), if_pos h]
theorem pr_k3 (e : Ex) (h : e.k = 3) : e.pr = lit e.t.data.toList := by rw [pr_eq, if_neg (by omega), if_neg (by omega), if_pos h]
theorem pr_k4 (e : Ex) (h : e.k = 4) : e.pr = e.t.data.toList := by rw [pr_eq, if_neg (by omega), if_neg (by omega), if_neg (by omega), if_pos h]
/-- How the text of what is no sign behind begins. -/
theorem tg_base (a : Ex) (ha : a.okA = true) (ka : ¬ (7 ≤ a.k ∧ a.k ≤ 9)) (R : List UInt8) :
    (a.k = 1 ∧ tg (a.bt 3 ++ R) = 1) ∨ (a.k = 2 ∧ isFull a.S = true ∧ tg (a.bt 3 ++ R) = 2) ∨ (a.k = 2 ∧ isFull a.S = false ∧ tg (a.bt 3 ++ R) = 3) ∨ (a.k = 3 ∧ tg (a.bt 3 ++ R) = 4) ∨ (a.k = 4 ∧ tg (a.bt 3 ++ R) = 6) ∨ ((a.k = 5 ∨ a.k = 6 ∨ a.k = 10 ∨ a.k = 11) ∧ tg (a.bt 3 ++ R) = 5) := by
  have ht := tight_cases a.k
  have hf := okA_form ha
  have hbr : (a.k = 5 ∨ a.k = 6 ∨ a.k = 10 ∨ a.k = 11) → tg (a.bt 3 ++ R) = 5 := fun hk => by
    obtain ⟨c, t, h1, h2, _⟩ := pr_head a.size a (Nat.le_refl _) ha
    rw [bt_brk 3 a (by omega), h1]
    simp [tg, h2]
  rcases form_kinds a hf with (⟨h1, _⟩ | ⟨h1, _⟩ | ⟨h1, _, h2⟩ | ⟨h1, _, h2⟩) | ⟨h1, h2, _⟩ | ⟨h1, h2, h3⟩
  · refine .inl ⟨h1, ?_⟩
    rw [bt_pr 3 a (by omega), pr_k1 a h1]; rfl
  · cases hfl : isFull a.S with
    | true =>
      refine .inr (.inl ⟨h1, rfl, ?_⟩)
      rw [bt_pr 3 a (by omega), pr_k2 a h1, hfl]; rfl
    | false =>
      refine .inr (.inr (.inl ⟨h1, rfl, ?_⟩))
      rw [bt_pr 3 a (by omega), pr_k2 a h1, hfl]; rfl
  · refine .inr (.inr (.inr (.inl ⟨h1, ?_⟩)))
    rw [bt_pr 3 a (by omega), pr_k3 a h1]; rfl
  · refine .inr (.inr (.inr (.inr (.inl ⟨h1, ?_⟩))))
    rw [bt_pr 3 a (by omega), pr_k4 a h1]
    obtain ⟨_, c, r, hc, hl⟩ := name_ok a.t (form_name a hf h1)
    have hn := isL_ne c hl
    rw [hc]
    simp [tg, hn.2.2.1, hn.2.2.2.1, hn.2.2.2.2.1, hn.2.2.2.2.2.1, hn.2.2.2.2.2.2.1, hn.2.2.2.2.2.2.2]
  · exact .inr (.inr (.inr (.inr (.inr ⟨by omega, hbr (by omega)⟩))))
  · exact .inr (.inr (.inr (.inr (.inr ⟨by omega, hbr (by omega)⟩))))
theorem leaf_kids {a : Ex} (ha : a.okA = true) (hk : a.k ≤ 4) : a.kids = [] := by
  rcases form_kinds a (okA_form ha) with (⟨h1, h0⟩ | ⟨h1, h0⟩ | ⟨h1, h0, h2⟩ | ⟨h1, h0, h2⟩) | ⟨h1, h2, _⟩ | ⟨h1, h2, h3⟩
  all_goals first | exact List.eq_nil_of_length_eq_zero h0 | omega
theorem ba_ext {s t : ByteArray} (h : s.data.toList = t.data.toList) : s = t := by
  obtain ⟨⟨a⟩⟩ := s
  obtain ⟨⟨b⟩⟩ := t
  simp at h
  rw [h]
theorem base_split (a b : Ex) (ha : a.okA = true) (hb : b.okA = true) (ka : ¬ (7 ≤ a.k ∧ a.k ≤ 9)) (kb : ¬ (7 ≤ b.k ∧ b.k ≤ 9)) (HU : (a.k = 5 ∨ a.k = 6 ∨ a.k = 10 ∨ a.k = 11) → U0 a b)
    (R S : List UInt8) (hR : ∀ c t, R = c :: t → okc c = false) (hS : ∀ c t, S = c :: t → okc c = false) (h : a.bt 3 ++ R = b.bt 3 ++ S) : a.er = b.er ∧ R = S := by
  have hta := tg_base a ha ka R
  have htb := tg_base b hb kb S
  rw [← h] at htb
  have ta := tight_cases a.k
  have tb := tight_cases b.k
  have fa := form_leaf a (okA_form ha)
  have fb := form_leaf b (okA_form hb)
  rcases hta with ⟨h1, e1⟩ | ⟨h1, f1, e1⟩ | ⟨h1, f1, e1⟩ | ⟨h1, e1⟩ | ⟨h1, e1⟩ | ⟨h1, e1⟩
  all_goals rcases htb with ⟨h2, e2⟩ | ⟨h2, f2, e2⟩ | ⟨h2, f2, e2⟩ | ⟨h2, e2⟩ | ⟨h2, e2⟩ | ⟨h2, e2⟩
  all_goals first | exact absurd (e1.symm.trans e2) (by decide) | skip
  · rw [bt_pr 3 a (by omega), bt_pr 3 b (by omega), pr_k1 a h1, pr_k1 b h2] at h
    refine ⟨?_, List.append_cancel_left h⟩
    rw [er_eq, er_eq, leaf_kids ha (by omega), leaf_kids hb (by omega), fa.1 (by omega), fb.1 (by omega), fa.2 (by omega), fb.2 (by omega), h1, h2]
  · rw [bt_pr 3 a (by omega), bt_pr 3 b (by omega), pr_k2 a h1, pr_k2 b h2, f1, f2] at h
    refine ⟨?_, List.append_cancel_left h⟩
    have hs : a.S = b.S := by
      have g1 := noS_iff _ f1
      have g2 := noS_iff _ f2
      have g3 : ~~~a.S = ~~~b.S := by rw [g1, g2]
      simpa using g3
    rw [er_eq, er_eq, leaf_kids ha (by omega), leaf_kids hb (by omega), hs, fa.2 (by omega), fb.2 (by omega), h1, h2]
  · rw [bt_pr 3 a (by omega), bt_pr 3 b (by omega), pr_k2 a h1, pr_k2 b h2, f1, f2] at h
    have := cls_split a.S b.S R S h
    refine ⟨?_, this.2⟩
    rw [er_eq, er_eq, leaf_kids ha (by omega), leaf_kids hb (by omega), this.1, fa.2 (by omega), fb.2 (by omega), h1, h2]
  · rw [bt_pr 3 a (by omega), bt_pr 3 b (by omega), pr_k3 a h1, pr_k3 b h2] at h
    have := lit_split _ _ R S h
    refine ⟨?_, this.2⟩
    rw [er_eq, er_eq, leaf_kids ha (by omega), leaf_kids hb (by omega), fa.1 (by omega), fb.1 (by omega), ba_ext this.1, h1, h2]
  · rw [bt_pr 3 a (by omega), bt_pr 3 b (by omega), pr_k4 a h1, pr_k4 b h2] at h
    have := name_split _ _ R S (name_ok a.t (form_name a (okA_form ha) h1)).1 (name_ok b.t (form_name b (okA_form hb) h2)).1 hR hS h
    refine ⟨?_, this.2⟩
    rw [er_eq, er_eq, leaf_kids ha (by omega), leaf_kids hb (by omega), fa.1 (by omega), fb.1 (by omega), ba_ext this.1, h1, h2]
  · rw [bt_brk 3 a (by omega), bt_brk 3 b (by omega)] at h
    simp only [List.append_assoc, List.cons_append, List.nil_append, List.cons.injEq, true_and] at h
    have := HU h1 (41 :: R) (41 :: S) (.inr ⟨R, rfl⟩) (.inr ⟨S, rfl⟩) h
    exact ⟨this.1, by simpa using this.2⟩
end Go.Proofs.Ytcapoommjeifjaa
