import Derived.Test.YtbeohmcmphebhaaDoorXBox
namespace Go.Proofs.YtbeohmcmphebhaaDoor
theorem star_bt (a x : Ex) (h7 : 7 ≤ a.k ∧ a.k ≤ 9) (hk : a.kids = [x]) : a.bt 3 = x.bt 3 ++ [sgn a.k] := by
  have ht := tight_cases a.k
  rw [bt_pr 3 a (by omega), pr_eq, if_neg (by omega), if_neg (by omega), if_neg (by omega), if_neg (by omega), if_neg (by omega), if_neg (by omega), if_neg (by omega), if_neg (by omega), hk]
  rfl
theorem star_kid {a : Ex} (ha : a.okA = true) (h7 : 7 ≤ a.k) : ∃ x, a.kids = [x] ∧ x.okA = true ∧ x.size < a.size := by
  have h1 : a.kids.length = 1 := by
    rcases form_kinds a (okA_form ha) with (⟨h1, h0⟩ | ⟨h1, h0⟩ | ⟨h1, h0, h2⟩ | ⟨h1, h0, h2⟩) | ⟨h1, h2, _⟩ | ⟨h1, h2, h3⟩
    all_goals omega
  obtain ⟨x, hx⟩ := kid_one h1
  have hm : x ∈ a.kids := by rw [hx]; exact List.mem_cons_self
  exact ⟨x, hx, okA_kid ha hm, size_kid hm⟩
theorem tg_any : ∀ (n : Nat) (b : Ex), b.size ≤ n → b.okA = true → ∀ R, tg (b.bt 3 ++ R) ≠ 7 ∧ tg (b.bt 3 ++ R) ≠ 8 := by
  intro n
  induction n with
  | zero => intro b hb; rw [size_eq] at hb; omega
  | succ n ih =>
    intro b hb hok R
    by_cases h7 : 7 ≤ b.k ∧ b.k ≤ 9
    · obtain ⟨x, hx, hxo, hxs⟩ := star_kid hok h7.1
      rw [star_bt b x h7 hx, List.append_assoc]
      exact ih x (by omega) hxo _
    · rcases tg_base b hok h7 R with ⟨_, e⟩ | ⟨_, _, e⟩ | ⟨_, _, e⟩ | ⟨_, e⟩ | ⟨_, e⟩ | ⟨_, e⟩ <;> rw [e] <;> exact ⟨by decide, by decide⟩
theorem post_ok {p r : List UInt8} (hp : ∀ c ∈ p, isPost c) (hr : fol2 r) : ∀ c t, p ++ r = c :: t → okc c = false := by
  intro c t h
  cases p with
  | nil => exact (hr c t h).2
  | cons d p =>
    simp only [List.cons_append, List.cons.injEq] at h
    rw [← h.1]
    exact post_not_ok d (hp d List.mem_cons_self)
theorem y_split (n : Nat) (HU : ∀ z : Ex, z.okA = true → (z.k = 5 ∨ z.k = 6 ∨ z.k = 10 ∨ z.k = 11) → (z.size ≤ n ∨ (z.size ≤ n + 1 ∧ (z.k = 5 ∨ z.k = 6))) → ∀ y : Ex, y.okA = true → U0 z y) :
    ∀ (m : Nat) (a b : Ex), a.size + b.size ≤ m → a.okA = true → b.okA = true → (a.size ≤ n ∨ (a.size ≤ n + 1 ∧ a.k ≠ 10 ∧ a.k ≠ 11)) → ∀ p q r s, (∀ c ∈ p, isPost c) → (∀ c ∈ q, isPost c) → fol2 r → fol2 s → a.bt 3 ++ (p ++ r) = b.bt 3 ++ (q ++ s) → wrapP a.er p = wrapP b.er q ∧ r = s := by
  intro m
  induction m with
  | zero => intro a b hm; have := size_eq a; omega
  | succ m ih =>
    intro a b hm ha hb hal p q r s hp hq hr hs h
    by_cases a7 : 7 ≤ a.k ∧ a.k ≤ 9
    · obtain ⟨x, hx, hxo, hxs⟩ := star_kid ha a7.1
      rw [star_bt a x a7 hx, List.append_assoc] at h
      have := ih x b (by omega) hxo hb (.inl (by omega)) (sgn a.k :: p) q r s (fun c hc => by
        rcases List.mem_cons.1 hc with rfl | hc
        · exact sgn_post _
        · exact hp c hc) hq hr hs (by simpa using h)
      rw [star_er a x (okA_form ha) a7 hx]
      exact this
    · by_cases b7 : 7 ≤ b.k ∧ b.k ≤ 9
      · obtain ⟨y, hy, hyo, hys⟩ := star_kid hb b7.1
        rw [star_bt b y b7 hy, List.append_assoc] at h
        have := ih a y (by omega) ha hyo hal p (sgn b.k :: q) r s hp (fun c hc => by
          rcases List.mem_cons.1 hc with rfl | hc
          · exact sgn_post _
          · exact hq c hc) hr hs (by simpa using h)
        rw [star_er b y (okA_form hb) b7 hy]
        exact this
      · have h1 := base_split a b ha hb a7 b7 (fun hk => HU a ha hk (by rcases hal with h2 | h2; exact .inl h2; exact .inr ⟨h2.1, by omega⟩) b hb) (p ++ r) (q ++ s) (post_ok hp hr) (post_ok hq hs) h
        have h2 := post_split p q r s hp hq hr hs h1.2
        exact ⟨by rw [h1.1, h2.1], h2.2⟩
theorem items2_size {x : Ex} (n : Nat) (h : x.size ≤ n) : ∀ y ∈ items2 x, y.size ≤ n := by
  intro y hy
  unfold items2 at hy
  split at hy
  · have := size_kid hy; omega
  · simp at hy; rw [hy]; exact h
theorem pre_bt (c : UInt8) (K : Int) (hK : K = 10 ∧ c = 38 ∨ K = 11 ∧ c = 33) (a x : Ex) (hk : a.k = K) (hx : a.kids = [x]) : a.bt 2 = c :: x.bt 2 := by
  have ht := tight_cases a.k
  rw [bt_pr 2 a (by omega), pr_eq, if_neg (by omega), if_neg (by omega), if_neg (by omega), if_neg (by omega), if_neg (by omega), if_neg (by omega), hx]
  rcases hK with ⟨h1, rfl⟩ | ⟨h1, rfl⟩
  · rw [if_pos (by omega)]; rfl
  · rw [if_neg (by omega), if_pos (by omega)]; rfl
theorem bt23 (a : Ex) (h : a.k ≠ 10 ∧ a.k ≠ 11) : a.bt 2 = a.bt 3 := by
  have ht := tight_cases a.k
  by_cases h1 : a.k = 5 ∨ a.k = 6
  · rw [bt_brk 2 a (by omega), bt_brk 3 a (by omega)]
  · rw [bt_pr 2 a (by omega), bt_pr 3 a (by omega)]
theorem pre_er (a b x y : Ex) (ha : a.okA = true) (hb : b.okA = true) (hk : a.k = b.k) (h7 : 7 ≤ a.k) (hx : a.kids = [x]) (hy : b.kids = [y]) (h : x.er = y.er) : a.er = b.er := by
  have h1 := form_rest a (okA_form ha) (by omega)
  have h2 := form_rest b (okA_form hb) (by omega)
  rw [er_eq, er_eq, hx, hy, h1.1, h1.2, h2.1, h2.2, hk, List.map_cons, List.map_cons, h, List.map_nil]
theorem u2_all : ∀ (n : Nat) (a : Ex), a.size ≤ n → a.okA = true → ∀ b : Ex, b.okA = true → U2 a b := by
  intro n
  induction n with
  | zero => intro a ha; rw [size_eq] at ha; omega
  | succ n ih =>
    intro a han ha b hb r s hr hs h
    have HU : ∀ z : Ex, z.okA = true → (z.k = 5 ∨ z.k = 6 ∨ z.k = 10 ∨ z.k = 11) → (z.size ≤ n ∨ (z.size ≤ n + 1 ∧ (z.k = 5 ∨ z.k = 6))) → ∀ y : Ex, y.okA = true → U0 z y := by
      intro z hz hzk hzs y hy
      refine U0_of z hz (fun u hu c hc => ?_) y hy
      have huo := items1_ok hz u hu
      refine U1_of u huo (fun v hv d hd => ?_) c hc
      have hvo := items2_ok huo v hv
      refine ih v ?_ hvo d hd
      unfold items1 at hu
      split at hu
      · have h1 := size_kid hu
        exact items2_size n (by omega) v hv
      · simp at hu
        subst hu
        unfold items2 at hv
        split at hv
        · have := size_kid hv; omega
        · simp at hv; subst hv; omega
    by_cases hak : a.k = 10 ∨ a.k = 11
    · obtain ⟨x, hx, hxo, hxs⟩ := star_kid ha (by omega)
      obtain ⟨ca, hca, hta⟩ : ∃ c : UInt8, (a.k = 10 ∧ c = 38 ∨ a.k = 11 ∧ c = 33) ∧ ∀ t, tg (c :: t) = (if a.k = 10 then 7 else 8) := by
        rcases hak with h1 | h1
        · exact ⟨38, .inl ⟨h1, rfl⟩, fun t => by rw [if_pos h1]; rfl⟩
        · exact ⟨33, .inr ⟨h1, rfl⟩, fun t => by rw [if_neg (by omega)]; rfl⟩
      rw [pre_bt ca a.k hca a x rfl hx] at h
      by_cases hbk : b.k = 10 ∨ b.k = 11
      · obtain ⟨y, hy, hyo, hys⟩ := star_kid hb (by omega)
        obtain ⟨cb, hcb⟩ : ∃ c : UInt8, (b.k = 10 ∧ c = 38 ∨ b.k = 11 ∧ c = 33) := by
          rcases hbk with h1 | h1
          · exact ⟨38, .inl ⟨h1, rfl⟩⟩
          · exact ⟨33, .inr ⟨h1, rfl⟩⟩
        rw [pre_bt cb b.k hcb b y rfl hy] at h
        simp only [List.cons_append, List.cons.injEq] at h
        have hkk : a.k = b.k := by
          rcases hca with ⟨g1, g2⟩ | ⟨g1, g2⟩ <;> rcases hcb with ⟨g3, g4⟩ | ⟨g3, g4⟩
          · omega
          · rw [g2, g4] at h; exact absurd h.1 (by decide)
          · rw [g2, g4] at h; exact absurd h.1 (by decide)
          · omega
        have h2 := ih x (by omega) hxo y hyo r s hr hs h.2
        exact ⟨pre_er a b x y ha hb hkk (by omega) hx hy h2.1, h2.2⟩
      · rw [bt23 b (by omega)] at h
        have h1 := tg_any b.size b (Nat.le_refl _) hb s
        rw [← h, List.cons_append, hta] at h1
        exfalso
        split at h1
        · exact h1.1 rfl
        · exact h1.2 rfl
    · rw [bt23 a (by omega)] at h
      by_cases hbk : b.k = 10 ∨ b.k = 11
      · obtain ⟨y, hy, hyo, hys⟩ := star_kid hb (by omega)
        obtain ⟨cb, hcb, htb⟩ : ∃ c : UInt8, (b.k = 10 ∧ c = 38 ∨ b.k = 11 ∧ c = 33) ∧ ∀ t, tg (c :: t) = (if b.k = 10 then 7 else 8) := by
          rcases hbk with h1 | h1
          · exact ⟨38, .inl ⟨h1, rfl⟩, fun t => by rw [if_pos h1]; rfl⟩
          · exact ⟨33, .inr ⟨h1, rfl⟩, fun t => by rw [if_neg (by omega)]; rfl⟩
        rw [pre_bt cb b.k hcb b y rfl hy] at h
        have h1 := tg_any a.size a (Nat.le_refl _) ha r
        rw [h, List.cons_append, htb] at h1
        exfalso
        split at h1
        · exact h1.1 rfl
        · exact h1.2 rfl
      · rw [bt23 b (by omega)] at h
        have := y_split n HU (a.size + b.size) a b (Nat.le_refl _) ha hb (.inr ⟨han, by omega, by omega⟩) [] [] r s (by simp) (by simp) hr hs (by simpa using h)
        exact this
/-- Two right expressions with one text are one. -/
theorem pr_inj (a b : Ex) (ha : a.okA = true) (hb : b.okA = true) (h : a.pr = b.pr) : a.same b = true := by
  rw [same_er]
  have H : ∀ z : Ex, z.okA = true → ∀ y : Ex, y.okA = true → U0 z y := fun z hz y hy =>
    U0_of z hz (fun u hu c hc => U1_of u (items1_ok hz u hu) (fun v hv d hd => u2_all v.size v (Nat.le_refl _) (items2_ok (items1_ok hz u hu) v hv) d hd) c hc) y hy
  exact (H a ha b hb [] [] (.inl rfl) (.inl rfl) (by rw [h])).1
theorem pr_same (a b : Ex) (ha : a.okA = true) (hb : b.okA = true) : decide (a.pr = b.pr) = a.same b := by
  rw [Bool.eq_iff_iff, decide_eq_true_eq]
  exact ⟨pr_inj a b ha hb, fun h => (same_pr a b h).1⟩
end Go.Proofs.YtbeohmcmphebhaaDoor
