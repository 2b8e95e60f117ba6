import Derived.Test.YtomeocofnbnegaaDoorWid
namespace Go.Proofs.YtomeocofnbnegaaDoor

/-- u is what is left of t behind n signs. -/
def Runs : Nat → List UInt8 → List UInt8 → Prop
  | 0, t, u => t = u
  | n + 1, t, u => t ≠ [] ∧ Runs n (t.drop (wid t)) u

theorem wid_pos' {t : List UInt8} (h : t ≠ []) : 1 ≤ wid t ∧ wid t ≤ t.length := by
  cases t with
  | nil => exact absurd rfl h
  | cons b r => exact ⟨wid_pos b r, by have := wid_le b r; simpa using this⟩
theorem Runs.length {n : Nat} {t u : List UInt8} (h : Runs n t u) : u.length + n ≤ t.length := by
  induction n generalizing t with
  | zero => rw [show t = u from h]; omega
  | succ n ih =>
    have h1 := ih h.2
    have h2 := wid_pos' h.1
    rw [List.length_drop] at h1
    omega
theorem Runs.det {n : Nat} {t u v : List UInt8} (h : Runs n t u) (k : Runs n t v) : u = v := by
  induction n generalizing t with
  | zero => exact (show t = u from h).symm.trans k
  | succ n ih => exact ih h.2 k.2
theorem Runs.trans {n m : Nat} {t u v : List UInt8} (h : Runs n t u) (k : Runs m u v) : Runs (n + m) t v := by
  induction n generalizing t with
  | zero => rw [show t = u from h, Nat.zero_add]; exact k
  | succ n ih => rw [show n + 1 + m = (n + m) + 1 from by omega]; exact ⟨h.1, ih h.2⟩
theorem Runs.split {n m : Nat} {t v : List UInt8} (h : Runs (n + m) t v) : ∃ u, Runs n t u ∧ Runs m u v := by
  induction n generalizing t with
  | zero => rw [Nat.zero_add] at h; exact ⟨t, rfl, h⟩
  | succ n ih =>
    rw [show n + 1 + m = (n + m) + 1 from by omega] at h
    obtain ⟨u, h1, h2⟩ := ih h.2
    exact ⟨u, ⟨h.1, h1⟩, h2⟩
/-- Only the end has no sign left. -/
theorem Runs.all (f : Nat) (t : List UInt8) (h : t.length ≤ f) : ∃ n, Runs n t [] := by
  induction f generalizing t with
  | zero => exact ⟨0, List.length_eq_zero_iff.1 (by omega)⟩
  | succ f ih =>
    by_cases e : t = []
    · exact ⟨0, e⟩
    · have := wid_pos' e
      obtain ⟨n, hn⟩ := ih (t.drop (wid t)) (by rw [List.length_drop]; omega)
      exact ⟨n + 1, e, hn⟩
theorem Runs.uniq {n m : Nat} {t : List UInt8} (h : Runs n t []) (k : Runs m t []) : n = m := by
  induction n generalizing t m with
  | zero =>
    cases m with
    | zero => rfl
    | succ m => exact absurd (show t = [] from h) k.1
  | succ n ih =>
    cases m with
    | zero => exact absurd (show t = [] from k) h.1
    | succ m => rw [ih h.2 k.2]
/-- How many signs a text has. -/
def nSf : Nat → List UInt8 → Nat
  | 0, _ => 0
  | f + 1, t => if t = [] then 0 else nSf f (t.drop (wid t)) + 1
def nS (t : List UInt8) : Nat := nSf t.length t
theorem nSf_runs (f : Nat) (t : List UInt8) (h : t.length ≤ f) : Runs (nSf f t) t [] := by
  induction f generalizing t with
  | zero => exact List.length_eq_zero_iff.1 (by omega)
  | succ f ih =>
    unfold nSf
    by_cases e : t = []
    · rw [if_pos e]; exact e
    · rw [if_neg e]
      have := wid_pos' e
      exact ⟨e, ih _ (by rw [List.length_drop]; omega)⟩
theorem nS_runs (t : List UInt8) : Runs (nS t) t [] := nSf_runs _ _ (Nat.le_refl _)
theorem nS_of {n : Nat} {t : List UInt8} (h : Runs n t []) : nS t = n := (nS_runs t).uniq h
theorem nS_le (t : List UInt8) : nS t ≤ t.length := by have := (nS_runs t).length; simpa using this
theorem wid_prefix {x : List UInt8} (hx : x ≠ []) (y : List UInt8) (h : wid (x ++ y) ≤ x.length) : wid x = wid (x ++ y) := by
  cases x with
  | nil => exact absurd rfl hx
  | cons b r =>
    have h1 := wid_take b (r ++ y) r.length (by simpa using h)
    rw [List.take_left] at h1
    exact h1
/-- A text that ends where a sign does. -/
theorem Runs.pre {n : Nat} {t u : List UInt8} (h : Runs n t u) : ∃ p, t = p ++ u ∧ Runs n p [] := by
  induction n generalizing t with
  | zero => exact ⟨[], h, rfl⟩
  | succ n ih =>
    obtain ⟨p, h1, h2⟩ := ih h.2
    have hw := wid_pos' h.1
    obtain ⟨a, ha⟩ : ∃ a, a = t.take (wid t) := ⟨_, rfl⟩
    have hl : a.length = wid t := by rw [ha, List.length_take]; omega
    have ht : t = (a ++ p) ++ u := by rw [List.append_assoc, ← h1, ha, List.take_append_drop]
    have hne : a ++ p ≠ [] := by
      intro e
      have := congrArg List.length e
      rw [List.length_append, List.length_nil] at this
      omega
    have e2 : wid (a ++ p) = wid t := by
      have h3 := wid_prefix hne u (by rw [← ht, List.length_append]; omega)
      rw [h3, ← ht]
    refine ⟨a ++ p, ht, hne, ?_⟩
    rw [e2, ← hl, List.drop_left]
    exact h2
theorem wid_line' {t : List UInt8} (h : t ≠ []) (r : List UInt8) : wid (t ++ 10 :: r) = wid t := by
  cases t with
  | nil => exact absurd rfl h
  | cons b q => exact wid_line b q r
/-- Behind a line's end nothing makes a difference to the signs ahead of it. -/
theorem Runs.line {n : Nat} {t u : List UInt8} (h : Runs n t u) (r : List UInt8) : Runs n (t ++ 10 :: r) (u ++ 10 :: r) := by
  induction n generalizing t with
  | zero => rw [show t = u from h]; rfl
  | succ n ih =>
    have hw := wid_pos' h.1
    refine ⟨by simp, ?_⟩
    rw [wid_line' h.1, List.drop_append_of_le_length hw.2]
    exact ih h.2
theorem Runs.ten (r : List UInt8) : Runs 1 (10 :: r) r := ⟨by simp, by rw [wid_ten]; rfl⟩
/-- Signs of a line are signs of the text. -/
theorem Runs.inLine {n : Nat} {a r u : List UInt8} (h : Runs n (a ++ 10 :: r) u) (hu : r.length + 1 ≤ u.length) : ∃ x, Runs n a x ∧ u = x ++ 10 :: r := by
  have ha := nS_runs a
  rcases Nat.lt_or_ge (nS a) n with h1 | h1
  · exfalso
    have h2 := ha.line r
    rw [show n = nS a + (n - nS a) from by omega] at h
    obtain ⟨v, h3, h4⟩ := h.split
    have h5 := h3.det h2
    subst h5
    have := h4.length
    simp at this
    omega
  · rw [show nS a = n + (nS a - n) from by omega] at ha
    obtain ⟨x, h2, _⟩ := ha.split
    exact ⟨x, h2, h.det (h2.line r)⟩

/-- What stands behind the last line end: the text with and without it. -/
structure Tail (h A H : List UInt8) : Prop where
  eq : h = A ++ H
  no : ∀ b ∈ H, b ≠ 10
  fin : A = [] ∨ ∃ A', A = A' ++ [10]
/-- A line begins where a sign does. -/
theorem Tail.runs {h A H u : List UInt8} (T : Tail h A H) {k : Nat} (hr : Runs k (h ++ u) u) (hp : Runs k h []) : Runs (nS H) (H ++ u) u := by
  rcases T.fin with rfl | ⟨A', rfl⟩
  · have e := T.eq
    rw [List.nil_append] at e
    subst e
    rw [nS_of hp]; exact hr
  · have e1 : h = A' ++ 10 :: H := by rw [T.eq]; simp
    have m1 : Runs (nS A' + 1) h H := by
      rw [e1]; exact ((nS_runs A').line H).trans (Runs.ten H)
    have m2 : Runs (nS A' + 1) (h ++ u) (H ++ u) := by
      have := ((nS_runs A').line (H ++ u)).trans (Runs.ten (H ++ u))
      rw [e1]; simpa using this
    have e2 : k = nS A' + 1 + nS H := hp.uniq (m1.trans (nS_runs H))
    rw [e2] at hr
    obtain ⟨v, h1, h2⟩ := hr.split
    rw [h1.det m2] at h2
    exact h2
/-- The signs of the line behind a place of the text. -/
theorem Tail.inLine {H L u R : List UInt8} (hr : Runs (nS H) (H ++ u) u) (he : H ++ u = L ++ R) (hH : H.length ≤ L.length) (hR : R = [] ∨ ∃ r, R = 10 :: r) : Runs (nS H) L (L.drop H.length) := by
  have hu : u = L.drop H.length ++ R := by
    have := congrArg (List.drop H.length) he
    rw [List.drop_left, List.drop_append_of_le_length hH] at this
    exact this
  rcases hR with rfl | ⟨r, rfl⟩
  · rw [List.append_nil] at hu he
    rw [he] at hr; rw [← hu]; exact hr
  · rw [he] at hr
    have hul : r.length + 1 ≤ u.length := by rw [hu]; simp
    obtain ⟨x, h1, h2⟩ := hr.inLine hul
    have : x = L.drop H.length := List.append_cancel_right (h2.symm.trans hu)
    rw [← this]; exact h1
end Go.Proofs.YtomeocofnbnegaaDoor
