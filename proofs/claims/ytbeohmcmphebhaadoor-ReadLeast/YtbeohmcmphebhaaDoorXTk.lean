import Derived.Test.YtbeohmcmphebhaaDoorXQClassText
import Derived.Test.YtbeohmcmphebhaaDoorXName
namespace Go.Proofs.YtbeohmcmphebhaaDoor
/-! What a text says, in plain terms. -/
def isBl (c : UInt8) : Bool := c == 32 || c == 9 || c == 10 || c == 13
/-- Behind the next byte 10. -/
def behind10 (l : List UInt8) : List UInt8 := (l.dropWhile (· != 10)).drop 1
/-- Without blanks and remarks ahead; n: how many bytes it may have. -/
def skipF : Nat → List UInt8 → List UInt8
  | 0, l => l
  | n + 1, l => if (l.dropWhile isBl).headD 0 = 35 then skipF n (behind10 (l.dropWhile isBl)) else l.dropWhile isBl
def skip (l : List UInt8) : List UInt8 := skipF l.length l
theorem dropWhile_len (p : UInt8 → Bool) (l : List UInt8) : (l.dropWhile p).length ≤ l.length := (List.dropWhile_suffix p).length_le
theorem behind10_len (l : List UInt8) (h : l ≠ []) : (behind10 l).length < l.length := by
  unfold behind10
  have h1 := dropWhile_len (· != 10) l
  cases hd : l.dropWhile (· != 10) with
  | nil =>
    have := List.length_pos_iff.2 h
    simpa using this
  | cons a r => rw [hd] at h1; simp at h1 ⊢; omega
theorem skipF_any : ∀ (m k : Nat) (l : List UInt8), l.length ≤ m → l.length ≤ k → skipF m l = skipF k l := by
  intro m
  induction m with
  | zero =>
    intro k l hm _
    have e : l = [] := List.eq_nil_of_length_eq_zero (by omega)
    subst e
    cases k <;> simp [skipF]
  | succ m ih =>
    intro k l hm hk
    cases k with
    | zero =>
      have e : l = [] := List.eq_nil_of_length_eq_zero (by omega)
      subst e
      simp [skipF]
    | succ k =>
      have h1 := dropWhile_len isBl l
      show (if _ then _ else _) = (if _ then _ else _)
      split
      · rename_i h35
        have h2 : l.dropWhile isBl ≠ [] := by intro h; rw [h] at h35; simp at h35
        have h3 := behind10_len _ h2
        exact ih k _ (by omega) (by omega)
      · rfl
theorem skip_no (l : List UInt8) (h : ¬ (l.dropWhile isBl).headD 0 = 35) : skip l = l.dropWhile isBl := by
  unfold skip
  cases hl : l.length with
  | zero =>
    have e : l = [] := List.eq_nil_of_length_eq_zero hl
    subst e; rfl
  | succ n => rw [skipF, if_neg h]
theorem skip_yes (l : List UInt8) (h : (l.dropWhile isBl).headD 0 = 35) : skip l = skip (behind10 (l.dropWhile isBl)) := by
  unfold skip
  have h2 : l.dropWhile isBl ≠ [] := by intro h'; rw [h'] at h; simp at h
  have h3 := behind10_len _ h2
  have h1 := dropWhile_len isBl l
  cases hl : l.length with
  | zero =>
    have e : l = [] := List.eq_nil_of_length_eq_zero hl
    subst e
    simp at h2
  | succ n =>
    rw [skipF, if_pos h]
    exact skipF_any _ _ _ (by omega) (Nat.le_refl _)
theorem skip_suffix : ∀ (n : Nat) (l : List UInt8), l.length ≤ n → skip l <:+ l := by
  intro n
  induction n with
  | zero =>
    intro l hl
    have e : l = [] := List.eq_nil_of_length_eq_zero (by omega)
    subst e; exact List.suffix_refl _
  | succ n ih =>
    intro l hl
    by_cases h : (l.dropWhile isBl).headD 0 = 35
    · rw [skip_yes l h]
      have h2 : l.dropWhile isBl ≠ [] := by intro h'; rw [h'] at h; simp at h
      have h3 := behind10_len _ h2
      have h1 := dropWhile_len isBl l
      refine (ih _ (by omega)).trans (List.IsSuffix.trans ?_ (List.dropWhile_suffix isBl))
      unfold behind10
      exact (List.drop_suffix _ _).trans (List.dropWhile_suffix _)
    · rw [skip_no l h]; exact List.dropWhile_suffix _
theorem skip_suf (l : List UInt8) : skip l <:+ l := skip_suffix _ l (Nat.le_refl _)
/-- Behind blanks no blank stands, and no remark. -/
theorem skip_head : ∀ (n : Nat) (l : List UInt8), l.length ≤ n → ∀ c r, skip l = c :: r → isBl c = false ∧ c ≠ 35 := by
  intro n
  induction n with
  | zero =>
    intro l hl c r h
    have e : l = [] := List.eq_nil_of_length_eq_zero (by omega)
    subst e; cases h
  | succ n ih =>
    intro l hl c r hc
    by_cases h : (l.dropWhile isBl).headD 0 = 35
    · rw [skip_yes l h] at hc
      have h2 : l.dropWhile isBl ≠ [] := by intro h'; rw [h'] at h; simp at h
      have h3 := behind10_len _ h2
      have h1 := dropWhile_len isBl l
      exact ih _ (by omega) c r hc
    · rw [skip_no l h] at hc
      refine ⟨?_, fun e => h (by rw [hc, e]; rfl)⟩
      have := List.head?_dropWhile_not isBl l
      rw [hc] at this
      simpa using this
/-- Expressions without a place. -/
def nd (k : Int) (kids : List Ex) : Ex := .mk k 0#256 ⟨#[]⟩ none 0 kids
def lfS (S : BitVec 256) : Ex := .mk 2 S ⟨#[]⟩ none 0 []
def lfT (k : Int) (t : List UInt8) : Ex := .mk k 0#256 ⟨t.toArray⟩ none 0 []
/-- Several as one; one alone is that itself. -/
def gath (k : Int) (l : List Ex) : Ex := if l.length = 1 then l.headD (nd 0 []) else nd k l
/-- What a leaf at the beginning says, and how many bytes it has. -/
def leafAt (l : List UInt8) : Option (Ex × Nat) :=
  if l.headD 0 = 39 ∨ l.headD 0 = 34 then (unlit [39, 34, 92] l).map fun x => (if x.1 = [] then nd 1 [] else lfT 3 x.1, x.2)
  else if l.headD 0 = 91 then (unclass l).map fun x => (lfS x.1, x.2)
  else if l.headD 0 = 46 then some (lfS (BitVec.allOnes 256), 1)
  else if isL ((l.headD 0).toNat : Int) then some (lfT 4 (l.takeWhile okc), (l.takeWhile okc).length)
  else none
def isSg (c : UInt8) : Bool := c == 40 || c == 41 || c == 47 || c == 38 || c == 33 || c == 63 || c == 42 || c == 43
/-- A token: 0 the end, 1 a leaf, 2 an arrow, 3 what is none, or its sign; the text from it on, the text behind it; what it says. -/
structure Tk where
  mk ::
  (k : UInt8) (s : List UInt8) (r : List UInt8) (e : Ex)
def tokB (s : List UInt8) : Tk :=
  if s = [] then ⟨0, [], [], nd 0 []⟩
  else if s.headD 0 = 60 ∧ (s.drop 1).headD 0 = 45 then ⟨2, s, s.drop 2, nd 0 []⟩
  else if isSg (s.headD 0) then ⟨s.headD 0, s, s.drop 1, nd 0 []⟩
  else match leafAt s with
    | some x => ⟨1, s, s.drop x.2, x.1⟩
    | none => ⟨3, s, [], nd 0 []⟩
def tkB (l : List UInt8) : Tk := tokB (skip l)
theorem tokB_s (s : List UInt8) : (tokB s).s = s := by
  unfold tokB
  split
  · rename_i h; exact h.symm
  split
  · rfl
  split
  · rfl
  split <;> rfl
theorem unl_pos (q : UInt8) (g : List UInt8) : ∀ (m : Nat) (rest text : List UInt8) (n : Nat) (x : List UInt8 × Nat), unlF q g m rest text n = some x → n < x.2
  | 0, _, _, _, _, h => by simp [unlF] at h
  | m + 1, [], _, _, _, h => by simp [unlF] at h
  | m + 1, a :: r, text, n, x, h => by
    rw [unlF] at h
    split at h
    · simp at h; rw [← h]; show n < n + 1; omega
    · split at h
      · cases h
      · have := unl_pos q g m _ _ _ x h; omega
theorem uclF_le : ∀ (m : Nat) (rest : List UInt8) (acc : BitVec 256) (x : BitVec 256 × Nat), uclF m rest acc = some x → x.2 ≤ rest.length ∧ 1 ≤ x.2
  | 0, _, _, _, h => by simp [uclF] at h
  | m + 1, [], _, _, h => by simp [uclF] at h
  | m + 1, a :: r, acc, x, h => by
    rw [uclF] at h
    split at h
    · simp at h; rw [← h]; simp
    · split at h
      · cases h
      · have := uclF_le m _ _ x h; rw [List.length_drop] at this; omega
theorem leafAt_pos (l : List UInt8) (x : Ex × Nat) (h : leafAt l = some x) : 1 ≤ x.2 := by
  unfold leafAt at h
  split at h
  · obtain ⟨y, hy, rfl⟩ := Option.map_eq_some_iff.1 h
    show 1 ≤ y.2
    unfold unlit at hy
    cases l with
    | nil => cases hy
    | cons q r =>
      simp only at hy
      split at hy
      · have := unl_pos q _ _ _ _ _ y hy; omega
      · cases hy
  · split at h
    · obtain ⟨y, hy, rfl⟩ := Option.map_eq_some_iff.1 h
      show 1 ≤ y.2
      rename_i _ h91
      unfold unclass at hy
      rw [if_pos h91] at hy
      obtain ⟨z, hz, hzz⟩ := Option.map_eq_some_iff.1 hy
      rw [← hzz]
      show 1 ≤ l.length - z.2 + 1
      omega
    · split at h
      · cases h; exact Nat.le_refl _
      · split at h
        · cases h
          rename_i hL
          cases l with
          | nil => revert hL; simp [isL]
          | cons c r =>
            have hc : okc c = true := by unfold okc; rw [Bool.or_eq_true]; exact .inl hL
            simp [hc]
        · cases h
theorem unl_le (q : UInt8) (g : List UInt8) : ∀ (m : Nat) (rest text : List UInt8) (n : Nat) (x : List UInt8 × Nat), unlF q g m rest text n = some x → x.2 ≤ n + rest.length
  | 0, _, _, _, _, h => by simp [unlF] at h
  | m + 1, [], _, _, _, h => by simp [unlF] at h
  | m + 1, a :: r, text, n, x, h => by
    rw [unlF] at h
    have hs := (signAt_lt g (a :: r)).2
    split at h
    · simp at h; rw [← h]; show n + 1 ≤ n + (a :: r).length; simp
    · split at h
      · cases h
      · have := unl_le q g m _ _ _ x h; rw [List.length_drop] at this; omega
theorem leafAt_le (l : List UInt8) (x : Ex × Nat) (h : leafAt l = some x) : x.2 ≤ l.length := by
  unfold leafAt at h
  split at h
  · obtain ⟨y, hy, rfl⟩ := Option.map_eq_some_iff.1 h
    show y.2 ≤ l.length
    unfold unlit at hy
    cases l with
    | nil => cases hy
    | cons q r =>
      simp only at hy
      split at hy
      · have := unl_le q _ _ _ _ _ y hy; rw [List.length_cons]; omega
      · cases hy
  · split at h
    · obtain ⟨y, hy, rfl⟩ := Option.map_eq_some_iff.1 h
      show y.2 ≤ l.length
      rename_i _ h91
      have hl : l ≠ [] := by intro e; rw [e] at h91; revert h91; decide
      have hp := List.length_pos_iff.2 hl
      unfold unclass at hy
      rw [if_pos h91] at hy
      obtain ⟨z, hz, hzz⟩ := Option.map_eq_some_iff.1 hy
      rw [← hzz]
      show l.length - z.2 + 1 ≤ l.length
      have := (uclF_le _ _ _ z hz).2
      omega
    · split at h
      · cases h
        rename_i h46
        have hl : l ≠ [] := by intro e; rw [e] at h46; revert h46; decide
        exact List.length_pos_iff.2 hl
      · split at h
        · cases h
          exact (List.takeWhile_prefix _).length_le
        · cases h
/-- What a token's kind says of it. -/
theorem tokB_r (s : List UInt8) (h : (tokB s).k ≠ 0) (h3 : (tokB s).k ≠ 3) : (tokB s).r.length < s.length ∧ (tokB s).r <:+ s := by
  unfold tokB at h h3 ⊢
  by_cases h0 : s = []
  · rw [if_pos h0] at h; exact absurd rfl h
  have hp := List.length_pos_iff.2 h0
  rw [if_neg h0] at h h3 ⊢
  split
  · exact ⟨by show (s.drop 2).length < _; rw [List.length_drop]; omega, List.drop_suffix _ _⟩
  rename_i h2
  rw [if_neg h2] at h h3
  split
  · exact ⟨by show (s.drop 1).length < _; rw [List.length_drop]; omega, List.drop_suffix _ _⟩
  rename_i h4
  rw [if_neg h4] at h h3
  cases hl : leafAt s with
  | none => rw [hl] at h3; exact absurd rfl h3
  | some x =>
    have := leafAt_pos s x hl
    exact ⟨by show (s.drop x.2).length < _; rw [List.length_drop]; omega, List.drop_suffix _ _⟩
theorem tokB_end (s : List UInt8) : (tokB s).k = 0 ↔ s = [] := by
  unfold tokB
  by_cases h0 : s = []
  · simp [h0]
  rw [if_neg h0]
  constructor
  · intro h
    split at h
    · cases h
    split at h
    · rename_i h1 h2
      rw [show s.headD 0 = 0 from h] at h2; cases h2
    split at h <;> cases h
  · intro h; exact absurd h h0
/-- What is none is 4. -/
def arr (t : Tk) : Tk := if t.k = 3 then ⟨4, t.s, t.r, t.e⟩ else t
def tokS (s : List UInt8) : Tk := arr (tokB s)
def tok (l : List UInt8) : Tk := tokS (skip l)
theorem arr_s (t : Tk) : (arr t).s = t.s := by unfold arr; split <;> rfl
theorem arr_e (t : Tk) : (arr t).e = t.e := by unfold arr; split <;> rfl
theorem arr_k0 (t : Tk) : (arr t).k = 0 ↔ t.k = 0 := by
  unfold arr; split
  · rename_i h; rw [h]; exact ⟨fun e => absurd (show (4 : UInt8) = 0 from e) (by decide), fun e => absurd e (by decide)⟩
  · exact Iff.rfl
theorem tokB_ne4 (s : List UInt8) : (tokB s).k ≠ 4 := by
  unfold tokB
  split
  · show (0 : UInt8) ≠ 4; decide
  split
  · show (2 : UInt8) ≠ 4; decide
  split
  · rename_i h; intro e; rw [show s.headD 0 = 4 from e] at h; revert h; decide
  split
  · show (1 : UInt8) ≠ 4; decide
  · show (3 : UInt8) ≠ 4; decide
theorem arr_k4 (s : List UInt8) : (arr (tokB s)).k = 4 ↔ (tokB s).k = 3 := by
  have h4 := tokB_ne4 s
  unfold arr
  split
  · rename_i h; exact ⟨fun _ => h, fun _ => rfl⟩
  · rename_i h3; exact ⟨fun h => absurd h h4, fun h => absurd h h3⟩
theorem arr_no (t : Tk) (h : t.k ≠ 3) : arr t = t := by unfold arr; rw [if_neg h]
theorem tokS_s (s : List UInt8) : (tokS s).s = s := by unfold tokS; rw [arr_s, tokB_s]
theorem tokS_end (s : List UInt8) : (tokS s).k = 0 ↔ s = [] := by unfold tokS; rw [arr_k0]; exact tokB_end s
theorem arr_r (t : Tk) : (arr t).r <:+ t.r := by unfold arr; split <;> exact List.suffix_refl _
theorem tokS_r (s : List UInt8) (h : (tokS s).k ≠ 0) (h3 : (tokS s).k ≠ 4) : (tokS s).r.length < s.length ∧ (tokS s).r <:+ s := by
  unfold tokS at h h3 ⊢
  have h1 := tokB_r s (fun e => h ((arr_k0 _).2 e)) (fun e => h3 ((arr_k4 s).2 e))
  have h2 := arr_r (tokB s)
  exact ⟨Nat.lt_of_le_of_lt h2.length_le h1.1, h2.trans h1.2⟩
/-- A token that was cut of a text. -/
def Tk.of (t : Tk) (T : List UInt8) : Prop := t = tokS t.s ∧ t.s <:+ T ∧ t.k ≠ 4
theorem tok_of (l T : List UInt8) (h : l <:+ T) (h3 : (tok l).k ≠ 4) : (tok l).of T := by
  refine ⟨?_, ?_, h3⟩
  · unfold tok; rw [tokS_s]
  · unfold tok; rw [tokS_s]; exact (skip_suf l).trans h
theorem Tk.of.r {t : Tk} {T : List UInt8} (h : t.of T) : t.r <:+ T ∧ t.r.length ≤ t.s.length ∧ (t.k ≠ 0 → t.r.length < t.s.length) := by
  obtain ⟨h1, h2, h3⟩ := h
  by_cases h0 : t.k = 0
  · have hs : t.s = [] := (tokS_end t.s).1 (by rw [← h1]; exact h0)
    have hr : t.r = [] := by rw [h1, hs]; rfl
    rw [hr]; exact ⟨List.nil_suffix, by simp, fun h => absurd h0 h⟩
  · have := tokS_r t.s (by rw [← h1]; exact h0) (by rw [← h1]; exact h3)
    rw [← h1] at this
    exact ⟨this.2.trans h2, by omega, fun _ => this.1⟩
end Go.Proofs.YtbeohmcmphebhaaDoor
