import Derived.Test.YtbeohmcmphebhaaDoorXPs
namespace Go.Proofs.YtbeohmcmphebhaaDoor
set_option linter.unusedVariables false
/-! Two texts whose tokens go side by side are read side by side. -/
def mapE {α : Type} (f : α → α) (h : List UInt8 → List UInt8) : Except (List UInt8) α → Except (List UInt8) α
  | .ok a => .ok (f a)
  | .error s => .error (h s)
def fR (f : Tk → Tk) (x : Ex × Tk) : Ex × Tk := (x.1, f x.2)
structure Sim (T T' : List UInt8) (f : Tk → Tk) (h : List UInt8 → List UInt8) : Prop where
  k : ∀ t, t.of T → (f t).k = t.k
  e : ∀ t, t.of T → (f t).e = t.e
  s : ∀ t, t.of T → (f t).s = h t.s
  tk : ∀ t, t.of T → t.k ≠ 0 → take (f t) = mapE f h (take t)
  of : ∀ t, t.of T → (f t).of T'
section
variable {T T' : List UInt8} {f : Tk → Tk} {h : List UInt8 → List UInt8}
theorem of_nil {t : Tk} {T : List UInt8} (ht : t.of T) (h0 : t.s.length = 0) : t.k = 0 := by
  have : t.s = [] := List.eq_nil_of_length_eq_zero h0
  rw [ht.1, this]; rfl
theorem of_pos {t : Tk} {T : List UInt8} (ht : t.of T) (h0 : t.k ≠ 0) : 1 ≤ t.s.length := by
  rcases Nat.eq_zero_or_pos t.s.length with e | e
  · exact absurd (of_nil ht e) h0
  · exact e
/-- Where pre and pre' go side by side. -/
def Side (T : List UInt8) (f : Tk → Tk) (h : List UInt8 → List UInt8) (n n' : Nat) (p p' : Tk → Rs) : Prop := ∀ t, t.of T → t.s.length < n → (f t).s.length < n' → p' (f t) = mapE (fR f) h (p t)
theorem seqL_side (S : Sim T T' f h) {n n' : Nat} {p p' : Tk → Rs} (hp : Side T f h n n' p p') (hg : Goes T n p) (hg' : Goes T' n' p') : ∀ (m m' : Nat) (l : List Ex) (t : Tk), t.of T → t.s.length ≤ m → (f t).s.length ≤ m' → t.s.length < n → (f t).s.length < n' → seqL p' m' l (f t) = mapE (fR f) h (seqL p m l t) := by
  have hno : ∀ (m m' : Nat) (l : List Ex) (t : Tk), t.of T → begins t.k = false → seqL p' m' l (f t) = mapE (fR f) h (seqL p m l t) := by
    intro m m' l t ht hb
    have h1 : seqL p m l t = .ok (gath 5 l, t) := by cases m with | zero => rfl | succ m => rw [seqL, if_neg (by rw [hb]; decide)]
    have h2 : seqL p' m' l (f t) = .ok (gath 5 l, f t) := by cases m' with | zero => rfl | succ m => rw [seqL, if_neg (by rw [S.k t ht, hb]; decide)]
    rw [h1, h2]; rfl
  intro m
  induction m with
  | zero =>
    intro m' l t ht hm _ _ _
    refine hno 0 m' l t ht ?_
    rw [of_nil ht (by omega)]; rfl
  | succ m ih =>
    intro m' l t ht hm hm' hn hn'
    cases hb : begins t.k with
    | false => exact hno (m + 1) m' l t ht hb
    | true =>
      have hk := begins_ne hb
      have hp1 := of_pos (S.of t ht) (by rw [S.k t ht]; exact hk)
      cases m' with
      | zero => omega
      | succ m' =>
        rw [seqL, seqL, if_pos (by rw [S.k t ht]; exact hb), if_pos hb]
        have h1 := hp t ht hn hn'
        have f1 := hg t ht hn
        have f2 := hg' (f t) (S.of t ht) hn'
        cases hq : p t with
        | error s => rw [h1, hq]; rfl
        | ok x =>
          rw [hq] at h1 f1
          rw [h1] at f2
          rw [h1, thn_ok]
          show thn (Except.ok (fR f x)) _ = _
          rw [thn_ok]
          exact ih m' (l ++ [x.1]) x.2 f1.1 (by have := f1.2.1; omega) (by have : (f x.2).s.length < (f t).s.length := f2.2.1; show (f x.2).s.length ≤ m'; omega) (by have := f1.2.1; omega) (by have : (f x.2).s.length < (f t).s.length := f2.2.1; omega)
theorem seqP_side (S : Sim T T' f h) {n n' : Nat} {p p' : Tk → Rs} (hp : Side T f h n n' p p') (hg : Goes T n p) (hg' : Goes T' n' p') : Side T f h n n' (seqP p) (seqP p') := by
  intro t ht hn hn'
  have h1 := hp t ht hn hn'
  have f1 := hg t ht hn
  have f2 := hg' (f t) (S.of t ht) hn'
  unfold seqP
  cases hq : p t with
  | error s => rw [h1, hq]; rfl
  | ok x =>
    rw [hq] at h1 f1
    rw [h1] at f2
    rw [h1, thn_ok]
    show thn (Except.ok (fR f x)) _ = _
    rw [thn_ok]
    exact seqL_side S hp hg hg' _ _ [x.1] x.2 f1.1 (Nat.le_refl _) (Nat.le_refl _) (by have := f1.2.1; omega) (by have : (f x.2).s.length < (f t).s.length := f2.2.1; omega)
theorem altL_side (S : Sim T T' f h) {n n' : Nat} {p p' : Tk → Rs} (hp : Side T f h n n' p p') (hg : Goes T n p) (hg' : Goes T' n' p') : ∀ (m m' : Nat) (l : List Ex) (t : Tk), t.of T → t.s.length ≤ m → (f t).s.length ≤ m' → t.s.length < n → (f t).s.length < n' → altL p' m' l (f t) = mapE (fR f) h (altL p m l t) := by
  have hno : ∀ (m m' : Nat) (l : List Ex) (t : Tk), t.of T → ¬ t.k = 47 → altL p' m' l (f t) = mapE (fR f) h (altL p m l t) := by
    intro m m' l t ht hb
    have h1 : altL p m l t = .ok (gath 6 l, t) := by cases m with | zero => rfl | succ m => rw [altL, if_neg hb]
    have h2 : altL p' m' l (f t) = .ok (gath 6 l, f t) := by cases m' with | zero => rfl | succ m => rw [altL, if_neg (by rw [S.k t ht]; exact hb)]
    rw [h1, h2]; rfl
  have hs := seqP_side S hp hg hg'
  intro m
  induction m with
  | zero =>
    intro m' l t ht hm _ _ _
    refine hno 0 m' l t ht ?_
    rw [of_nil ht (by omega)]; decide
  | succ m ih =>
    intro m' l t ht hm hm' hn hn'
    by_cases hb : t.k = 47
    · have hk : t.k ≠ 0 := by rw [hb]; decide
      have hk' : (f t).k ≠ 0 := by rw [S.k t ht]; exact hk
      have hp1 := of_pos (S.of t ht) hk'
      cases m' with
      | zero => omega
      | succ m' =>
        rw [altL, altL, if_pos (by rw [S.k t ht]; exact hb), if_pos hb]
        have h0 := S.tk t ht hk
        cases hu : take t with
        | error s => rw [h0, hu]; rfl
        | ok u =>
          rw [hu] at h0
          obtain ⟨u1, u2⟩ := take_ok ht hk hu
          obtain ⟨v1, v2⟩ := take_ok (S.of t ht) hk' h0
          rw [h0, thn_ok]
          show thn (Except.ok (f u)) _ = _
          rw [thn_ok]
          have h1 := hs u u1 (by omega) (by omega)
          have f1 := seqP_fine hg u u1 (by omega)
          have f2 := seqP_fine hg' (f u) (S.of u u1) (by omega)
          cases hq : seqP p u with
          | error s => rw [h1, hq]; rfl
          | ok x =>
            rw [hq] at h1 f1
            rw [h1] at f2
            rw [h1, thn_ok]
            show thn (Except.ok (fR f x)) _ = _
            rw [thn_ok]
            have g1 : x.2.s.length < u.s.length := f1.2.1
            have g2 : (f x.2).s.length < (f u).s.length := f2.2.1
            exact ih m' (l ++ [x.1]) x.2 f1.1 (by omega) (by show (f x.2).s.length ≤ m'; omega) (by omega) (by omega)
    · exact hno (m + 1) m' l t ht hb
theorem altP_side (S : Sim T T' f h) {n n' : Nat} {p p' : Tk → Rs} (hp : Side T f h n n' p p') (hg : Goes T n p) (hg' : Goes T' n' p') : Side T f h n n' (altP p) (altP p') := by
  intro t ht hn hn'
  have h1 := seqP_side S hp hg hg' t ht hn hn'
  have f1 := seqP_fine hg t ht hn
  have f2 := seqP_fine hg' (f t) (S.of t ht) hn'
  unfold altP
  cases hq : seqP p t with
  | error s => rw [h1, hq]; rfl
  | ok x =>
    rw [hq] at h1 f1
    rw [h1] at f2
    rw [h1, thn_ok]
    show thn (Except.ok (fR f x)) _ = _
    rw [thn_ok]
    have g1 : x.2.s.length < t.s.length := f1.2.1
    have g2 : (f x.2).s.length < (f t).s.length := f2.2.1
    exact altL_side S hp hg hg' _ _ [x.1] x.2 f1.1 (Nat.le_refl _) (Nat.le_refl _) (by omega) (by omega)
theorem postL_side (S : Sim T T' f h) : ∀ (m m' : Nat) (e : Ex) (t : Tk), t.of T → t.s.length ≤ m → (f t).s.length ≤ m' → postL m' e (f t) = mapE (fR f) h (postL m e t) := by
  have hno : ∀ (m m' : Nat) (e : Ex) (t : Tk), t.of T → kindB t.k = 0 → postL m' e (f t) = mapE (fR f) h (postL m e t) := by
    intro m m' e t ht hb
    have h1 : postL m e t = .ok (e, t) := by cases m with | zero => rfl | succ m => rw [postL, if_pos hb]
    have h2 : postL m' e (f t) = .ok (e, f t) := by cases m' with | zero => rfl | succ m => rw [postL, if_pos (by rw [S.k t ht]; exact hb)]
    rw [h1, h2]; rfl
  intro m
  induction m with
  | zero =>
    intro m' e t ht hm _
    refine hno 0 m' e t ht ?_
    rw [of_nil ht (by omega)]; rfl
  | succ m ih =>
    intro m' e t ht hm hm'
    by_cases hb : kindB t.k = 0
    · exact hno (m + 1) m' e t ht hb
    · have hk := kindB_ne hb
      have hk' : (f t).k ≠ 0 := by rw [S.k t ht]; exact hk
      have hp1 := of_pos (S.of t ht) hk'
      cases m' with
      | zero => omega
      | succ m' =>
        rw [postL, postL, if_neg (by rw [S.k t ht]; exact hb), if_neg hb, S.k t ht]
        have h0 := S.tk t ht hk
        cases hu : take t with
        | error s => rw [h0, hu]; rfl
        | ok u =>
          rw [hu] at h0
          obtain ⟨u1, u2⟩ := take_ok ht hk hu
          obtain ⟨v1, v2⟩ := take_ok (S.of t ht) hk' h0
          rw [h0, thn_ok]
          show thn (Except.ok (f u)) _ = _
          rw [thn_ok]
          exact ih m' _ u u1 (by omega) (by omega)
theorem primP_side (S : Sim T T' f h) {n n' : Nat} {p p' : Tk → Rs} (hp : Side T f h n n' p p') (hg : Goes T n p) (hg' : Goes T' n' p') (t : Tk) (ht : t.of T) (hn : t.s.length ≤ n) (hn' : (f t).s.length ≤ n') : primP p' (f t) = mapE (fR f) h (primP p t) := by
  unfold primP
  rw [S.k t ht]
  by_cases h1 : t.k = 1
  · have hk : t.k ≠ 0 := by rw [h1]; decide
    rw [if_pos h1, if_pos h1, S.tk t ht hk]
    cases hu : take t with
    | error s => rfl
    | ok u => show Except.ok ((f t).e, f u) = Except.ok (t.e, f u); rw [S.e t ht]
  rw [if_neg h1, if_neg h1]
  by_cases h40 : t.k = 40
  · have hk : t.k ≠ 0 := by rw [h40]; decide
    have hk' : (f t).k ≠ 0 := by rw [S.k t ht]; exact hk
    rw [if_pos h40, if_pos h40]
    have h0 := S.tk t ht hk
    cases hu : take t with
    | error s => rw [h0, hu]; rfl
    | ok u =>
      rw [hu] at h0
      obtain ⟨u1, u2⟩ := take_ok ht hk hu
      obtain ⟨v1, v2⟩ := take_ok (S.of t ht) hk' h0
      rw [h0, thn_ok]
      show thn (Except.ok (f u)) _ = _
      rw [thn_ok, S.k u u1]
      by_cases h41 : u.k = 41
      · have hk2 : u.k ≠ 0 := by rw [h41]; decide
        rw [if_pos h41, if_pos h41, S.tk u u1 hk2]
        cases take u with
        | error s => rfl
        | ok v => rfl
      · rw [if_neg h41, if_neg h41]
        have ha := altP_side S hp hg hg' u u1 (by omega) (by omega)
        have f1 := altP_fine hg u u1 (by omega)
        cases hq : altP p u with
        | error s => rw [ha, hq]; rfl
        | ok x =>
          rw [hq] at ha f1
          rw [ha, thn_ok]
          show thn (Except.ok (fR f x)) _ = _
          rw [thn_ok]
          show (if (f x.2).k = 41 then _ else _) = _
          rw [S.k x.2 f1.1]
          by_cases h42 : x.2.k = 41
          · have hk3 : x.2.k ≠ 0 := by rw [h42]; decide
            rw [if_pos h42, if_pos h42]
            show thn (take (f x.2)) _ = _
            rw [S.tk x.2 f1.1 hk3]
            cases take x.2 with
            | error s => rfl
            | ok v => rfl
          · rw [if_neg h42, if_neg h42]
            show Except.error (f x.2).s = Except.error (h x.2.s)
            rw [S.s x.2 f1.1]
  · rw [if_neg h40, if_neg h40]
    show Except.error (f t).s = Except.error (h t.s)
    rw [S.s t ht]
theorem preP_side (S : Sim T T' f h) : ∀ (n n' : Nat), Side T f h n n' (preP n) (preP n') := by
  intro n
  induction n with
  | zero => intro n' t _ h; omega
  | succ n ih =>
    intro n' t ht hn hn'
    cases n' with
    | zero => omega
    | succ n' =>
      rw [preP, preP, S.k t ht]
      have pref : ∀ k : Int, t.k ≠ 0 → (thn (take (f t)) fun u => thn (preP n' u) fun x => .ok (nd k [x.1], x.2)) = mapE (fR f) h (thn (take t) fun u => thn (preP n u) fun x => .ok (nd k [x.1], x.2)) := by
        intro k hk
        have hk' : (f t).k ≠ 0 := by rw [S.k t ht]; exact hk
        have h0 := S.tk t ht hk
        cases hu : take t with
        | error s => rw [h0, hu]; rfl
        | ok u =>
          rw [hu] at h0
          obtain ⟨u1, u2⟩ := take_ok ht hk hu
          obtain ⟨v1, v2⟩ := take_ok (S.of t ht) hk' h0
          rw [h0, thn_ok]
          show thn (Except.ok (f u)) _ = _
          rw [thn_ok, ih n' u u1 (by omega) (by omega)]
          cases preP n u with
          | error s => rfl
          | ok x => rfl
      by_cases h38 : t.k = 38
      · rw [if_pos h38, if_pos h38]; exact pref 10 (by rw [h38]; decide)
      rw [if_neg h38, if_neg h38]
      by_cases h33 : t.k = 33
      · rw [if_pos h33, if_pos h33]; exact pref 11 (by rw [h33]; decide)
      rw [if_neg h33, if_neg h33]
      have hq := primP_side S (ih n') (preP_fine n) (preP_fine n') t ht (by omega) (by omega)
      have f1 := primP_fine (preP_fine (T := T) n) t ht (by omega)
      cases hp : primP (preP n) t with
      | error s => rw [hq, hp]; rfl
      | ok x =>
        rw [hp] at hq f1
        rw [hq, thn_ok]
        show thn (Except.ok (fR f x)) _ = _
        rw [thn_ok]
        exact postL_side S _ _ x.1 x.2 f1.1 (Nat.le_refl _) (Nat.le_refl _)
/-- The whole of it. -/
theorem parse_side (S : Sim T T' f h) (hok : (tok T).k ≠ 4) (htok : tok T' = f (tok T)) : parse T' = mapE id h (parse T) := by
  have ht := tok_of T T (List.suffix_refl _) hok
  have ht' := S.of _ ht
  have hl := ht.2.1.length_le
  have hl' := ht'.2.1.length_le
  unfold parse
  rw [htok, if_neg (by rw [S.k _ ht]; exact hok), if_neg hok]
  have ha := altP_side S (preP_side S (T.length + 1) (T'.length + 1)) (preP_fine _) (preP_fine _) (tok T) ht (by omega) (by omega)
  have f1 := altP_fine (preP_fine (T := T) (T.length + 1)) (tok T) ht (by omega)
  cases hq : altP (preP (T.length + 1)) (tok T) with
  | error s => rw [ha, hq]; rfl
  | ok x =>
    rw [hq] at ha f1
    rw [ha, thn_ok]
    show thn (Except.ok (fR f x)) _ = _
    rw [thn_ok]
    show (if (f x.2).k = 0 then Except.ok x.1 else Except.error (f x.2).s) = _
    rw [S.k x.2 f1.1, S.s x.2 f1.1]
    by_cases h0 : x.2.k = 0
    · rw [if_pos h0, if_pos h0]; rfl
    · rw [if_neg h0, if_neg h0]; rfl
end
end Go.Proofs.YtbeohmcmphebhaaDoor
