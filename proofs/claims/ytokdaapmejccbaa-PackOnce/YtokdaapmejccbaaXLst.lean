import Derived.Test.YtokdaapmejccbaaProg
namespace Go.Proofs.Ytokdaapmejccbaa
set_option linter.unusedVariables false
/-- What is known grows, but not for ever. -/
structure Lat {α : Type} (le : α → α → Prop) (rk : α → Nat) (m : Nat) : Prop where
  refl : ∀ a, le a a
  trans : ∀ a b c, le a b → le b c → le a c
  up : ∀ a b, le a b → a ≠ b → rk a < rk b
  most : ∀ a, rk a ≤ m
theorem Lat.anti {α : Type} {le : α → α → Prop} {rk : α → Nat} {m : Nat} (L : Lat le rk m) {a b : α} (h : le a b) (k : le b a) : a = b := by
  apply Classical.byContradiction
  intro hne
  have h1 := L.up a b h hne
  have h2 := L.up b a k (Ne.symm hne)
  omega
theorem Lat.rk_le {α : Type} {le : α → α → Prop} {rk : α → Nat} {m : Nat} (L : Lat le rk m) {a b : α} (h : le a b) : rk a ≤ rk b := by
  by_cases e : a = b
  · rw [e]; omega
  · exact Nat.le_of_lt (L.up a b h e)
section
variable {α : Type} {le : α → α → Prop} {rk : α → Nat} {m : Nat}
def LeL (le : α → α → Prop) (l l' : List α) : Prop := l.length = l'.length ∧ ∀ (i : Nat) a b, l[i]? = some a → l'[i]? = some b → le a b
def rkL (rk : α → Nat) : List α → Nat
  | [] => 0
  | a :: l => rk a + rkL rk l
theorem LeL.refl (L : Lat le rk m) (l : List α) : LeL le l l := ⟨rfl, fun i a b h k => by rw [h] at k; cases k; exact L.refl _⟩
theorem LeL.trans (L : Lat le rk m) {a b c : List α} (h : LeL le a b) (k : LeL le b c) : LeL le a c :=
  ⟨h.1.trans k.1, fun i x z hx hz => by
    have hi := (List.getElem?_eq_some_iff.1 hx).1
    obtain ⟨y, hy⟩ : ∃ y, b[i]? = some y := ⟨_, List.getElem?_eq_getElem (by rw [← h.1]; exact hi)⟩
    exact L.trans _ _ _ (h.2 i x y hx hy) (k.2 i y z hy hz)⟩
theorem LeL.anti (L : Lat le rk m) {a b : List α} (h : LeL le a b) (k : LeL le b a) : a = b := by
  apply List.ext_getElem? 
  intro i
  by_cases hi : i < a.length
  · obtain ⟨x, hx⟩ : ∃ x, a[i]? = some x := ⟨_, List.getElem?_eq_getElem hi⟩
    obtain ⟨y, hy⟩ : ∃ y, b[i]? = some y := ⟨_, List.getElem?_eq_getElem (by rw [← h.1]; exact hi)⟩
    rw [hx, hy, L.anti (h.2 i x y hx hy) (k.2 i y x hy hx)]
  · have := h.1
    rw [List.getElem?_eq_none (by omega), List.getElem?_eq_none (by omega)]
theorem rkL_most (L : Lat le rk m) : ∀ l : List α, rkL rk l ≤ m * l.length
  | [] => by simp [rkL]
  | a :: l => by
    have := rkL_most L l
    have := L.most a
    rw [rkL, List.length_cons, Nat.mul_add]; omega
theorem LeL.tail {a b : α} {l l' : List α} (h : LeL le (a :: l) (b :: l')) : LeL le l l' :=
  ⟨by simpa using h.1, fun i x y hx hy => h.2 (i + 1) x y (by simpa using hx) (by simpa using hy)⟩
theorem rkL_le (L : Lat le rk m) : ∀ l l' : List α, LeL le l l' → rkL rk l ≤ rkL rk l'
  | [], [], _ => by simp
  | [], _ :: _, h => by have := h.1; simp at this
  | _ :: _, [], h => by have := h.1; simp at this
  | a :: l, b :: l', h => by
    have h1 := rkL_le L l l' h.tail
    have h2 := L.rk_le (h.2 0 a b rfl rfl)
    rw [rkL, rkL]; omega
theorem rkL_lt (L : Lat le rk m) : ∀ l l' : List α, LeL le l l' → l ≠ l' → rkL rk l < rkL rk l'
  | [], [], _, h => absurd rfl h
  | [], _ :: _, h, _ => by have := h.1; simp at this
  | _ :: _, [], h, _ => by have := h.1; simp at this
  | a :: l, b :: l', h, hne => by
    have h2 := h.2 0 a b rfl rfl
    rw [rkL, rkL]
    by_cases e : a = b
    · have := rkL_lt L l l' h.tail (fun k => hne (by rw [e, k]))
      rw [e]; omega
    · have := L.up a b h2 e
      have := rkL_le L l l' h.tail
      omega
/-- What follows of a rule is no less if more is known. -/
def Mono (le : α → α → Prop) (n : Nat) (st : List α → Nat → α) : Prop := ∀ l l' i, l.length = n → LeL le l l' → i < n → le (st l i) (st l' i)
/-- Nothing more follows. -/
structure Pre (le : α → α → Prop) (n : Nat) (st : List α → Nat → α) (l : List α) : Prop where
  len : l.length = n
  all : ∀ (i : Nat) a, l[i]? = some a → le (st l i) a
/-- What follows, and nothing else. -/
structure Least (le : α → α → Prop) (n : Nat) (st : List α → Nat → α) (l : List α) : Prop where
  pre : Pre le n st l
  least : ∀ q, Pre le n st q → LeL le l q
theorem Least.uniq (L : Lat le rk m) {n : Nat} {st : List α → Nat → α} {l l' : List α} (h : Least le n st l) (k : Least le n st l') : l = l' :=
  LeL.anti L (h.least _ k.pre) (k.least _ h.pre)
/-- What is known so far. -/
structure Sofar (le : α → α → Prop) (n : Nat) (st : List α → Nat → α) (l : List α) : Prop where
  len : l.length = n
  below : ∀ q, Pre le n st q → LeL le l q
  up : ∀ (i : Nat) a, l[i]? = some a → le a (st l i)
theorem set_leL (L : Lat le rk m) {l : List α} {i : Nat} {a b : α} (ha : l[i]? = some a) (hab : le a b) : LeL le l (l.set i b) :=
  ⟨by simp, fun j x y hx hy => by
    by_cases e : i = j
    · subst e
      rw [List.getElem?_set_self (List.getElem?_eq_some_iff.1 ha).1] at hy
      rw [ha] at hx
      cases hx; cases hy
      exact hab
    · rw [List.getElem?_set_ne e] at hy
      rw [hx] at hy
      cases hy
      exact L.refl _⟩
theorem Sofar.set (L : Lat le rk m) {n : Nat} {st : List α → Nat → α} (M : Mono le n st) {l : List α} {i : Nat} {a : α} (h : Sofar le n st l) (ha : l[i]? = some a) : Sofar le n st (l.set i (st l i)) := by
  have hi := (List.getElem?_eq_some_iff.1 ha).1
  have hle := set_leL L ha (h.up i a ha)
  refine ⟨by rw [List.length_set]; exact h.len, fun q hq => ⟨by rw [List.length_set]; rw [h.len, hq.len], fun j x y hx hy => ?_⟩, fun j x hx => ?_⟩
  · by_cases e : i = j
    · subst e
      rw [List.getElem?_set_self hi] at hx
      cases hx
      exact L.trans _ _ _ (M l q i h.len (h.below q hq) (by rw [← h.len]; exact hi)) (hq.all i y hy)
    · rw [List.getElem?_set_ne e] at hx
      exact (h.below q hq).2 j x y hx hy
  · by_cases e : i = j
    · subst e
      rw [List.getElem?_set_self hi] at hx
      cases hx
      exact M l _ i h.len hle (by rw [← h.len]; exact hi)
    · rw [List.getElem?_set_ne e] at hx
      have hj := (List.getElem?_eq_some_iff.1 hx).1
      exact L.trans _ _ _ (h.up j x hx) (M l _ j h.len hle (by rw [← h.len]; exact hj))
/-- A round, rule by rule: l0 was known ahead of it, more says whether it is more now. -/
structure Round (le : α → α → Prop) (rk : α → Nat) (n : Nat) (st : List α → Nat → α) (l0 : List α) (i : Nat) (l : List α) (more : Bool) : Prop where
  so : Sofar le n st l
  no : more = false → l = l0 ∧ ∀ (j : Nat) a, j < i → l[j]? = some a → a = st l j
  yes : more = true → rkL rk l0 < rkL rk l
  ge : rkL rk l0 ≤ rkL rk l
theorem Round.start {n : Nat} {st : List α → Nat → α} {l : List α} (h : Sofar le n st l) : Round le rk n st l 0 l false :=
  ⟨h, fun _ => ⟨rfl, fun j _ hj => absurd hj (Nat.not_lt_zero j)⟩, (fun h => by cases h), Nat.le_refl _⟩
theorem Round.next (L : Lat le rk m) {n : Nat} {st : List α → Nat → α} (M : Mono le n st) {l0 l : List α} {i : Nat} {more : Bool} {a : α} (h : Round le rk n st l0 i l more) (ha : l[i]? = some a) {more' : Bool} (hm : more' = true ↔ more = true ∨ st l i ≠ a) : Round le rk n st l0 (i + 1) (l.set i (st l i)) more' := by
  have hle := set_leL L ha (h.so.up i a ha)
  have hrk := rkL_le L _ _ hle
  refine ⟨h.so.set L M ha, fun hf => ?_, fun ht => ?_, Nat.le_trans h.ge hrk⟩
  · have h1 : ¬ (more = true ∨ st l i ≠ a) := fun k => by have := hm.2 k; rw [hf] at this; cases this
    have h2 : more = false := by cases more <;> simp_all
    have h3 : st l i = a := Classical.byContradiction fun k => h1 (.inr k)
    have h4 : l.set i (st l i) = l := by
      rw [h3]
      apply List.ext_getElem?
      intro j
      by_cases e : i = j
      · subst e; rw [List.getElem?_set_self (List.getElem?_eq_some_iff.1 ha).1, ha]
      · rw [List.getElem?_set_ne e]
    rw [h4]
    refine ⟨(h.no h2).1, fun j x hj hx => ?_⟩
    by_cases e : j = i
    · subst e; rw [ha] at hx; cases hx; exact h3.symm
    · exact (h.no h2).2 j x (by omega) hx
  · by_cases e : st l i = a
    · rcases hm.1 ht with h1 | h1
      · exact Nat.lt_of_lt_of_le (h.yes h1) hrk
      · exact absurd e h1
    · have : l ≠ l.set i (st l i) := fun k => by
        have h2 : (l.set i (st l i))[i]? = some (st l i) := List.getElem?_set_self (List.getElem?_eq_some_iff.1 ha).1
        rw [← k, ha] at h2
        exact e (Option.some.inj h2).symm
      exact Nat.lt_of_le_of_lt h.ge (rkL_lt L _ _ hle this)
theorem Round.fin (L : Lat le rk m) {n : Nat} {st : List α → Nat → α} {l0 l : List α} (h : Round le rk n st l0 n l false) : Least le n st l :=
  ⟨⟨h.so.len, fun i a ha => by
    have hi := (List.getElem?_eq_some_iff.1 ha).1
    rw [← (h.no rfl).2 i a (by rw [← h.so.len]; exact hi) ha]
    exact L.refl _⟩, h.so.below⟩
/-- Rounds one after the other: each finds something, or nothing is left. -/
structure Rnds (le : α → α → Prop) (rk : α → Nat) (n : Nat) (st : List α → Nat → α) (t : Nat) (l : List α) : Prop where
  so : Sofar le n st l
  or : t ≤ rkL rk l ∨ Pre le n st l
theorem Rnds.next (L : Lat le rk m) {n t : Nat} {st : List α → Nat → α} {l0 l : List α} {more : Bool} (h : Rnds le rk n st t l0) (r : Round le rk n st l0 n l more) : Rnds le rk n st (t + 1) l := by
  refine ⟨r.so, ?_⟩
  cases more with
  | false => exact .inr (r.fin L).pre
  | true =>
    have h1 := r.yes rfl
    rcases h.or with k | k
    · exact .inl (by omega)
    · have := rkL_le L _ _ (r.so.below _ k)
      omega
theorem Rnds.fin (L : Lat le rk m) {n t : Nat} {st : List α → Nat → α} {l : List α} (h : Rnds le rk n st t l) (ht : m * n < t) : Least le n st l := by
  refine ⟨h.or.resolve_left fun k => ?_, h.so.below⟩
  have := rkL_most L l
  rw [h.so.len] at this
  omega
/-- All at once, out of what was known ahead of the round. -/
structure Jr (sup : α → α → α) (n : Nat) (st : List α → Nat → α) (l0 : List α) (i : Nat) (l : List α) : Prop where
  len : l.length = n
  new : ∀ (j : Nat) a, l0[j]? = some a → l[j]? = some (if j < i then sup a (st l0 j) else a)
theorem Jr.start (sup : α → α → α) {n : Nat} (st : List α → Nat → α) {l : List α} (h : l.length = n) : Jr sup n st l 0 l := ⟨h, fun j a ha => by rw [if_neg (by omega)]; exact ha⟩
theorem Jr.next {sup : α → α → α} {n : Nat} {st : List α → Nat → α} {l0 l : List α} {i : Nat} {a : α} (h : Jr sup n st l0 i l) (ha : l0[i]? = some a) : Jr sup n st l0 (i + 1) (l.set i (sup a (st l0 i))) :=
  ⟨by rw [List.length_set]; exact h.len, fun j b hb => by
    have hj := h.new j b hb
    by_cases e : i = j
    · subst e
      rw [ha] at hb; cases hb
      rw [List.getElem?_set_self (List.getElem?_eq_some_iff.1 hj).1, if_pos (by omega)]
    · rw [List.getElem?_set_ne e, hj]
      by_cases k : j < i
      · rw [if_pos k, if_pos (by omega)]
      · rw [if_neg k, if_neg (by omega)]⟩
structure Sup (le : α → α → Prop) (sup : α → α → α) : Prop where
  left : ∀ a b, le a (sup a b)
  right : ∀ a b, le b (sup a b)
  lub : ∀ a b c, le a c → le b c → le (sup a b) c
/-- Rounds all at once. -/
structure Jt (le : α → α → Prop) (rk : α → Nat) (n : Nat) (st : List α → Nat → α) (t : Nat) (l : List α) : Prop where
  len : l.length = n
  below : ∀ q, Pre le n st q → LeL le l q
  or : t ≤ rkL rk l ∨ Pre le n st l
theorem Jt.next (L : Lat le rk m) {sup : α → α → α} (S : Sup le sup) {n t : Nat} {st : List α → Nat → α} (M : Mono le n st) {l0 l : List α} (h : Jt le rk n st t l0) (r : Jr sup n st l0 n l) : Jt le rk n st (t + 1) l := by
  have hget : ∀ (j : Nat) x, l[j]? = some x → ∃ a, l0[j]? = some a ∧ x = sup a (st l0 j) := fun j x hx => by
    have hj : j < n := by rw [← r.len]; exact (List.getElem?_eq_some_iff.1 hx).1
    obtain ⟨a, ha⟩ : ∃ a, l0[j]? = some a := ⟨_, List.getElem?_eq_getElem (by rw [h.len]; exact hj)⟩
    have := r.new j a ha
    rw [if_pos hj, hx] at this
    exact ⟨a, ha, Option.some.inj this⟩
  have hle : LeL le l0 l := ⟨by rw [h.len, r.len], fun j a x ha hx => by
    obtain ⟨a', ha', rfl⟩ := hget j x hx
    rw [ha] at ha'; cases ha'
    exact S.left _ _⟩
  have hbel : ∀ q, Pre le n st q → LeL le l q := fun q hq => ⟨by rw [r.len, hq.len], fun j x y hx hy => by
    obtain ⟨a, ha, rfl⟩ := hget j x hx
    have hj : j < n := by rw [← h.len]; exact (List.getElem?_eq_some_iff.1 ha).1
    exact S.lub _ _ _ ((h.below q hq).2 j a y ha hy) (L.trans _ _ _ (M l0 q j h.len (h.below q hq) hj) (hq.all j y hy))⟩
  refine ⟨r.len, hbel, ?_⟩
  by_cases e : l0 = l
  · subst e
    refine .inr ⟨r.len, fun j a ha => ?_⟩
    obtain ⟨a', ha', e'⟩ := hget j a ha
    rw [ha] at ha'; cases ha'
    rw [e']
    rw [← e']
    have := S.right a (st l0 j)
    rw [← e'] at this
    exact this
  · have h1 := rkL_lt L _ _ hle e
    rcases h.or with k | k
    · exact .inl (by omega)
    · exact absurd (LeL.anti L hle (hbel _ k)) e
theorem Jt.fin (L : Lat le rk m) {n t : Nat} {st : List α → Nat → α} {l : List α} (h : Jt le rk n st t l) (ht : m * n < t) : Least le n st l := by
  refine ⟨h.or.resolve_left fun k => ?_, h.below⟩
  have := rkL_most L l
  rw [h.len] at this
  omega
/-- Nothing is known. -/
theorem bot_below {n : Nat} {st : List α → Nat → α} {bot : α} (hb : ∀ a, le bot a) (q : List α) (hq : Pre le n st q) : LeL le (List.replicate n bot) q :=
  ⟨by rw [List.length_replicate, hq.len], fun j x y hx hy => by
    rw [List.getElem?_replicate] at hx
    split at hx
    · cases hx; exact hb _
    · cases hx⟩
theorem bot_sofar {n : Nat} {st : List α → Nat → α} {bot : α} (hb : ∀ a, le bot a) : Sofar le n st (List.replicate n bot) :=
  ⟨List.length_replicate, fun q hq => bot_below hb q hq, fun j x hx => by
    rw [List.getElem?_replicate] at hx
    split at hx
    · cases hx; exact hb _
    · cases hx⟩
theorem bot_jt {n : Nat} {st : List α → Nat → α} {bot : α} (hb : ∀ a, le bot a) : Jt le rk n st 0 (List.replicate n bot) := ⟨List.length_replicate, fun q hq => bot_below hb q hq, .inl (Nat.zero_le _)⟩
end
end Go.Proofs.Ytokdaapmejccbaa
