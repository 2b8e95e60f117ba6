import Derived.Test.YtokdaapmejccbaaXRGram
import Derived.Test.YtokdaapmejccbaaXLst
namespace Go.Proofs.Ytokdaapmejccbaa
/-! What is come to. -/
/-- In k steps from i to j. -/
def Rk (nx : Nat → List Nat) : Nat → Nat → Nat → Prop
  | 0, i, j => i = j
  | k + 1, i, j => ∃ m, m ∈ nx i ∧ Rk nx k m j
def Rc (nx : Nat → List Nat) (i j : Nat) : Prop := ∃ k, Rk nx k i j
theorem Rc.refl (nx : Nat → List Nat) (i : Nat) : Rc nx i i := ⟨0, rfl⟩
theorem Rc.step {nx : Nat → List Nat} {i m j : Nat} (h : m ∈ nx i) (h2 : Rc nx m j) : Rc nx i j := by
  obtain ⟨k, hk⟩ := h2; exact ⟨k + 1, m, h, hk⟩
theorem Rk.snoc {nx : Nat → List Nat} : ∀ (k i m j : Nat), Rk nx k i m → j ∈ nx m → Rk nx (k + 1) i j
  | 0, i, m, j, h, hj => by rw [Rk] at h; subst h; exact ⟨j, hj, rfl⟩
  | k + 1, i, m, j, ⟨q, hq, h⟩, hj => ⟨q, hq, Rk.snoc k q m j h hj⟩
theorem Rc.snoc {nx : Nat → List Nat} {i m j : Nat} (h : Rc nx i m) (hj : j ∈ nx m) : Rc nx i j := by
  obtain ⟨k, hk⟩ := h; exact ⟨k + 1, Rk.snoc k i m j hk hj⟩
/-- Marks of more. -/
def Le (m m' : List Bool) : Prop := m'.length = m.length ∧ ∀ j : Nat, m[j]? = some true → m'[j]? = some true
theorem Le.refl (m : List Bool) : Le m m := ⟨rfl, fun _ h => h⟩
theorem Le.trans {a b c : List Bool} (h : Le a b) (k : Le b c) : Le a c := ⟨k.1.trans h.1, fun j hj => k.2 j (h.2 j hj)⟩
/-- All that a rule names is marked. -/
def At (nx : Nat → List Nat) (m : List Bool) (j : Nat) : Prop := ∀ k ∈ nx j, m[k]? = some true
theorem At.le {nx : Nat → List Nat} {m m' : List Bool} {j : Nat} (h : At nx m j) (hl : Le m m') : At nx m' j := fun k hk => hl.2 k (h k hk)
/-- What comeTo does. -/
structure CT (nx : Nat → List Nat) (i : Nat) (m m' : List Bool) : Prop where
  le : Le m m'
  own : m'[i]? = some true
  new : ∀ j : Nat, m'[j]? = some true → m[j]? = some true ∨ (At nx m' j ∧ Rc nx i j)
/-- Where its loop stands. -/
structure CL (nx : Nat → List Nat) (i t : Nat) (m0 m' : List Bool) : Prop where
  le : Le m0 m'
  done : ∀ k ∈ (nx i).take t, m'[k]? = some true
  new : ∀ j : Nat, m'[j]? = some true → m0[j]? = some true ∨ (At nx m' j ∧ Rc nx i j)
theorem CL.start (nx : Nat → List Nat) (i : Nat) (m0 : List Bool) : CL nx i 0 m0 m0 := ⟨Le.refl _, fun k hk => by simp at hk, fun _ h => .inl h⟩
theorem CL.next {nx : Nat → List Nat} {i t k : Nat} {m0 m m' : List Bool} (h : CL nx i t m0 m) (hk : (nx i)[t]? = some k) (hc : CT nx k m m') : CL nx i (t + 1) m0 m' := by
  refine ⟨h.le.trans hc.le, fun q hq => ?_, fun j hj => ?_⟩
  · rw [List.take_add_one, hk, Option.toList_some] at hq
    rcases List.mem_append.1 hq with hq | hq
    · exact hc.le.2 q (h.done q hq)
    · rw [List.mem_singleton.1 hq]; exact hc.own
  · rcases hc.new j hj with h1 | ⟨h1, h2⟩
    · rcases h.new j h1 with h3 | ⟨h3, h4⟩
      · exact .inl h3
      · exact .inr ⟨h3.le hc.le, h4⟩
    · exact .inr ⟨h1, Rc.step (List.mem_of_getElem? hk) h2⟩
theorem set_le (m : List Bool) (i : Nat) : Le m (m.set i true) := by
  refine ⟨by simp, fun j hj => ?_⟩
  rw [List.getElem?_set]
  split
  · rename_i h
    subst h
    have := (List.getElem?_eq_some_iff.1 hj).1
    simp [this]
  · exact hj
theorem CL.fin {nx : Nat → List Nat} {i : Nat} {m m' : List Bool} (hi : i < m.length) (h : CL nx i (nx i).length (m.set i true) m') : CT nx i m m' := by
  have hi' : m'[i]? = some true := h.le.2 i (by simp [hi])
  refine ⟨(set_le m i).trans h.le, hi', fun j hj => ?_⟩
  rcases h.new j hj with h1 | h1
  · by_cases hji : i = j
    · subst hji
      exact .inr ⟨fun k hk => h.done k (by rw [List.take_length]; exact hk), Rc.refl _ _⟩
    · rw [List.getElem?_set, if_neg hji] at h1
      exact .inl h1
  · exact .inr h1
theorem CT.same {nx : Nat → List Nat} {i : Nat} {m : List Bool} (h : m[i]? = some true) : CT nx i m m := ⟨Le.refl _, h, fun _ hj => .inl hj⟩
def cntF : List Bool → Nat
  | [] => 0
  | b :: l => (if b then 0 else 1) + cntF l
theorem cntF_le : ∀ (m m' : List Bool), Le m m' → cntF m' ≤ cntF m
  | [], m', h => by
    have : m' = [] := List.eq_nil_of_length_eq_zero h.1
    subst this; exact Nat.le_refl _
  | b :: l, [], h => by have := h.1; simp at this
  | b :: l, c :: l', h => by
    have ih := cntF_le l l' ⟨by have := h.1; simpa using this, fun j hj => by have := h.2 (j + 1) (by simpa using hj); simpa using this⟩
    rw [cntF, cntF]
    cases b with
    | false => cases c <;> simp <;> omega
    | true =>
      have := h.2 0 rfl
      simp at this
      subst this
      simpa using ih
theorem cntF_set : ∀ (m : List Bool) (i : Nat), m[i]? = some false → cntF (m.set i true) + 1 = cntF m
  | [], i, h => by simp at h
  | b :: l, 0, h => by simp at h; subst h; simp [cntF]; omega
  | b :: l, i + 1, h => by
    have := cntF_set l i (by simpa using h)
    rw [List.set_cons_succ, cntF, cntF]; omega
/-- Marks that say what is come to from the first. -/
def IsR (nx : Nat → List Nat) (n : Nat) (m : List Bool) : Prop := m.length = n ∧ ∀ j : Nat, j < n → (m[j]? = some true ↔ Rc nx 0 j)
theorem IsR.uniq {nx : Nat → List Nat} {n : Nat} {m m' : List Bool} (h : IsR nx n m) (h' : IsR nx n m') : m = m' := by
  refine List.ext_getElem? fun j => ?_
  by_cases hj : j < n
  · have h1 := h.2 j hj
    have h2 := h'.2 j hj
    rw [← h2] at h1
    have l1 : j < m.length := by rw [h.1]; exact hj
    have l2 : j < m'.length := by rw [h'.1]; exact hj
    rw [List.getElem?_eq_getElem l1, List.getElem?_eq_getElem l2] at h1 ⊢
    cases hm : m[j] <;> cases hm' : m'[j] <;> simp_all
  · rw [List.getElem?_eq_none (by rw [h.1]; omega), List.getElem?_eq_none (by rw [h'.1]; omega)]
theorem closed_all {nx : Nat → List Nat} {m : List Bool} (h0 : m[0]? = some true) (hc : ∀ j : Nat, m[j]? = some true → At nx m j) : ∀ j, Rc nx 0 j → m[j]? = some true := by
  have : ∀ (k i j : Nat), Rk nx k i j → m[i]? = some true → m[j]? = some true := by
    intro k
    induction k with
    | zero => intro i j h hi; rw [Rk] at h; subst h; exact hi
    | succ k ih => intro i j ⟨q, hq, h⟩ hi; exact ih q j h (hc i hi q hq)
  intro j ⟨k, hk⟩
  exact this k 0 j hk h0
theorem CT.isR {nx : Nat → List Nat} {n : Nat} {m' : List Bool} (h : CT nx 0 (List.replicate n false) m') : IsR nx n m' := by
  have hno : ∀ j : Nat, ¬ (List.replicate n false)[j]? = some true := by
    intro j hj
    rw [List.getElem?_replicate] at hj
    split at hj <;> simp at hj
  refine ⟨by have := h.le.1; simpa using this, fun j hj => ⟨fun h1 => ?_, fun h1 => ?_⟩⟩
  · rcases h.new j h1 with h2 | h2
    · exact absurd h2 (hno j)
    · exact h2.2
  · refine closed_all h.own (fun q hq => ?_) j h1
    rcases h.new q hq with h2 | h2
    · exact absurd h2 (hno q)
    · exact h2.1
/-! By rounds. -/
def Closed (nx : Nat → List Nat) (m : List Bool) : Prop := ∀ j : Nat, m[j]? = some true → At nx m j
def Sound (nx : Nat → List Nat) (m : List Bool) : Prop := m[0]? = some true ∧ ∀ j : Nat, m[j]? = some true → Rc nx 0 j
/-- Within a round that began with ms: the rules ahead of i are done, and t names of i. -/
structure RL (nx : Nat → List Nat) (ms : List Bool) (i t : Nat) (m : List Bool) : Prop where
  le : Le ms m
  sound : Sound nx m
  done : ∀ j : Nat, j < i → ms[j]? = some true → At nx m j
  now : ms[i]? = some true → ∀ k ∈ (nx i).take t, m[k]? = some true
  stay : Closed nx ms → Le m ms
theorem RL.start {nx : Nat → List Nat} {ms : List Bool} (h : Sound nx ms) : RL nx ms 0 0 ms := ⟨Le.refl _, h, fun j hj => absurd hj (by omega), fun _ k hk => by simp at hk, fun _ => Le.refl _⟩
theorem RL.rule {nx : Nat → List Nat} {ms m : List Bool} {i : Nat} (h : RL nx ms i (nx i).length m) : RL nx ms (i + 1) 0 m :=
  ⟨h.le, h.sound, fun j hj hm => by
    by_cases hji : j = i
    · subst hji; intro k hk; exact h.now hm k (by rw [List.take_length]; exact hk)
    · exact h.done j (by omega) hm, fun _ k hk => by simp at hk, h.stay⟩
theorem RL.skip {nx : Nat → List Nat} {ms m : List Bool} {i t : Nat} (h : RL nx ms i t m) (hi : ¬ m[i]? = some true) : RL nx ms i (t + 1) m :=
  ⟨h.le, h.sound, h.done, fun hm => absurd (h.le.2 i hm) hi, h.stay⟩
theorem RL.mark {nx : Nat → List Nat} {ms m : List Bool} {i t k : Nat} (h : RL nx ms i t m) (hi : m[i]? = some true) (hk : (nx i)[t]? = some k) (hkl : k < m.length) : RL nx ms i (t + 1) (m.set k true) := by
  have hle := set_le m k
  refine ⟨h.le.trans hle, ⟨hle.2 0 h.sound.1, fun j hj => ?_⟩, fun j hj hm => (h.done j hj hm).le hle, fun hm q hq => ?_, fun hc => ?_⟩
  · rw [List.getElem?_set] at hj
    split at hj
    · rename_i e; subst e
      exact (h.sound.2 i hi).snoc (List.mem_of_getElem? hk)
    · exact h.sound.2 j hj
  · rw [List.take_add_one, hk, Option.toList_some] at hq
    rcases List.mem_append.1 hq with hq | hq
    · exact hle.2 q (h.now hm q hq)
    · rw [List.mem_singleton.1 hq]
      rw [List.getElem?_set, if_pos rfl, if_pos hkl]
  · have h1 := h.stay hc
    refine ⟨by simpa using h1.1, fun j hj => ?_⟩
    rw [List.getElem?_set] at hj
    split at hj
    · rename_i e; subst e
      exact hc i (h1.2 i hi) k (List.mem_of_getElem? hk)
    · exact h1.2 j hj
theorem le_back : ∀ (m m' : List Bool), Le m m' → cntF m ≤ cntF m' → Le m' m
  | [], m', h, _ => by
    have : m' = [] := List.eq_nil_of_length_eq_zero h.1
    subst this; exact Le.refl _
  | b :: l, [], h, _ => by have := h.1; simp at this
  | b :: l, c :: l', h, hc => by
    have hl : Le l l' := ⟨by have := h.1; simpa using this, fun j hj => by have := h.2 (j + 1) (by simpa using hj); simpa using this⟩
    have h1 := cntF_le l l' hl
    rw [cntF, cntF] at hc
    have hbc : c = b := by
      cases b with
      | true =>
        have := h.2 0 rfl
        simpa using this
      | false =>
        cases c with
        | false => rfl
        | true => simp at hc; omega
    subst hbc
    have ih := le_back l l' hl (by omega)
    refine ⟨by have := ih.1; simpa using this, fun j hj => ?_⟩
    cases j with
    | zero => simpa using hj
    | succ j => have := ih.2 j (by simpa using hj); simpa using this
/-- Between rounds. -/
structure RP (nx : Nat → List Nat) (n t : Nat) (m : List Bool) : Prop where
  len : m.length = n
  sound : Sound nx m
  or : Closed nx m ∨ cntF m + t + 1 ≤ n
theorem RP.next {nx : Nat → List Nat} {n t : Nat} {ms m : List Bool} (h : RP nx n t ms) (hr : RL nx ms n 0 m) : RP nx n (t + 1) m := by
  refine ⟨hr.le.1.trans h.len, hr.sound, ?_⟩
  have hd : ∀ j : Nat, ms[j]? = some true → At nx m j := fun j hj => hr.done j (by have := (List.getElem?_eq_some_iff.1 hj).1; rw [h.len] at this; exact this) hj
  by_cases hc : Closed nx ms
  · exact .inl fun j hj => hd j ((hr.stay hc).2 j hj)
  · right
    have h1 := h.or.resolve_left hc
    have h2 := cntF_le ms m hr.le
    by_cases he : cntF ms ≤ cntF m
    · have hb := le_back ms m hr.le he
      exact absurd (fun j hj => (hd j hj).le hb) hc
    · omega
theorem RP.isR {nx : Nat → List Nat} {n : Nat} {m : List Bool} (h : RP nx n n m) : IsR nx n m := by
  have hc := h.or.resolve_right (by omega)
  exact ⟨h.len, fun j _ => ⟨fun h1 => h.sound.2 j h1, closed_all h.sound.1 hc j⟩⟩
theorem cntF_rep : ∀ n : Nat, cntF (List.replicate n false) = n
  | 0 => rfl
  | n + 1 => by rw [List.replicate_succ, cntF, cntF_rep n]; simp; omega
theorem RP.start (nx : Nat → List Nat) (n : Nat) (hn : 0 < n) : RP nx n 0 ((List.replicate n false).set 0 true) := by
  refine ⟨by simp, ⟨by simp [hn], fun j hj => ?_⟩, .inr ?_⟩
  · rw [List.getElem?_set] at hj
    split at hj
    · rename_i e; subst e; exact Rc.refl _ _
    · rw [List.getElem?_replicate] at hj
      split at hj <;> simp at hj
  · have := cntF_set (List.replicate n false) 0 (by simp [hn])
    rw [cntF_rep] at this
    omega
/-! Of a grammar. -/
def nxt (all : List (ByteArray × Ex)) (i : Nat) : List Nat :=
  match all[i]? with
  | some r => (insR all r.2).map Int.toNat
  | none => []
theorem nxt_at {all : List (ByteArray × Ex)} {i : Nat} {r : ByteArray × Ex} (h : all[i]? = some r) : nxt all i = (insR all r.2).map Int.toNat := by unfold nxt; rw [h]
theorem named_mem {all : List (ByteArray × Ex)} : ∀ (l : List (ByteArray × Ex)), named all l = true → ∀ r ∈ l, namedI (insR all r.2) = true
  | [], _, r, h => by cases h
  | x :: l, h, r, hr => by
    rw [named, Bool.and_eq_true] at h
    rcases List.mem_cons.1 hr with rfl | hr
    · exact h.1
    · exact named_mem l h.2 r hr
structure GOk (all : List (ByteArray × Ex)) : Prop where
  pos : 0 < all.length
  most : all.length ≤ 10
  rules : ∀ (j : Nat) (r : ByteArray × Ex), all[j]? = some r → ruleChk all j r = 0
  count : gcount all ≤ 120
  names : ∀ (j : Nat) (r : ByteArray × Ex), all[j]? = some r → ∀ x ∈ insR all r.2, ∃ k : Nat, x = (k : Int) ∧ k < all.length
theorem gcheck_ok {all : List (ByteArray × Ex)} (h : gcheck all = 0) : GOk all := by
  unfold gcheck at h
  split at h
  · cases h
  rename_i h0
  split at h
  · cases h
  rename_i h10
  split at h
  · rename_i h1; exact absurd h h1
  rename_i h1
  split at h
  · cases h
  rename_i h2
  split at h
  · rename_i h3
    refine ⟨by omega, by omega, fun j r hr => ?_, by omega, fun j r hr x hx => ?_⟩
    · have := rulesChk_zero all 0 (by simpa using h1) j r hr
      rwa [Nat.zero_add] at this
    · have h4 := named_mem all h3 r (List.mem_of_getElem? hr)
      have h5 := List.all_eq_true.1 h4 x hx
      unfold insR at hx
      obtain ⟨s, _, rfl⟩ := List.mem_map.1 hx
      rcases fnd_neg all s with h6 | h6
      · rw [h6] at h5; simp at h5
      · exact ⟨(fnd all s).toNat, by omega, by omega⟩
  · cases h
theorem nxt_lt {all : List (ByteArray × Ex)} (h : GOk all) (i k : Nat) (hk : k ∈ nxt all i) : k < all.length := by
  unfold nxt at hk
  split at hk
  · rename_i r hr
    obtain ⟨x, hx, rfl⟩ := List.mem_map.1 hk
    obtain ⟨k, rfl, hk2⟩ := h.names i r hr x hx
    simpa using hk2
  · cases hk
theorem insR_nxt {all : List (ByteArray × Ex)} (h : GOk all) {i : Nat} {r : ByteArray × Ex} (hr : all[i]? = some r) : insR all r.2 = (nxt all i).map fun k : Nat => (k : Int) := by
  rw [nxt_at hr, List.map_map]
  refine (List.map_id _).symm.trans (List.map_congr_left fun x hx => ?_)
  obtain ⟨k, rfl, _⟩ := h.names i r hr x hx
  rfl
end Go.Proofs.Ytokdaapmejccbaa
namespace Go.Proofs.Ytokdaapmejccbaa
open Go.RowKit
set_option linter.unusedVariables false
/-- What may be done: be empty, eat, fail. -/
abbrev Fa := Bool × Bool × Bool
def fcs (f : Fa) : Array Value := #[.bool f.1, .bool f.2.1, .bool f.2.2]
def fval (f : Fa) : Value := .agg (fcs f)
theorem fval_eq (a b c : Bool) : fval (a, b, c) = .agg #[.bool a, .bool b, .bool c] := rfl
theorem fcs_eq (a b c : Bool) : fcs (a, b, c) = #[.bool a, .bool b, .bool c] := rfl
def noF : Fa := (false, false, false)
def sucF (f : Fa) : Bool := f.1 || f.2.1
def thenF (a b : Fa) : Fa := (a.1 && b.1, (a.2.1 && sucF b || b.2.1 && sucF a), (a.2.2 || sucF a && b.2.2))
def orF (a b : Fa) : Fa := ((a.1 || a.2.2 && b.1), (a.2.1 || a.2.2 && b.2.1), (a.2.2 && b.2.2))
def againF (f : Fa) : Fa := (f.2.2, f.2.1, false)
def foldF (two : Fa → Fa → Fa) : List Fa → Fa
  | [] => noF
  | a :: l => if l = [] then a else two a (foldF two l)
/-- What a kind does with what its kids may. -/
def mayK (k : Int) (l : List Fa) : Fa :=
  if k = 5 then foldF thenF l else if k = 6 then foldF orF l
  else if k = 7 then againF (l.headD noF) else if k = 8 then thenF (l.headD noF) (againF (l.headD noF)) else if k = 9 then orF (l.headD noF) (true, false, false)
  else if k = 10 then (sucF (l.headD noF), false, (l.headD noF).2.2) else if k = 11 then ((l.headD noF).2.2, false, sucF (l.headD noF)) else noF
def Ex.may (R : ByteArray → Fa) : Ex → Fa
  | .mk k S t a c kids => if k = 1 then (true, false, false) else if k = 2 then (false, !noS S, true) else if k = 3 then (false, true, true) else if k = 4 then R t else mayK k (mayL R kids)
  where
  mayL (R : ByteArray → Fa) : List Ex → List Fa
    | [] => []
    | e :: r => Ex.may R e :: mayL R r
open Ex.may (mayL)
theorem may_eq (R : ByteArray → Fa) (e : Ex) : e.may R = if e.k = 1 then (true, false, false) else if e.k = 2 then (false, !noS e.S, true) else if e.k = 3 then (false, true, true) else if e.k = 4 then R e.t else mayK e.k (mayL R e.kids) := by
  cases e with
  | mk k S t a c kids => rw [Ex.may]; rfl
theorem mayL_map (R : ByteArray → Fa) : ∀ l : List Ex, mayL R l = l.map (Ex.may R)
  | [] => by rw [mayL]; rfl
  | e :: r => by rw [mayL, mayL_map R r]; rfl
/-- Well. -/
def Ex.iw (mb : Ex → Bool) (R : ByteArray → Bool) : Ex → Bool
  | .mk k S t a c kids => if k = 4 then R t else iwL mb R (decide (k = 5)) kids
  where
  iwL (mb : Ex → Bool) (R : ByteArray → Bool) (sq : Bool) : List Ex → Bool
    | [] => true
    | e :: r => if Ex.iw mb R e = false then false else if sq && !mb e then true else iwL mb R sq r
open Ex.iw (iwL)
theorem iw_eq (mb : Ex → Bool) (R : ByteArray → Bool) (e : Ex) : e.iw mb R = if e.k = 4 then R e.t else iwL mb R (decide (e.k = 5)) e.kids := by
  cases e with
  | mk k S t a c kids => rw [Ex.iw]; rfl
/-- Again and again what may be empty. -/
def Ex.lp (mb : Ex → Bool) : Ex → Bool
  | .mk k S t a c kids => lpL mb (decide (k = 7) || decide (k = 8)) kids
  where
  lpL (mb : Ex → Bool) (rep : Bool) : List Ex → Bool
    | [] => false
    | e :: r => (rep && mb e || Ex.lp mb e) || lpL mb rep r
open Ex.lp (lpL)
theorem lp_eq (mb : Ex → Bool) (e : Ex) : e.lp mb = lpL mb (decide (e.k = 7) || decide (e.k = 8)) e.kids := by
  cases e with
  | mk k S t a c kids => rw [Ex.lp]; rfl
/-- What is needed. -/
def Ex.nd (mb : Ex → Bool) (all : List (ByteArray × Ex)) : Ex → List Int
  | .mk k S t a c kids => if k = 4 then [fnd all t] else ndL mb all (decide (k = 5)) kids
  where
  ndL (mb : Ex → Bool) (all : List (ByteArray × Ex)) (sq : Bool) : List Ex → List Int
    | [] => []
    | e :: r => Ex.nd mb all e ++ (if sq && !mb e then [] else ndL mb all sq r)
open Ex.nd (ndL)
theorem nd_eq (mb : Ex → Bool) (all : List (ByteArray × Ex)) (e : Ex) : e.nd mb all = if e.k = 4 then [fnd all e.t] else ndL mb all (decide (e.k = 5)) e.kids := by
  cases e with
  | mk k S t a c kids => rw [Ex.nd]; rfl
theorem iw_nd (mb : Ex → Bool) (all : List (ByteArray × Ex)) (b : Int → Bool) : ∀ e : Ex, e.iw mb (fun s => b (fnd all s)) = (e.nd mb all).all b
  | .mk k S t a c kids => by
    rw [Ex.iw, Ex.nd]
    by_cases h : k = 4
    · rw [if_pos h, if_pos h]; simp
    · rw [if_neg h, if_neg h]; exact go mb all b (decide (k = 5)) kids
  where
  go (mb : Ex → Bool) (all : List (ByteArray × Ex)) (b : Int → Bool) (sq : Bool) : ∀ l : List Ex, iwL mb (fun s => b (fnd all s)) sq l = (ndL mb all sq l).all b
    | [] => by rw [iwL, ndL]; rfl
    | e :: r => by
      rw [iwL, ndL, List.all_append, ← iw_nd mb all b e]
      cases h1 : e.iw mb (fun s => b (fnd all s))
      · simp
      · cases h2 : (sq && !mb e)
        · simp [go mb all b sq r]
        · simp
/-- All its parts have their form, and name what P says. -/
def Ex.Ok (P : ByteArray → Prop) : Ex → Prop
  | .mk k S t a c kids => formOk (.mk k S t a c kids) = true ∧ (k = 4 → P t) ∧ OkL P kids
  where
  OkL (P : ByteArray → Prop) : List Ex → Prop
    | [] => True
    | e :: r => Ex.Ok P e ∧ OkL P r
open Ex.Ok (OkL)
theorem ok_eq (P : ByteArray → Prop) (e : Ex) : e.Ok P ↔ (formOk e = true ∧ (e.k = 4 → P e.t) ∧ OkL P e.kids) := by
  cases e with
  | mk k S t a c kids => rw [Ex.Ok]; exact Iff.rfl
theorem okL_mem {P : ByteArray → Prop} : ∀ (l : List Ex) (x : Ex), OkL P l → x ∈ l → x.Ok P
  | e :: r, x, h, hx => by
    rw [OkL] at h
    rcases List.mem_cons.1 hx with rfl | hx
    · exact h.1
    · exact okL_mem r x h.2 hx
theorem Ex.Ok.kid {P : ByteArray → Prop} {e x : Ex} (h : e.Ok P) (hx : x ∈ e.kids) : x.Ok P := okL_mem _ _ ((ok_eq P e).1 h).2.2 hx
theorem ok_of {P : ByteArray → Prop} : ∀ (e : Ex) (d : Int), (∀ x ∈ e.nodes d, formOk x.2 = true ∧ (x.2.k = 4 → P x.2.t)) → e.Ok P
  | .mk k S t a c kids, d, h => by
    rw [Ex.Ok]
    rw [nodes_eq] at h
    have h0 := h _ (List.mem_cons_self ..)
    exact ⟨h0.1, h0.2, go kids (wrap64 (d + 1)) fun x hx => h x (List.mem_cons_of_mem _ hx)⟩
  where
  go {P : ByteArray → Prop} : ∀ (l : List Ex) (d : Int), (∀ x ∈ Ex.nodes.nodesL d l, formOk x.2 = true ∧ (x.2.k = 4 → P x.2.t)) → OkL P l
    | [], _, _ => by rw [OkL]; trivial
    | e :: r, d, h => by
      rw [OkL]
      rw [Ex.nodes.nodesL] at h
      exact ⟨ok_of e d fun x hx => h x (List.mem_append_left _ hx), go r d fun x hx => h x (List.mem_append_right _ hx)⟩
theorem refsOf_mem : ∀ (l : List (Int × Ex)) (acc : List ByteArray) (s : ByteArray), (s ∈ acc ∨ ∃ x ∈ l, x.2.k = 4 ∧ x.2.t = s) → s ∈ l.foldl refStep acc
  | [], acc, s, h => by rcases h with h | ⟨x, hx, _⟩; exact h; cases hx
  | y :: l, acc, s, h => by
    rw [List.foldl_cons]
    refine refsOf_mem l _ s ?_
    have hstep : ∀ u, u ∈ acc → u ∈ refStep acc y := fun u hu => by unfold refStep; split; exact List.mem_append_left _ hu; exact hu
    rcases h with h | ⟨x, hx, hk, ht⟩
    · exact .inl (hstep s h)
    · rcases List.mem_cons.1 hx with rfl | hx
      · left
        unfold refStep
        by_cases hc : Lib.containsS acc x.2.t = false
        · rw [if_pos ⟨hk, hc⟩, ← ht]; simp
        · rw [if_neg (fun k => hc k.2)]
          have : Lib.containsS acc x.2.t = true := by simpa using hc
          rw [← ht]
          unfold Lib.containsS at this
          exact (Lib.idxOfS_nonneg_iff _ _).1 (by simpa using this)
      · exact .inr ⟨x, hx, hk, ht⟩
end Go.Proofs.Ytokdaapmejccbaa
namespace Go.Proofs.Ytokdaapmejccbaa
open Ex.may (mayL)
open Ex.iw (iwL)
set_option linter.unusedVariables false
/-- What is known of a rule is no more. -/
def bLe (a b : Bool) : Prop := a = true → b = true
def fLe (a b : Fa) : Prop := bLe a.1 b.1 ∧ bLe a.2.1 b.2.1 ∧ bLe a.2.2 b.2.2
def bRk (a : Bool) : Nat := if a then 1 else 0
def fRk (a : Fa) : Nat := bRk a.1 + bRk a.2.1 + bRk a.2.2
theorem bLat : Lat bLe bRk 1 := ⟨fun a h => h, fun a b c h k x => k (h x), fun a b h hne => by cases a <;> cases b <;> simp_all [bLe, bRk], fun a => by cases a <;> simp [bRk]⟩
theorem fLat : Lat fLe fRk 3 := ⟨fun a => ⟨fun h => h, fun h => h, fun h => h⟩, fun a b c h k => ⟨fun x => k.1 (h.1 x), fun x => k.2.1 (h.2.1 x), fun x => k.2.2 (h.2.2 x)⟩,
  fun a b h hne => by
    obtain ⟨a1, a2, a3⟩ := a
    obtain ⟨b1, b2, b3⟩ := b
    cases a1 <;> cases a2 <;> cases a3 <;> cases b1 <;> cases b2 <;> cases b3 <;> simp_all [fLe, bLe, fRk, bRk],
  fun a => by obtain ⟨a1, a2, a3⟩ := a; cases a1 <;> cases a2 <;> cases a3 <;> simp [fRk, bRk]⟩
def fSup (a b : Fa) : Fa := (a.1 || b.1, a.2.1 || b.2.1, a.2.2 || b.2.2)
theorem fSup_ok : Sup fLe fSup := ⟨fun a b => ⟨fun h => by simp [fSup, h], fun h => by simp [fSup, h], fun h => by simp [fSup, h]⟩, fun a b => ⟨fun h => by simp [fSup, h], fun h => by simp [fSup, h], fun h => by simp [fSup, h]⟩,
  fun a b c h k => ⟨fun x => by rcases Bool.or_eq_true_iff.1 x with x | x; exact h.1 x; exact k.1 x, fun x => by rcases Bool.or_eq_true_iff.1 x with x | x; exact h.2.1 x; exact k.2.1 x, fun x => by rcases Bool.or_eq_true_iff.1 x with x | x; exact h.2.2 x; exact k.2.2 x⟩⟩
theorem fLe_refl (a : Fa) : fLe a a := fLat.refl a
theorem noF_le (a : Fa) : fLe noF a := ⟨(fun h => by cases h), (fun h => by cases h), (fun h => by cases h)⟩
theorem no_le (a : Bool) : bLe false a := fun h => by cases h
theorem thenF_le {a b a' b' : Fa} (h : fLe a a') (k : fLe b b') : fLe (thenF a b) (thenF a' b') := by
  obtain ⟨a1, a2, a3⟩ := a
  obtain ⟨b1, b2, b3⟩ := b
  obtain ⟨c1, c2, c3⟩ := a'
  obtain ⟨d1, d2, d3⟩ := b'
  simp only [fLe, bLe, thenF, sucF, Bool.and_eq_true, Bool.or_eq_true] at *
  refine ⟨fun x => ⟨h.1 x.1, k.1 x.2⟩, fun x => ?_, fun x => ?_⟩
  · rcases x with ⟨x, y⟩ | ⟨x, y⟩
    · exact .inl ⟨h.2.1 x, y.imp (fun z => k.1 z) (fun z => k.2.1 z)⟩
    · exact .inr ⟨k.2.1 x, y.imp (fun z => h.1 z) (fun z => h.2.1 z)⟩
  · rcases x with x | ⟨x, y⟩
    · exact .inl (h.2.2 x)
    · exact .inr ⟨x.imp (fun z => h.1 z) (fun z => h.2.1 z), k.2.2 y⟩
theorem orF_le {a b a' b' : Fa} (h : fLe a a') (k : fLe b b') : fLe (orF a b) (orF a' b') := by
  obtain ⟨a1, a2, a3⟩ := a
  obtain ⟨b1, b2, b3⟩ := b
  obtain ⟨c1, c2, c3⟩ := a'
  obtain ⟨d1, d2, d3⟩ := b'
  simp only [fLe, bLe, orF, Bool.and_eq_true, Bool.or_eq_true] at *
  exact ⟨fun x => x.imp (fun z => h.1 z) (fun z => ⟨h.2.2 z.1, k.1 z.2⟩), fun x => x.imp (fun z => h.2.1 z) (fun z => ⟨h.2.2 z.1, k.2.1 z.2⟩), fun x => ⟨h.2.2 x.1, k.2.2 x.2⟩⟩
theorem againF_le {a a' : Fa} (h : fLe a a') : fLe (againF a) (againF a') := ⟨h.2.2, h.2.1, fun x => x⟩
theorem sucF_le {a a' : Fa} (h : fLe a a') : bLe (sucF a) (sucF a') := fun x => by
  unfold sucF at *
  rw [Bool.or_eq_true] at *
  exact x.imp (fun z => h.1 z) (fun z => h.2.1 z)
/-- Two lists of as many, each no more. -/
def FL : List Fa → List Fa → Prop
  | [], [] => True
  | a :: l, b :: m => fLe a b ∧ FL l m
  | _, _ => False
theorem foldF_le {two : Fa → Fa → Fa} (ht : ∀ a b a' b', fLe a a' → fLe b b' → fLe (two a b) (two a' b')) : ∀ l m : List Fa, FL l m → fLe (foldF two l) (foldF two m)
  | [], [], _ => by rw [foldF]; exact fLe_refl _
  | [], _ :: _, h => by cases h
  | _ :: _, [], h => by cases h
  | a :: l, b :: m, h => by
    rw [FL] at h
    rw [foldF, foldF]
    cases l with
    | nil =>
      cases m with
      | nil => simpa using h.1
      | cons y m => exact absurd h.2 (fun k => k)
    | cons x l =>
      cases m with
      | nil => exact absurd h.2 (fun k => k)
      | cons y m =>
        rw [if_neg (by simp), if_neg (by simp)]
        exact ht _ _ _ _ h.1 (foldF_le ht (x :: l) (y :: m) h.2)
theorem headD_le : ∀ l m : List Fa, FL l m → fLe (l.headD noF) (m.headD noF)
  | [], [], _ => fLe_refl _
  | [], _ :: _, h => by cases h
  | _ :: _, [], h => by cases h
  | a :: l, b :: m, h => by rw [FL] at h; exact h.1
theorem mayK_le (k : Int) {l m : List Fa} (h : FL l m) : fLe (mayK k l) (mayK k m) := by
  have h0 := headD_le l m h
  unfold mayK
  split
  · exact foldF_le (fun _ _ _ _ x y => thenF_le x y) l m h
  split
  · exact foldF_le (fun _ _ _ _ x y => orF_le x y) l m h
  split
  · exact againF_le h0
  split
  · exact thenF_le h0 (againF_le h0)
  split
  · exact orF_le h0 (fLe_refl _)
  split
  · exact ⟨sucF_le h0, fun x => x, h0.2.2⟩
  split
  · exact ⟨h0.2.2, fun x => x, sucF_le h0⟩
  · exact fLe_refl _
theorem may_le {R R' : ByteArray → Fa} (hR : ∀ s, fLe (R s) (R' s)) : ∀ e : Ex, fLe (e.may R) (e.may R')
  | .mk k S t a c kids => by
    rw [Ex.may, Ex.may]
    split
    · exact fLe_refl _
    split
    · exact fLe_refl _
    split
    · exact fLe_refl _
    split
    · exact hR _
    · exact mayK_le k (go hR kids)
  where
  go {R R' : ByteArray → Fa} (hR : ∀ s, fLe (R s) (R' s)) : ∀ l : List Ex, FL (mayL R l) (mayL R' l)
    | [] => by rw [mayL, mayL, FL]; trivial
    | e :: r => by rw [mayL, mayL, FL]; exact ⟨may_le hR e, go hR r⟩
theorem iw_le (mb : Ex → Bool) {R R' : ByteArray → Bool} (hR : ∀ s, bLe (R s) (R' s)) : ∀ e : Ex, bLe (e.iw mb R) (e.iw mb R')
  | .mk k S t a c kids => by
    rw [Ex.iw, Ex.iw]
    split
    · exact hR _
    · exact go mb hR _ kids
  where
  go (mb : Ex → Bool) {R R' : ByteArray → Bool} (hR : ∀ s, bLe (R s) (R' s)) (sq : Bool) : ∀ l : List Ex, bLe (iwL mb R sq l) (iwL mb R' sq l)
    | [] => by rw [iwL, iwL]; exact fun x => x
    | e :: r => by
      rw [iwL, iwL]
      intro x
      split at x
      · cases x
      · rename_i h1
        have h2 := iw_le mb hR e (by simpa using h1)
        rw [if_neg (by rw [h2]; simp)]
        split
        · rfl
        · rename_i h3
          rw [if_neg h3] at x
          exact go mb hR sq r x
/-- What a list says of a name. -/
def ofL {α : Type} (bot : α) (all : List (ByteArray × Ex)) (l : List α) (s : ByteArray) : α := l.getD (fnd all s).toNat bot
theorem ofL_le {α : Type} {le : α → α → Prop} {rk : α → Nat} {m : Nat} (L : Lat le rk m) (bot : α) (all : List (ByteArray × Ex)) {l l' : List α} (h : LeL le l l') (s : ByteArray) : le (ofL bot all l s) (ofL bot all l' s) := by
  unfold ofL
  rw [List.getD_eq_getElem?_getD, List.getD_eq_getElem?_getD]
  by_cases hi : (fnd all s).toNat < l.length
  · obtain ⟨x, hx⟩ : ∃ x, l[(fnd all s).toNat]? = some x := ⟨_, List.getElem?_eq_getElem hi⟩
    obtain ⟨y, hy⟩ : ∃ y, l'[(fnd all s).toNat]? = some y := ⟨_, List.getElem?_eq_getElem (by rw [← h.1]; exact hi)⟩
    rw [hx, hy]
    exact h.2 _ x y hx hy
  · have := h.1
    rw [List.getElem?_eq_none (by omega), List.getElem?_eq_none (by omega)]
    exact L.refl _
/-- What follows for rule i of what is known. -/
def mst (all : List (ByteArray × Ex)) (l : List Fa) (i : Nat) : Fa := match all[i]? with | none => noF | some r => r.2.may (ofL noF all l)
def wst (all : List (ByteArray × Ex)) (mb : Ex → Bool) (l : List Bool) (i : Nat) : Bool := match all[i]? with | none => false | some r => r.2.iw mb (ofL false all l)
theorem mst_at {all : List (ByteArray × Ex)} {l : List Fa} {i : Nat} {r : ByteArray × Ex} (h : all[i]? = some r) : mst all l i = r.2.may (ofL noF all l) := by unfold mst; rw [h]
theorem wst_at {all : List (ByteArray × Ex)} {mb : Ex → Bool} {l : List Bool} {i : Nat} {r : ByteArray × Ex} (h : all[i]? = some r) : wst all mb l i = r.2.iw mb (ofL false all l) := by unfold wst; rw [h]
theorem mst_mono (all : List (ByteArray × Ex)) : Mono fLe all.length (mst all) := fun l l' i _ h hi => by
  obtain ⟨r, hr⟩ : ∃ r, all[i]? = some r := ⟨_, List.getElem?_eq_getElem hi⟩
  rw [mst_at hr, mst_at hr]
  exact may_le (fun s => ofL_le fLat noF all h s) r.2
theorem wst_mono (all : List (ByteArray × Ex)) (mb : Ex → Bool) : Mono bLe all.length (wst all mb) := fun l l' i _ h hi => by
  obtain ⟨r, hr⟩ : ∃ r, all[i]? = some r := ⟨_, List.getElem?_eq_getElem hi⟩
  rw [wst_at hr, wst_at hr]
  exact iw_le mb (fun s => ofL_le bLat false all h s) r.2
end Go.Proofs.Ytokdaapmejccbaa
