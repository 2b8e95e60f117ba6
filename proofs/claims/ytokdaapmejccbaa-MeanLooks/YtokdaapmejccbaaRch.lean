import Derived.Test.YtokdaapmejccbaaRGram
namespace Go.Proofs.Ytokdaapmejccbaa
/-! What is come to. -/
/-- In k steps from i to j. -/
def Rk (nx : Nat → List Nat) : Nat → Nat → Nat → Prop
  | 0, i, j => i = j
  | k + 1, i, j => ∃ m, m ∈ nx i ∧ Rk nx k m j
def Rc (nx : Nat → List Nat) (i j : Nat) : Prop := ∃ k, Rk nx k i j
theorem Rc.refl (nx : Nat → List Nat) (i : Nat) : Rc nx i i := ⟨0, rfl⟩
theorem Rc.step {nx : Nat → List Nat} {i m j : Nat} (h : m ∈ nx i) (h2 : Rc nx m j) : Rc nx i j := by
  obtain ⟨k, hk⟩ := h2; exact ⟨k + 1, m, h, hk⟩
theorem Rk.snoc {nx : Nat → List Nat} : ∀ (k i m j : Nat), Rk nx k i m → j ∈ nx m → Rk nx (k + 1) i j
  | 0, i, m, j, h, hj => by rw [Rk] at h; subst h; exact ⟨j, hj, rfl⟩
  | k + 1, i, m, j, ⟨q, hq, h⟩, hj => ⟨q, hq, Rk.snoc k q m j h hj⟩
theorem Rc.snoc {nx : Nat → List Nat} {i m j : Nat} (h : Rc nx i m) (hj : j ∈ nx m) : Rc nx i j := by
  obtain ⟨k, hk⟩ := h; exact ⟨k + 1, Rk.snoc k i m j hk hj⟩
/-- Marks of more. -/
def Le (m m' : List Bool) : Prop := m'.length = m.length ∧ ∀ j : Nat, m[j]? = some true → m'[j]? = some true
theorem Le.refl (m : List Bool) : Le m m := ⟨rfl, fun _ h => h⟩
theorem Le.trans {a b c : List Bool} (h : Le a b) (k : Le b c) : Le a c := ⟨k.1.trans h.1, fun j hj => k.2 j (h.2 j hj)⟩
/-- All that a rule names is marked. -/
def At (nx : Nat → List Nat) (m : List Bool) (j : Nat) : Prop := ∀ k ∈ nx j, m[k]? = some true
theorem At.le {nx : Nat → List Nat} {m m' : List Bool} {j : Nat} (h : At nx m j) (hl : Le m m') : At nx m' j := fun k hk => hl.2 k (h k hk)
/-- What comeTo does. -/
structure CT (nx : Nat → List Nat) (i : Nat) (m m' : List Bool) : Prop where
  le : Le m m'
  own : m'[i]? = some true
  new : ∀ j : Nat, m'[j]? = some true → m[j]? = some true ∨ (At nx m' j ∧ Rc nx i j)
/-- Where its loop stands. -/
structure CL (nx : Nat → List Nat) (i t : Nat) (m0 m' : List Bool) : Prop where
  le : Le m0 m'
  done : ∀ k ∈ (nx i).take t, m'[k]? = some true
  new : ∀ j : Nat, m'[j]? = some true → m0[j]? = some true ∨ (At nx m' j ∧ Rc nx i j)
theorem CL.start (nx : Nat → List Nat) (i : Nat) (m0 : List Bool) : CL nx i 0 m0 m0 := ⟨Le.refl _, fun k hk => by simp at hk, fun _ h => .inl h⟩
theorem CL.next {nx : Nat → List Nat} {i t k : Nat} {m0 m m' : List Bool} (h : CL nx i t m0 m) (hk : (nx i)[t]? = some k) (hc : CT nx k m m') : CL nx i (t + 1) m0 m' := by
  refine ⟨h.le.trans hc.le, fun q hq => ?_, fun j hj => ?_⟩
  · rw [List.take_add_one, hk, Option.toList_some] at hq
    rcases List.mem_append.1 hq with hq | hq
    · exact hc.le.2 q (h.done q hq)
    · rw [List.mem_singleton.1 hq]; exact hc.own
  · rcases hc.new j hj with h1 | ⟨h1, h2⟩
    · rcases h.new j h1 with h3 | ⟨h3, h4⟩
      · exact .inl h3
      · exact .inr ⟨h3.le hc.le, h4⟩
    · exact .inr ⟨h1, Rc.step (List.mem_of_getElem? hk) h2⟩
theorem set_le (m : List Bool) (i : Nat) : Le m (m.set i true) := by
  refine ⟨by simp, fun j hj => ?_⟩
  rw [List.getElem?_set]
  split
  · rename_i h
    subst h
    have := (List.getElem?_eq_some_iff.1 hj).1
    simp [this]
  · exact hj
theorem CL.fin {nx : Nat → List Nat} {i : Nat} {m m' : List Bool} (hi : i < m.length) (h : CL nx i (nx i).length (m.set i true) m') : CT nx i m m' := by
  have hi' : m'[i]? = some true := h.le.2 i (by simp [hi])
  refine ⟨(set_le m i).trans h.le, hi', fun j hj => ?_⟩
  rcases h.new j hj with h1 | h1
  · by_cases hji : i = j
    · subst hji
      exact .inr ⟨fun k hk => h.done k (by rw [List.take_length]; exact hk), Rc.refl _ _⟩
    · rw [List.getElem?_set, if_neg hji] at h1
      exact .inl h1
  · exact .inr h1
theorem CT.same {nx : Nat → List Nat} {i : Nat} {m : List Bool} (h : m[i]? = some true) : CT nx i m m := ⟨Le.refl _, h, fun _ hj => .inl hj⟩
def cntF : List Bool → Nat
  | [] => 0
  | b :: l => (if b then 0 else 1) + cntF l
theorem cntF_le : ∀ (m m' : List Bool), Le m m' → cntF m' ≤ cntF m
  | [], m', h => by
    have : m' = [] := List.eq_nil_of_length_eq_zero h.1
    subst this; exact Nat.le_refl _
  | b :: l, [], h => by have := h.1; simp at this
  | b :: l, c :: l', h => by
    have ih := cntF_le l l' ⟨by have := h.1; simpa using this, fun j hj => by have := h.2 (j + 1) (by simpa using hj); simpa using this⟩
    rw [cntF, cntF]
    cases b with
    | false => cases c <;> simp <;> omega
    | true =>
      have := h.2 0 rfl
      simp at this
      subst this
      simpa using ih
theorem cntF_set : ∀ (m : List Bool) (i : Nat), m[i]? = some false → cntF (m.set i true) + 1 = cntF m
  | [], i, h => by simp at h
  | b :: l, 0, h => by simp at h; subst h; simp [cntF]; omega
  | b :: l, i + 1, h => by
    have := cntF_set l i (by simpa using h)
    rw [List.set_cons_succ, cntF, cntF]; omega
/-- Marks that say what is come to from the first. -/
def IsR (nx : Nat → List Nat) (n : Nat) (m : List Bool) : Prop := m.length = n ∧ ∀ j : Nat, j < n → (m[j]? = some true ↔ Rc nx 0 j)
theorem IsR.uniq {nx : Nat → List Nat} {n : Nat} {m m' : List Bool} (h : IsR nx n m) (h' : IsR nx n m') : m = m' := by
  refine List.ext_getElem? fun j => ?_
  by_cases hj : j < n
  · have h1 := h.2 j hj
    have h2 := h'.2 j hj
    rw [← h2] at h1
    have l1 : j < m.length := by rw [h.1]; exact hj
    have l2 : j < m'.length := by rw [h'.1]; exact hj
    rw [List.getElem?_eq_getElem l1, List.getElem?_eq_getElem l2] at h1 ⊢
    cases hm : m[j] <;> cases hm' : m'[j] <;> simp_all
  · rw [List.getElem?_eq_none (by rw [h.1]; omega), List.getElem?_eq_none (by rw [h'.1]; omega)]
theorem closed_all {nx : Nat → List Nat} {m : List Bool} (h0 : m[0]? = some true) (hc : ∀ j : Nat, m[j]? = some true → At nx m j) : ∀ j, Rc nx 0 j → m[j]? = some true := by
  have : ∀ (k i j : Nat), Rk nx k i j → m[i]? = some true → m[j]? = some true := by
    intro k
    induction k with
    | zero => intro i j h hi; rw [Rk] at h; subst h; exact hi
    | succ k ih => intro i j ⟨q, hq, h⟩ hi; exact ih q j h (hc i hi q hq)
  intro j ⟨k, hk⟩
  exact this k 0 j hk h0
theorem CT.isR {nx : Nat → List Nat} {n : Nat} {m' : List Bool} (h : CT nx 0 (List.replicate n false) m') : IsR nx n m' := by
  have hno : ∀ j : Nat, ¬ (List.replicate n false)[j]? = some true := by
    intro j hj
    rw [List.getElem?_replicate] at hj
    split at hj <;> simp at hj
  refine ⟨by have := h.le.1; simpa using this, fun j hj => ⟨fun h1 => ?_, fun h1 => ?_⟩⟩
  · rcases h.new j h1 with h2 | h2
    · exact absurd h2 (hno j)
    · exact h2.2
  · refine closed_all h.own (fun q hq => ?_) j h1
    rcases h.new q hq with h2 | h2
    · exact absurd h2 (hno q)
    · exact h2.1
/-! By rounds. -/
def Closed (nx : Nat → List Nat) (m : List Bool) : Prop := ∀ j : Nat, m[j]? = some true → At nx m j
def Sound (nx : Nat → List Nat) (m : List Bool) : Prop := m[0]? = some true ∧ ∀ j : Nat, m[j]? = some true → Rc nx 0 j
/-- Within a round that began with ms: the rules ahead of i are done, and t names of i. -/
structure RL (nx : Nat → List Nat) (ms : List Bool) (i t : Nat) (m : List Bool) : Prop where
  le : Le ms m
  sound : Sound nx m
  done : ∀ j : Nat, j < i → ms[j]? = some true → At nx m j
  now : ms[i]? = some true → ∀ k ∈ (nx i).take t, m[k]? = some true
  stay : Closed nx ms → Le m ms
theorem RL.start {nx : Nat → List Nat} {ms : List Bool} (h : Sound nx ms) : RL nx ms 0 0 ms := ⟨Le.refl _, h, fun j hj => absurd hj (by omega), fun _ k hk => by simp at hk, fun _ => Le.refl _⟩
theorem RL.rule {nx : Nat → List Nat} {ms m : List Bool} {i : Nat} (h : RL nx ms i (nx i).length m) : RL nx ms (i + 1) 0 m :=
  ⟨h.le, h.sound, fun j hj hm => by
    by_cases hji : j = i
    · subst hji; intro k hk; exact h.now hm k (by rw [List.take_length]; exact hk)
    · exact h.done j (by omega) hm, fun _ k hk => by simp at hk, h.stay⟩
theorem RL.skip {nx : Nat → List Nat} {ms m : List Bool} {i t : Nat} (h : RL nx ms i t m) (hi : ¬ m[i]? = some true) : RL nx ms i (t + 1) m :=
  ⟨h.le, h.sound, h.done, fun hm => absurd (h.le.2 i hm) hi, h.stay⟩
theorem RL.mark {nx : Nat → List Nat} {ms m : List Bool} {i t k : Nat} (h : RL nx ms i t m) (hi : m[i]? = some true) (hk : (nx i)[t]? = some k) (hkl : k < m.length) : RL nx ms i (t + 1) (m.set k true) := by
  have hle := set_le m k
  refine ⟨h.le.trans hle, ⟨hle.2 0 h.sound.1, fun j hj => ?_⟩, fun j hj hm => (h.done j hj hm).le hle, fun hm q hq => ?_, fun hc => ?_⟩
  · rw [List.getElem?_set] at hj
    split at hj
    · rename_i e; subst e
      exact (h.sound.2 i hi).snoc (List.mem_of_getElem? hk)
    · exact h.sound.2 j hj
  · rw [List.take_add_one, hk, Option.toList_some] at hq
    rcases List.mem_append.1 hq with hq | hq
    · exact hle.2 q (h.now hm q hq)
    · rw [List.mem_singleton.1 hq]
      rw [List.getElem?_set, if_pos rfl, if_pos hkl]
  · have h1 := h.stay hc
    refine ⟨by simpa using h1.1, fun j hj => ?_⟩
    rw [List.getElem?_set] at hj
    split at hj
    · rename_i e; subst e
      exact hc i (h1.2 i hi) k (List.mem_of_getElem? hk)
    · exact h1.2 j hj
theorem le_back : ∀ (m m' : List Bool), Le m m' → cntF m ≤ cntF m' → Le m' m
  | [], m', h, _ => by
    have : m' = [] := List.eq_nil_of_length_eq_zero h.1
    subst this; exact Le.refl _
  | b :: l, [], h, _ => by have := h.1; simp at this
  | b :: l, c :: l', h, hc => by
    have hl : Le l l' := ⟨by have := h.1; simpa using this, fun j hj => by have := h.2 (j + 1) (by simpa using hj); simpa using this⟩
    have h1 := cntF_le l l' hl
    rw [cntF, cntF] at hc
    have hbc : c = b := by
      cases b with
      | true =>
        have := h.2 0 rfl
        simpa using this
      | false =>
        cases c with
        | false => rfl
        | true => simp at hc; omega
    subst hbc
    have ih := le_back l l' hl (by omega)
    refine ⟨by have := ih.1; simpa using this, fun j hj => ?_⟩
    cases j with
    | zero => simpa using hj
    | succ j => have := ih.2 j (by simpa using hj); simpa using this
/-- Between rounds. -/
structure RP (nx : Nat → List Nat) (n t : Nat) (m : List Bool) : Prop where
  len : m.length = n
  sound : Sound nx m
  or : Closed nx m ∨ cntF m + t + 1 ≤ n
theorem RP.next {nx : Nat → List Nat} {n t : Nat} {ms m : List Bool} (h : RP nx n t ms) (hr : RL nx ms n 0 m) : RP nx n (t + 1) m := by
  refine ⟨hr.le.1.trans h.len, hr.sound, ?_⟩
  have hd : ∀ j : Nat, ms[j]? = some true → At nx m j := fun j hj => hr.done j (by have := (List.getElem?_eq_some_iff.1 hj).1; rw [h.len] at this; exact this) hj
  by_cases hc : Closed nx ms
  · exact .inl fun j hj => hd j ((hr.stay hc).2 j hj)
  · right
    have h1 := h.or.resolve_left hc
    have h2 := cntF_le ms m hr.le
    by_cases he : cntF ms ≤ cntF m
    · have hb := le_back ms m hr.le he
      exact absurd (fun j hj => (hd j hj).le hb) hc
    · omega
theorem RP.isR {nx : Nat → List Nat} {n : Nat} {m : List Bool} (h : RP nx n n m) : IsR nx n m := by
  have hc := h.or.resolve_right (by omega)
  exact ⟨h.len, fun j _ => ⟨fun h1 => h.sound.2 j h1, closed_all h.sound.1 hc j⟩⟩
theorem cntF_rep : ∀ n : Nat, cntF (List.replicate n false) = n
  | 0 => rfl
  | n + 1 => by rw [List.replicate_succ, cntF, cntF_rep n]; simp; omega
theorem RP.start (nx : Nat → List Nat) (n : Nat) (hn : 0 < n) : RP nx n 0 ((List.replicate n false).set 0 true) := by
  refine ⟨by simp, ⟨by simp [hn], fun j hj => ?_⟩, .inr ?_⟩
  · rw [List.getElem?_set] at hj
    split at hj
    · rename_i e; subst e; exact Rc.refl _ _
    · rw [List.getElem?_replicate] at hj
      split at hj <;> simp at hj
  · have := cntF_set (List.replicate n false) 0 (by simp [hn])
    rw [cntF_rep] at this
    omega
/-! Of a grammar. -/
def nxt (all : List (ByteArray × Ex)) (i : Nat) : List Nat :=
  match all[i]? with
  | some r => (insR all r.2).map Int.toNat
  | none => []
theorem nxt_at {all : List (ByteArray × Ex)} {i : Nat} {r : ByteArray × Ex} (h : all[i]? = some r) : nxt all i = (insR all r.2).map Int.toNat := by unfold nxt; rw [h]
theorem named_mem {all : List (ByteArray × Ex)} : ∀ (l : List (ByteArray × Ex)), named all l = true → ∀ r ∈ l, namedI (insR all r.2) = true
  | [], _, r, h => by cases h
  | x :: l, h, r, hr => by
    rw [named, Bool.and_eq_true] at h
    rcases List.mem_cons.1 hr with rfl | hr
    · exact h.1
    · exact named_mem l h.2 r hr
structure GOk (all : List (ByteArray × Ex)) : Prop where
  pos : 0 < all.length
  most : all.length ≤ 10
  rules : ∀ (j : Nat) (r : ByteArray × Ex), all[j]? = some r → ruleChk all j r = 0
  count : gcount all ≤ 120
  names : ∀ (j : Nat) (r : ByteArray × Ex), all[j]? = some r → ∀ x ∈ insR all r.2, ∃ k : Nat, x = (k : Int) ∧ k < all.length
theorem gcheck_ok {all : List (ByteArray × Ex)} (h : gcheck all = 0) : GOk all := by
  unfold gcheck at h
  split at h
  · cases h
  rename_i h0
  split at h
  · cases h
  rename_i h10
  split at h
  · rename_i h1; exact absurd h h1
  rename_i h1
  split at h
  · cases h
  rename_i h2
  split at h
  · rename_i h3
    refine ⟨by omega, by omega, fun j r hr => ?_, by omega, fun j r hr x hx => ?_⟩
    · have := rulesChk_zero all 0 (by simpa using h1) j r hr
      rwa [Nat.zero_add] at this
    · have h4 := named_mem all h3 r (List.mem_of_getElem? hr)
      have h5 := List.all_eq_true.1 h4 x hx
      unfold insR at hx
      obtain ⟨s, _, rfl⟩ := List.mem_map.1 hx
      rcases fnd_neg all s with h6 | h6
      · rw [h6] at h5; simp at h5
      · exact ⟨(fnd all s).toNat, by omega, by omega⟩
  · cases h
theorem nxt_lt {all : List (ByteArray × Ex)} (h : GOk all) (i k : Nat) (hk : k ∈ nxt all i) : k < all.length := by
  unfold nxt at hk
  split at hk
  · rename_i r hr
    obtain ⟨x, hx, rfl⟩ := List.mem_map.1 hk
    obtain ⟨k, rfl, hk2⟩ := h.names i r hr x hx
    simpa using hk2
  · cases hk
theorem insR_nxt {all : List (ByteArray × Ex)} (h : GOk all) {i : Nat} {r : ByteArray × Ex} (hr : all[i]? = some r) : insR all r.2 = (nxt all i).map fun k : Nat => (k : Int) := by
  rw [nxt_at hr, List.map_map]
  refine (List.map_id _).symm.trans (List.map_congr_left fun x hx => ?_)
  obtain ⟨k, rfl, _⟩ := h.names i r hr x hx
  rfl
end Go.Proofs.Ytokdaapmejccbaa
