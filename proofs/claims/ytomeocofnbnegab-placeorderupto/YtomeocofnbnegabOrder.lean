import Derived.Test.YtomeocofnbnegabLaw1
namespace Go.Proofs.Ytomeocofnbnegab
open Go.RowKit
/-- Line and column of the end of h. -/
def IsPos (h : List UInt8) (ln cl : Int) : Prop := ∃ A H, Tail h A H ∧ ln = 1 + (List.count 10 h : Nat) ∧ cl = 1 + (nS H : Nat)
theorem IsPos.ge {h : List UInt8} {ln cl : Int} (p : IsPos h ln cl) : 1 ≤ ln ∧ 1 ≤ cl := by
  obtain ⟨A, H, _, h1, h2⟩ := p; omega
theorem IsPos.uniq {h : List UInt8} {l c l' c' : Int} (p : IsPos h l c) (q : IsPos h l' c') : l = l' ∧ c = c' := by
  obtain ⟨A, H, T, h1, h2⟩ := p
  obtain ⟨A', H', T', h1', h2'⟩ := q
  have e := (T.uniq T').2
  subst e
  exact ⟨by rw [h1, h1'], by rw [h2, h2']⟩
theorem wid_cut (t : List UInt8) (p m : Nat) (hp : p < t.length) (h : p + wid (t.drop p) ≤ m) : wid ((t.take m).drop p) = wid (t.drop p) := by
  rw [List.drop_take]
  have hne : t.drop p ≠ [] := by
    intro e
    have := congrArg List.length e
    rw [List.length_drop, List.length_nil] at this
    omega
  have hw := wid_pos' hne
  cases hd : t.drop p with
  | nil => exact absurd hd hne
  | cons b r =>
    rw [hd] at h hw
    rw [show m - p = (m - p - 1) + 1 from by omega, List.take_succ_cons]
    exact wid_take b r _ (by omega)
theorem bp_mono (t : List UInt8) (k j : Nat) (hkj : k ≤ j) (hj : j ≤ nS t) : bp t k ≤ bp t j := by
  induction j with
  | zero => rw [show k = 0 from by omega]; exact Nat.le_refl _
  | succ j ih =>
    rcases Nat.lt_or_ge k (j + 1) with h | h
    · exact Nat.le_trans (ih (by omega) (by omega)) (Nat.le_of_lt (bp_step t j (by omega)))
    · rw [show k = j + 1 from by omega]; exact Nat.le_refl _
theorem bp_cut (t : List UInt8) (k j : Nat) (hkj : k ≤ j) (hj : j ≤ nS t) : bp (t.take (bp t j)) k = bp t k := by
  induction k with
  | zero => rfl
  | succ k ih =>
    have e := ih (by omega)
    show bp (t.take (bp t j)) k + wid ((t.take (bp t j)).drop (bp (t.take (bp t j)) k)) = bp t k + wid (t.drop (bp t k))
    rw [e, wid_cut t (bp t k) (bp t j) ((bp_runs t k (by omega)).2.2 (by omega)) (bp_mono t (k + 1) j hkj hj)]
theorem IsPos.lt {t : List UInt8} {i m : Nat} {lp cp lq cq : Int} (him : i < m) (hm : m ≤ nS t) (p : IsPos (t.take (bp t i)) lp cp) (q : IsPos (t.take (bp t m)) lq cq) : lp < lq ∨ (lp = lq ∧ cp < cq) := by
  obtain ⟨A, H, T, h1, h2⟩ := p
  obtain ⟨A', H', T', h1', h2'⟩ := q
  have hb1 := bp_step t i (by omega)
  have hb2 := bp_mono t (i + 1) m (by omega) hm
  have hle := (bp_runs t m hm).2.1
  obtain ⟨d, hd⟩ : ∃ d, d = (t.take (bp t m)).drop (bp t i) := ⟨_, rfl⟩
  have e1 : t.take (bp t m) = t.take (bp t i) ++ d := by
    rw [hd]
    conv => lhs; rw [← List.take_append_drop (bp t i) (t.take (bp t m))]
    rw [List.take_take, Nat.min_eq_left (by omega)]
  have hdl : d.length = bp t m - bp t i := by rw [hd, List.length_drop, List.length_take]; omega
  rcases Nat.eq_zero_or_pos (List.count 10 d) with hc | hc
  · right
    have hno : ∀ b ∈ d, b ≠ 10 := fun b hb e => by rw [e] at hb; exact List.count_eq_zero.1 hc hb
    have T2 : Tail (t.take (bp t m)) A (H ++ d) := by
      refine ⟨by rw [e1, T.eq, List.append_assoc], ?_, T.fin⟩
      intro b hb
      rcases List.mem_append.1 hb with hb | hb
      · exact T.no b hb
      · exact hno b hb
    have e2 := (T'.uniq T2).2
    obtain ⟨_, _, hrm⟩ := sign_at t m hm
    have hnm := nS_of hrm
    obtain ⟨_, _, hri⟩ := sign_at t i (by omega)
    have hr : Runs i (t.take (bp t i) ++ d) d := by
      have h3 := (bp_runs (t.take (bp t m)) i (by omega)).1
      rw [bp_cut t i m (by omega) hm, ← hd, e1] at h3
      exact h3
    have h4 := T.runs hr hri
    have h5 := nS_of (h4.trans (nS_runs d))
    have h6 : nS d ≠ 0 := by
      intro e
      have := nS_runs d
      rw [e] at this
      have h7 : d = [] := this
      rw [h7] at hdl
      simp at hdl
      omega
    rw [h1, h1', h2, h2', e2, h5, e1, List.count_append, hc]
    constructor <;> omega
  · left
    rw [h1, h1', e1, List.count_append]
    omega
theorem IsPos.nl {h : List UInt8} {l c : Int} (p : IsPos (h ++ [10]) l c) : c = 1 := by
  obtain ⟨A, H, T, _, h2⟩ := p
  have T2 : Tail (h ++ [10]) (h ++ [10]) [] := ⟨by simp, by simp, .inr ⟨h, rfl⟩⟩
  rw [h2, (T.uniq T2).2]; rfl
theorem take_nl (t : List UInt8) (y : Nat) (h : t[y]? = some 10) : t.take (y + 1) = t.take y ++ [10] := by
  obtain ⟨h1, h2⟩ := List.getElem?_eq_some_iff.1 h
  rw [List.take_succ_eq_append_getElem h1, h2]
theorem where_pos (s : ByteArray) (at' : Nat) (w : World) (hs : (s.size : Int) ≤ 1048576) (hat : at' ≤ s.size) :
    Calls Try.prog 5 #[.string s, .int .i64 at'] w fun e w' => ∃ ln cl : Int, e = .returned (.tuple #[.agg #[.int .i64 ln, .int .i64 cl], .int .i64 0]) ∧ IsPos (s.data.toList.take at') ln cl ∧ Below w.heap.size w w' :=
  (where_ok s at' w hs hat).mono fun _ _ ⟨A, H, hT, he, hb⟩ => ⟨_, _, he, ⟨A, H, hT, rfl, rfl⟩, hb⟩
end Go.Proofs.Ytomeocofnbnegab
