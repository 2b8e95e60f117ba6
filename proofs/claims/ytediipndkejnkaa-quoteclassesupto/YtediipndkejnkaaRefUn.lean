import Derived.Test.YtediipndkejnkaaPred
namespace Go.Proofs.Ytediipndkejnkaa
open Go.RowKit
attribute [local go_sem] setCell_drewN alloc_drewN
/-- A - that says a range stands at the beginning. -/
def dash (t : List UInt8) : Bool := decide (2 ≤ t.length) && decide (t.headD 0 = 45) && !decide (t.tail.headD 0 = 93)
theorem ucl_45 (acc : BitVec 256) : ucl [45] acc = none := by
  rw [ucl_on 45 [] acc (by decide) (by decide)]
  show ucl (List.drop (memberAt [45]).2.2 [45]) _ = none
  rw [show (memberAt [45]).2.2 = 1 from by decide]
  exact ucl_nil _
theorem ref_none (a : UInt8) (r : List UInt8) (acc : BitVec 256) (h93 : a ≠ 93) (h0 : (signAt cg (a :: r)).2 = 0) : ucl (a :: r) acc = none :=
  ucl_bad a r acc h93 (.inl (by rw [m_none _ h0]))
theorem ref_single (a : UInt8) (r : List UInt8) (acc : BitVec 256) (h93 : a ≠ 93) (h0 : (signAt cg (a :: r)).2 ≠ 0) (hd : dash ((a :: r).drop (signAt cg (a :: r)).2) = false) :
    ucl (a :: r) acc = ucl ((a :: r).drop (signAt cg (a :: r)).2) (acc ||| rng (signAt cg (a :: r)).1 (signAt cg (a :: r)).1) := by
  have hone := m_one (a :: r) h0
  have hbad := m_bad (a :: r) h0
  by_cases h1 : ¬ ((a :: r).drop (signAt cg (a :: r)).2).headD 0 = 45 ∨ ((a :: r).drop (signAt cg (a :: r)).2).tail.headD 0 = 93
  · have hm := hone h1
    rw [ucl_on a r acc h93 (by rw [hm]; show ¬ ((signAt cg (a :: r)).2 = 0 ∨ (signAt cg (a :: r)).1 < (signAt cg (a :: r)).1); omega), hm]
  · have h45 : ((a :: r).drop (signAt cg (a :: r)).2).headD 0 = 45 := Classical.byContradiction fun h => h1 (.inl h)
    have hn93 : ¬ ((a :: r).drop (signAt cg (a :: r)).2).tail.headD 0 = 93 := fun h => h1 (.inr h)
    have hshort : ((a :: r).drop (signAt cg (a :: r)).2) = [45] := by
      unfold dash at hd
      simp only [h45, hn93, decide_true, decide_false, Bool.not_false, Bool.and_true, decide_eq_false_iff_not] at hd
      match hD : (a :: r).drop (signAt cg (a :: r)).2, h45, hd with
      | [], h45, _ => exact absurd h45 (by decide)
      | [x], h45, _ => simp at h45; rw [h45]
      | x :: y :: z, _, hd => exact absurd (by simp) hd
    have hm := hbad h1 (by rw [← List.drop_drop, hshort]; rfl)
    rw [hshort, ucl_45]
    exact ucl_bad a r acc h93 (.inl (by rw [hm]))
theorem ref_pair_bad (a : UInt8) (r : List UInt8) (acc : BitVec 256) (h93 : a ≠ 93) (h0 : (signAt cg (a :: r)).2 ≠ 0) (hd : dash ((a :: r).drop (signAt cg (a :: r)).2) = true)
    (hb : (signAt cg ((a :: r).drop ((signAt cg (a :: r)).2 + 1))).2 = 0 ∨ (signAt cg ((a :: r).drop ((signAt cg (a :: r)).2 + 1))).1 < (signAt cg (a :: r)).1) : ucl (a :: r) acc = none := by
  unfold dash at hd
  simp only [Bool.and_eq_true, decide_eq_true_eq, Bool.not_eq_true', decide_eq_false_iff_not] at hd
  have h1 : ¬ (¬ ((a :: r).drop (signAt cg (a :: r)).2).headD 0 = 45 ∨ ((a :: r).drop (signAt cg (a :: r)).2).tail.headD 0 = 93) := fun h => by
    rcases h with h | h
    · exact h hd.1.2
    · exact hd.2 h
  by_cases hz : (signAt cg ((a :: r).drop ((signAt cg (a :: r)).2 + 1))).2 = 0
  · exact ucl_bad a r acc h93 (.inl (by rw [m_bad _ h0 h1 hz]))
  · have hm := m_two _ h0 h1 hz
    refine ucl_bad a r acc h93 (.inr ?_)
    rw [hm]
    show (signAt cg ((a :: r).drop ((signAt cg (a :: r)).2 + 1))).1 < (signAt cg (a :: r)).1
    rcases hb with hb | hb
    · exact absurd hb hz
    · exact hb
theorem ref_pair (a : UInt8) (r : List UInt8) (acc : BitVec 256) (h93 : a ≠ 93) (h0 : (signAt cg (a :: r)).2 ≠ 0) (hd : dash ((a :: r).drop (signAt cg (a :: r)).2) = true)
    (hz : (signAt cg ((a :: r).drop ((signAt cg (a :: r)).2 + 1))).2 ≠ 0) (hb : ¬ (signAt cg ((a :: r).drop ((signAt cg (a :: r)).2 + 1))).1 < (signAt cg (a :: r)).1) :
    ucl (a :: r) acc = ucl ((a :: r).drop ((signAt cg (a :: r)).2 + 1 + (signAt cg ((a :: r).drop ((signAt cg (a :: r)).2 + 1))).2)) (acc ||| rng (signAt cg (a :: r)).1 (signAt cg ((a :: r).drop ((signAt cg (a :: r)).2 + 1))).1) := by
  unfold dash at hd
  simp only [Bool.and_eq_true, decide_eq_true_eq, Bool.not_eq_true', decide_eq_false_iff_not] at hd
  have h1 : ¬ (¬ ((a :: r).drop (signAt cg (a :: r)).2).headD 0 = 45 ∨ ((a :: r).drop (signAt cg (a :: r)).2).tail.headD 0 = 93) := fun h => by
    rcases h with h | h
    · exact h hd.1.2
    · exact hd.2 h
  have hm := m_two _ h0 h1 hz
  rw [ucl_on a r acc h93 (by
    rw [hm]
    show ¬ ((signAt cg (a :: r)).2 + 1 + (signAt cg ((a :: r).drop ((signAt cg (a :: r)).2 + 1))).2 = 0 ∨ (signAt cg ((a :: r).drop ((signAt cg (a :: r)).2 + 1))).1 < (signAt cg (a :: r)).1)
    omega), hm]
theorem headD_at (s : ByteArray) (k : Nat) (h : k < s.size) : (s.data.toList.drop k).headD 0 = s[k] := by rw [drop_cons s k h]; rfl
theorem headD_over (s : ByteArray) (k : Nat) (h : s.size ≤ k) : (s.data.toList.drop k).headD 0 = 0 := by rw [List.drop_eq_nil_of_le (by rw [llen]; exact h)]; rfl
/-- Three reasons for no -, one for it. -/
theorem dash_at (s : ByteArray) (k : Nat) (h : k + 1 < s.size) : dash (s.data.toList.drop k) = (decide (s[k].toNat = 45) && !decide (s[k + 1].toNat = 93)) := by
  have h1 := headD_at s k (by omega)
  have h2 : (s.data.toList.drop k).tail.headD 0 = s[k + 1] := by rw [List.tail_drop]; exact headD_at s (k + 1) h
  unfold dash
  rw [h1, h2, List.length_drop, llen, decide_eq_true (show 2 ≤ s.size - k from by omega), Bool.true_and]
  have e1 : decide (s[k] = 45) = decide (s[k].toNat = 45) := by rw [decide_eq_decide]; exact ⟨fun e => by rw [e]; rfl, fun e => toNat_eq e⟩
  have e2 : decide (s[k + 1] = 93) = decide (s[k + 1].toNat = 93) := by rw [decide_eq_decide]; exact ⟨fun e => by rw [e]; rfl, fun e => toNat_eq e⟩
  rw [e1, e2]
theorem dash_over (s : ByteArray) (k : Nat) (h : s.size ≤ k + 1) : dash (s.data.toList.drop k) = false := by
  unfold dash
  rw [List.length_drop, llen, decide_eq_false (show ¬ 2 ≤ s.size - k from by omega)]; rfl
end Go.Proofs.Ytediipndkejnkaa
