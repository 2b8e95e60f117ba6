import Derived.Test.YtbeohmcmphebhaaDoorXUPred
namespace Go.Proofs.YtbeohmcmphebhaaDoor
open Go.RowKit
attribute [local go_sem] setCell_drewN alloc_drewN
/-- A - that says a range stands at the beginning. -/
def dash (t : List UInt8) : Bool := decide (2 ≤ t.length) && decide (t.headD 0 = 45) && !decide (t.tail.headD 0 = 93)
theorem ucl_45 (acc : BitVec 256) : ucl [45] acc = none := by
  rw [ucl_on 45 [] acc (by decide) (by decide)]
  show ucl (List.drop (memberAt [45]).2.2 [45]) _ = none
  rw [show (memberAt [45]).2.2 = 1 from by decide]
  exact ucl_nil _
theorem ref_none (a : UInt8) (r : List UInt8) (acc : BitVec 256) (h93 : a ≠ 93) (h0 : (signAt cg (a :: r)).2 = 0) : ucl (a :: r) acc = none :=
  ucl_bad a r acc h93 (.inl (by rw [m_none _ h0]))
theorem ref_single (a : UInt8) (r : List UInt8) (acc : BitVec 256) (h93 : a ≠ 93) (h0 : (signAt cg (a :: r)).2 ≠ 0) (hd : dash ((a :: r).drop (signAt cg (a :: r)).2) = false) :
    ucl (a :: r) acc = ucl ((a :: r).drop (signAt cg (a :: r)).2) (acc ||| rng (signAt cg (a :: r)).1 (signAt cg (a :: r)).1) := by
  have hone := m_one (a :: r) h0
  have hbad := m_bad (a :: r) h0
  by_cases h1 : ¬ ((a :: r).drop (signAt cg (a :: r)).2).headD 0 = 45 ∨ ((a :: r).drop (signAt cg (a :: r)).2).tail.headD 0 = 93
  · have hm := hone h1
    rw [ucl_on a r acc h93 (by rw [hm]; show ¬ ((signAt cg (a :: r)).2 = 0 ∨ (signAt cg (a :: r)).1 < (signAt cg (a :: r)).1); omega), hm]
  · have h45 : ((a :: r).drop (signAt cg (a :: r)).2).headD 0 = 45 := Classical.byContradiction fun h => h1 (.inl h)
    have hn93 : ¬ ((a :: r).drop (signAt cg (a :: r)).2).tail.headD 0 = 93 := fun h => h1 (.inr h)
    have hshort : ((a :: r).drop (signAt cg (a :: r)).2) = [45] := by
      unfold dash at hd
      simp only [h45, hn93, decide_true, decide_false, Bool.not_false, Bool.and_true, decide_eq_false_iff_not] at hd
      match hD : (a :: r).drop (signAt cg (a :: r)).2, h45, hd with
      | [], h45, _ => exact absurd h45 (by decide)
      | [x], h45, _ => simp at h45; rw [h45]
      | x :: y :: z, _, hd => exact absurd (by simp) hd
    have hm := hbad h1 (by rw [← List.drop_drop, hshort]; rfl)
    rw [hshort, ucl_45]
    exact ucl_bad a r acc h93 (.inl (by rw [hm]))
theorem ref_pair_bad (a : UInt8) (r : List UInt8) (acc : BitVec 256) (h93 : a ≠ 93) (h0 : (signAt cg (a :: r)).2 ≠ 0) (hd : dash ((a :: r).drop (signAt cg (a :: r)).2) = true)
    (hb : (signAt cg ((a :: r).drop ((signAt cg (a :: r)).2 + 1))).2 = 0 ∨ (signAt cg ((a :: r).drop ((signAt cg (a :: r)).2 + 1))).1 < (signAt cg (a :: r)).1) : ucl (a :: r) acc = none := by
  unfold dash at hd
  simp only [Bool.and_eq_true, decide_eq_true_eq, Bool.not_eq_true', decide_eq_false_iff_not] at hd
  have h1 : ¬ (¬ ((a :: r).drop (signAt cg (a :: r)).2).headD 0 = 45 ∨ ((a :: r).drop (signAt cg (a :: r)).2).tail.headD 0 = 93) := fun h => by
    rcases h with h | h
    · exact h hd.1.2
    · exact hd.2 h
  by_cases hz : (signAt cg ((a :: r).drop ((signAt cg (a :: r)).2 + 1))).2 = 0
  · exact ucl_bad a r acc h93 (.inl (by rw [m_bad _ h0 h1 hz]))
  · have hm := m_two _ h0 h1 hz
    refine ucl_bad a r acc h93 (.inr ?_)
    rw [hm]
    show (signAt cg ((a :: r).drop ((signAt cg (a :: r)).2 + 1))).1 < (signAt cg (a :: r)).1
    rcases hb with hb | hb
    · exact absurd hb hz
    · exact hb
theorem ref_pair (a : UInt8) (r : List UInt8) (acc : BitVec 256) (h93 : a ≠ 93) (h0 : (signAt cg (a :: r)).2 ≠ 0) (hd : dash ((a :: r).drop (signAt cg (a :: r)).2) = true)
    (hz : (signAt cg ((a :: r).drop ((signAt cg (a :: r)).2 + 1))).2 ≠ 0) (hb : ¬ (signAt cg ((a :: r).drop ((signAt cg (a :: r)).2 + 1))).1 < (signAt cg (a :: r)).1) :
    ucl (a :: r) acc = ucl ((a :: r).drop ((signAt cg (a :: r)).2 + 1 + (signAt cg ((a :: r).drop ((signAt cg (a :: r)).2 + 1))).2)) (acc ||| rng (signAt cg (a :: r)).1 (signAt cg ((a :: r).drop ((signAt cg (a :: r)).2 + 1))).1) := by
  unfold dash at hd
  simp only [Bool.and_eq_true, decide_eq_true_eq, Bool.not_eq_true', decide_eq_false_iff_not] at hd
  have h1 : ¬ (¬ ((a :: r).drop (signAt cg (a :: r)).2).headD 0 = 45 ∨ ((a :: r).drop (signAt cg (a :: r)).2).tail.headD 0 = 93) := fun h => by
    rcases h with h | h
    · exact h hd.1.2
    · exact hd.2 h
  have hm := m_two _ h0 h1 hz
  rw [ucl_on a r acc h93 (by
    rw [hm]
    show ¬ ((signAt cg (a :: r)).2 + 1 + (signAt cg ((a :: r).drop ((signAt cg (a :: r)).2 + 1))).2 = 0 ∨ (signAt cg ((a :: r).drop ((signAt cg (a :: r)).2 + 1))).1 < (signAt cg (a :: r)).1)
    omega), hm]
theorem headD_at (s : ByteArray) (k : Nat) (h : k < s.size) : (s.data.toList.drop k).headD 0 = s[k] := by rw [drop_cons s k h]; rfl
theorem headD_over (s : ByteArray) (k : Nat) (h : s.size ≤ k) : (s.data.toList.drop k).headD 0 = 0 := by rw [List.drop_eq_nil_of_le (by rw [llen]; exact h)]; rfl
/-- Three reasons for no -, one for it. -/
theorem dash_at (s : ByteArray) (k : Nat) (h : k + 1 < s.size) : dash (s.data.toList.drop k) = (decide (s[k].toNat = 45) && !decide (s[k + 1].toNat = 93)) := by
  have h1 := headD_at s k (by omega)
  have h2 : (s.data.toList.drop k).tail.headD 0 = s[k + 1] := by rw [List.tail_drop]; exact headD_at s (k + 1) h
  unfold dash
  rw [h1, h2, List.length_drop, llen, decide_eq_true (show 2 ≤ s.size - k from by omega), Bool.true_and]
  have e1 : decide (s[k] = 45) = decide (s[k].toNat = 45) := by rw [decide_eq_decide]; exact ⟨fun e => by rw [e]; rfl, fun e => toNat_eq e⟩
  have e2 : decide (s[k + 1] = 93) = decide (s[k + 1].toNat = 93) := by rw [decide_eq_decide]; exact ⟨fun e => by rw [e]; rfl, fun e => toNat_eq e⟩
  rw [e1, e2]
theorem dash_over (s : ByteArray) (k : Nat) (h : s.size ≤ k + 1) : dash (s.data.toList.drop k) = false := by
  unfold dash
  rw [List.length_drop, llen, decide_eq_false (show ¬ 2 ≤ s.size - k from by omega)]; rfl
end Go.Proofs.YtbeohmcmphebhaaDoor
namespace Go.Proofs.YtbeohmcmphebhaaDoor
open Go.RowKit
attribute [local go_sem] setCell_drewN alloc_drewN
theorem gd_cg_lt (c : UInt8) (h : gd cg c = true) : c.toNat < 128 := by
  simp only [gd, cg, Lib.indexByte] at h
  by_cases h1 : (91 : UInt8) == c
  · have := beq_iff_eq.1 h1; subst this; decide
  · by_cases h2 : (93 : UInt8) == c
    · have := beq_iff_eq.1 h2; subst this; decide
    · by_cases h3 : (45 : UInt8) == c
      · have := beq_iff_eq.1 h3; subst this; decide
      · by_cases h4 : (94 : UInt8) == c
        · have := beq_iff_eq.1 h4; subst this; decide
        · by_cases h5 : (92 : UInt8) == c
          · have := beq_iff_eq.1 h5; subst this; decide
          · simp [h1, h2, h3, h4, h5] at h
set_option maxRecDepth 20000 in
set_option maxHeartbeats 1000000 in
theorem runclass_no (s : ByteArray) (w : World) (h : s.data.toList.headD 0 ≠ 91) :
    Calls Tryd.prog 30 #[.string s] w fun e w' => e = .returned (.tuple #[.agg #[.int .u64 0, .int .u64 0, .int .u64 0, .int .u64 0], .int .i64 0, .int .i64 4]) ∧ Below w.heap.size w w' := by
  by_cases h0 : s.size = 0
  · obtain rfl := empty_of s h0
    clear h h0
    go_enter Tryd.func30, Tryd.ntmps30
    go_wp2_with fail
    refine (bad_any _).mono ?_
    rintro e w1 ⟨rfl, hb⟩
    have hL := (Lies.new w #[.int .u64 0, .int .u64 0, .int .u64 0, .int .u64 0]).below hb (by simp)
    have hB : Below w.heap.size w w1 := ((Below.refl w.heap.size w).alloc (Nat.le_refl _) _).trans (hb.mono (by simp))
    have hc := hL.cell
    have hf := hL.frozen
    have hlt := hL.lt
    clear hb
    go_wp2_with fail
    exact bodyPost_ret (v := .tuple #[.agg #[.int .u64 0, .int .u64 0, .int .u64 0, .int .u64 0], .int .i64 0, .int .i64 4]) (by simp [results, Tryd.results30, go_sem, hc]) rfl ⟨rfl, (((hB.setCell (by simp) _).setCell (by simp) _).setCell (by simp) _).setCell (by simp) _⟩
  · have he := nonempty s h0
    have h1 : 0 < s.size := by omega
    have h1' : (0 : Int) < s.size := by omega
    have h91 : s[0].toNat ≠ 91 := fun e => h (by have := headD_at s 0 h1; rw [List.drop_zero] at this; rw [this]; exact toNat_eq e)
    have hx : ((s[0].toNat : Int) != 91) = true := by simp; omega
    clear h h91
    go_enter Tryd.func30, Tryd.ntmps30
    go_wp2_with fail
    refine (bad_any _).mono ?_
    rintro e w1 ⟨rfl, hb⟩
    have hL := (Lies.new w #[.int .u64 0, .int .u64 0, .int .u64 0, .int .u64 0]).below hb (by simp)
    have hB : Below w.heap.size w w1 := ((Below.refl w.heap.size w).alloc (Nat.le_refl _) _).trans (hb.mono (by simp))
    have hc := hL.cell
    have hf := hL.frozen
    have hlt := hL.lt
    clear hb
    go_wp2_with fail
    exact bodyPost_ret (v := .tuple #[.agg #[.int .u64 0, .int .u64 0, .int .u64 0, .int .u64 0], .int .i64 0, .int .i64 4]) (by simp [results, Tryd.results30, go_sem, hc]) rfl ⟨rfl, (((hB.setCell (by simp) _).setCell (by simp) _).setCell (by simp) _).setCell (by simp) _⟩
theorem oth_yes (s : ByteArray) (h : 1 < s.size) : others s.data.toList = decide (s[1].toNat = 94) := by
  unfold others; rw [headD_at s 1 h, decide_eq_decide]; exact ⟨fun e => by rw [e]; rfl, fun e => toNat_eq e⟩
theorem oth_no (s : ByteArray) (h : ¬ 1 < s.size) : others s.data.toList = false := by
  unfold others; rw [headD_over s 1 (by omega)]; rfl
theorem within_at (s : ByteArray) : within s.data.toList = s.data.toList.drop (if others s.data.toList then 2 else 1) := by
  unfold within others
  by_cases e : (s.data.toList.drop 1).headD 0 = 94
  · rw [if_pos e, decide_eq_true e]; rfl
  · rw [if_neg e, decide_eq_false e]; rfl
/-- A block of the call's own that may be written. -/
def Blk (w : World) (N : Nat) (A : Array Value) (T : TypeId) : Prop := w.heap[N]? = some (.cells A T (0, 0))
theorem Blk.cell {w : World} {N : Nat} {A : Array Value} {T : TypeId} (h : Blk w N A T) (o : Nat) : w.cell? ⟨N, o, none⟩ = A[o]? := by
  unfold Blk at h
  simp [World.cell?, h]
theorem Blk.frozen {w : World} {N : Nat} {A : Array Value} {T : TypeId} (h : Blk w N A T) (o : Nat) : w.frozen? ⟨N, o, none⟩ = false := by
  unfold Blk at h
  simp [World.frozen?, h]
theorem Blk.lt {w : World} {N : Nat} {A : Array Value} {T : TypeId} (h : Blk w N A T) : N < w.heap.size := by
  unfold Blk at h
  rcases Nat.lt_or_ge N w.heap.size with h1 | h1
  · exact h1
  · rw [Array.getElem?_eq_none h1] at h; cases h
theorem Blk.below {W w' : World} {N B : Nat} {A : Array Value} {T : TypeId} (h : Blk W N A T) (hb : Below B W w') (hN : N < B) : Blk w' N A T := by
  unfold Blk at h ⊢
  rw [hb.block N hN]; exact h
theorem Blk.alloc {w : World} {N : Nat} {A : Array Value} {T : TypeId} (h : Blk w N A T) (o : Obj) : Blk (w.alloc o) N A T := by
  have := h.lt
  unfold Blk at h ⊢
  rw [Below.heap_alloc _ _ _ this]; exact h
theorem Blk.drew {w : World} {N : Nat} {A : Array Value} {T : TypeId} (h : Blk w N A T) : Blk w.drew N A T := h
theorem Blk.new (w : World) (A : Array Value) (T : TypeId) : Blk (w.alloc (.cells A T)) w.heap.size A T := by
  show (w.heap.push _)[w.heap.size]? = _
  simp
theorem Blk.grown {w w' : World} {N : Nat} {A : Array Value} {T : TypeId} {row : Option Nat} (h : Blk w N A T) (hg : w.grownBy w' row) (hr : some N ≠ row) : Blk w' N A T := by
  have := h.lt
  unfold Blk at h ⊢
  rw [hg.block N this hr]; exact h
theorem Blk.set {w : World} {N : Nat} {A : Array Value} {T : TypeId} (h : Blk w N A T) (i : Nat) (v : Value) : Blk (w.setCell ⟨N, i, none⟩ v) N (A.setIfInBounds i v) T := by
  unfold Blk at h ⊢
  simp [World.setCell, Array.getElem?_modify, h]
theorem Blk.other {w : World} {N M : Nat} {A : Array Value} {T : TypeId} (h : Blk w N A T) (i : Nat) (v : Value) (hne : N ≠ M) : Blk (w.setCell ⟨M, i, none⟩ v) N A T := by
  unfold Blk at h ⊢
  rw [Below.heap_setCell _ _ _ _ (by simpa using hne)]; exact h
theorem Pairs.other {w : World} {base M : Nat} {v : Value} {l : List (Nat × Nat)} (h : Pairs w base v l) (i : Nat) (u : Value) (hM : M < base) : Pairs (w.setCell ⟨M, i, none⟩ u) base v l := by
  obtain ⟨h1, h2⟩ := h
  refine ⟨h1, ?_⟩
  rcases h2 with h2 | ⟨g, cap, cur, hv, hg, hh, r⟩
  · exact Or.inl h2
  · refine Or.inr ⟨g, cap, cur, hv, hg, ?_, r⟩
    rw [Below.heap_setCell _ _ _ _ (by show g ≠ M; omega)]; exact hh
theorem Tryd.info89 : (Tryd.prog.info? 89).map (fun i => (i.zero, i.size, i.bytes)) = some (some (.agg #[.int .i64 0, .int .i64 0]), 2, 16) := by kernel_rfl
/-- All that the call of Unclass keeps. -/
structure Kept (w wx : World) (oth : Bool) (v : Value) (l : List (Nat × Nat)) : Prop where
  B : Below w.heap.size w wx
  res : Blk wx w.heap.size #[.int .u64 0, .int .u64 0, .int .u64 0, .int .u64 0] 24
  no : Blk wx (w.heap.size + 1) #[.bool oth] 4
  sp : Blk wx (w.heap.size + 1 + 1) #[v] 88
  pairs : Pairs wx (w.heap.size + 3) v l
theorem Kept.call {w wx w' : World} {oth : Bool} {v : Value} {l : List (Nat × Nat)} (h : Kept w wx oth v l) (hb : Below wx.heap.size wx w') : Kept w w' oth v l :=
  ⟨b_call h.B hb, h.res.below hb h.res.lt, h.no.below hb h.no.lt, h.sp.below hb h.sp.lt, h.pairs.below hb⟩
theorem ucl_93 (s : ByteArray) (k : Nat) (acc : BitVec 256) (hk : k < s.size) (h : s[k].toNat = 93) : ucl (s.data.toList.drop k) acc = some (acc, s.size - k) := by
  rw [drop_cons s k hk, show s[k] = 93 from toNat_eq h, ucl_end, List.length_drop, llen]
  congr 2; omega
theorem ucl_0 (s : ByteArray) (k : Nat) (acc : BitVec 256) (hk : s.size ≤ k) : ucl (s.data.toList.drop k) acc = none := by
  rw [List.drop_eq_nil_of_le (by rw [llen]; exact hk), ucl_nil]
theorem u_none (s : ByteArray) (k : Nat) (acc : BitVec 256) (hk : k < s.size) (h : s[k].toNat ≠ 93) (h0 : (signAt cg (s.data.toList.drop k)).2 = 0) : ucl (s.data.toList.drop k) acc = none := by
  rw [drop_cons s k hk] at h0 ⊢
  exact ref_none _ _ acc (fun e => h (by rw [e]; rfl)) h0
theorem u_single (s : ByteArray) (k : Nat) (l : List (Nat × Nat)) (hk : k < s.size) (h : s[k].toNat ≠ 93) (P : Nat × Nat) (hP : signAt cg (s.data.toList.drop k) = P) (h0 : P.2 ≠ 0) (hd : dash (s.data.toList.drop (k + P.2)) = false) :
    ucl (s.data.toList.drop k) (setOf l) = ucl (s.data.toList.drop (k + P.2)) (setOf (l ++ [(P.1, P.1)])) := by
  subst hP
  rw [setOf_snoc, ← List.drop_drop]
  rw [← List.drop_drop] at hd
  have e := drop_cons s k hk
  generalize s.data.toList.drop k = D at *
  subst e
  exact ref_single _ _ _ (fun e => h (by rw [e]; rfl)) h0 hd
theorem u_bad (s : ByteArray) (k : Nat) (acc : BitVec 256) (hk : k < s.size) (h : s[k].toNat ≠ 93) (P Q : Nat × Nat) (hP : signAt cg (s.data.toList.drop k) = P) (h0 : P.2 ≠ 0) (hd : dash (s.data.toList.drop (k + P.2)) = true)
    (hQ : signAt cg (s.data.toList.drop (k + P.2 + 1)) = Q) (hb : Q.2 = 0 ∨ Q.1 < P.1) : ucl (s.data.toList.drop k) acc = none := by
  subst hP
  subst hQ
  rw [Nat.add_assoc, ← List.drop_drop] at hb
  rw [← List.drop_drop] at hd
  have e := drop_cons s k hk
  generalize s.data.toList.drop k = D at *
  subst e
  exact ref_pair_bad _ _ _ (fun e => h (by rw [e]; rfl)) h0 hd hb
theorem u_pair (s : ByteArray) (k : Nat) (l : List (Nat × Nat)) (hk : k < s.size) (h : s[k].toNat ≠ 93) (P Q : Nat × Nat) (hP : signAt cg (s.data.toList.drop k) = P) (h0 : P.2 ≠ 0) (hd : dash (s.data.toList.drop (k + P.2)) = true)
    (hQ : signAt cg (s.data.toList.drop (k + P.2 + 1)) = Q) (hz : Q.2 ≠ 0) (hb : ¬ Q.1 < P.1) : ucl (s.data.toList.drop k) (setOf l) = ucl (s.data.toList.drop (k + P.2 + (Q.2 + 1))) (setOf (l ++ [(P.1, Q.1)])) := by
  have eQ : s.data.toList.drop (k + P.2 + 1) = (s.data.toList.drop k).drop (P.2 + 1) := by rw [List.drop_drop, Nat.add_assoc]
  have e2 : s.data.toList.drop (k + P.2 + (Q.2 + 1)) = (s.data.toList.drop k).drop (P.2 + 1 + Q.2) := by rw [List.drop_drop]; congr 1; omega
  have e3 : s.data.toList.drop (k + P.2) = (s.data.toList.drop k).drop P.2 := by rw [List.drop_drop]
  rw [eQ] at hQ
  rw [e3] at hd
  rw [e2, setOf_snoc]
  clear eQ e2 e3
  have e := drop_cons s k hk
  generalize s.data.toList.drop k = D at *
  subst e
  subst hP
  subst hQ
  exact ref_pair _ _ (setOf l) (fun e => h (by rw [e]; rfl)) h0 hd hz hb
end Go.Proofs.YtbeohmcmphebhaaDoor
