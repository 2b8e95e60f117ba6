import Derived.Test.YtediipndkejnkaaClass
namespace Go.Proofs.Ytediipndkejnkaa
open Go.RowKit
theorem pre_one (D : List UInt8) : Lib.hasPrefix D [45] = decide (D.headD 0 = 45) := by
  cases D with
  | nil => rfl
  | cons a r =>
    rw [Bool.eq_iff_iff]
    simp [Lib.hasPrefix]
    exact eq_comm
theorem pre_two (D : List UInt8) (h : D.headD 0 = 45) : Lib.hasPrefix D [45, 93] = decide (D.tail.headD 0 = 93) := by
  match D, h with
  | [], h => exact absurd h (by decide)
  | [a], h => simp at h; subst h; rfl
  | a :: b :: r, h =>
    simp at h; subst h
    rw [Bool.eq_iff_iff]
    simp [Lib.hasPrefix]
    exact eq_comm
theorem m_none (l : List UInt8) (h : (signAt cg l).2 = 0) : memberAt l = (0, 0, 0) := by unfold memberAt; rw [if_pos h]
theorem m_one (l : List UInt8) (h : (signAt cg l).2 ≠ 0) (h2 : ¬ (l.drop (signAt cg l).2).headD 0 = 45 ∨ (l.drop (signAt cg l).2).tail.headD 0 = 93) : memberAt l = ((signAt cg l).1, (signAt cg l).1, (signAt cg l).2) := by unfold memberAt; rw [if_neg h, if_pos h2]
theorem m_bad (l : List UInt8) (h : (signAt cg l).2 ≠ 0) (h2 : ¬ (¬ (l.drop (signAt cg l).2).headD 0 = 45 ∨ (l.drop (signAt cg l).2).tail.headD 0 = 93)) (h3 : (signAt cg (l.drop ((signAt cg l).2 + 1))).2 = 0) : memberAt l = (0, 0, 0) := by unfold memberAt; rw [if_neg h, if_neg h2, if_pos h3]
theorem m_two (l : List UInt8) (h : (signAt cg l).2 ≠ 0) (h2 : ¬ (¬ (l.drop (signAt cg l).2).headD 0 = 45 ∨ (l.drop (signAt cg l).2).tail.headD 0 = 93)) (h3 : (signAt cg (l.drop ((signAt cg l).2 + 1))).2 ≠ 0) :
    memberAt l = ((signAt cg l).1, (signAt cg (l.drop ((signAt cg l).2 + 1))).1, (signAt cg l).2 + 1 + (signAt cg (l.drop ((signAt cg l).2 + 1))).2) := by unfold memberAt; rw [if_neg h, if_neg h2, if_neg h3]
theorem drop_short (l : List UInt8) (n : Nat) (h : (l.drop n).headD 0 = 45) : n < l.length := by
  rcases Nat.lt_or_ge n l.length with h1 | h1
  · exact h1
  · rw [List.drop_eq_nil_of_le h1] at h; exact absurd h (by decide)
theorem ret_mem {a a' b b' c c' : Int} (h1 : a = a') (h2 : b = b') (h3 : c = c') : Ending.returned (.tuple #[.int .u8 a, .int .u8 b, .int .i64 c]) = .returned (.tuple #[.int .u8 a', .int .u8 b', .int .i64 c']) := by rw [h1, h2, h3]
set_option maxRecDepth 20000 in
set_option maxHeartbeats 1000000 in
theorem memberAt_any (s : ByteArray) (w : World) (hs : s.size ≤ maxLen) :
    Calls Try.prog 22 #[.string s] w fun e w' => e = .returned (.tuple #[.int .u8 ((memberAt s.data.toList).1 : Int), .int .u8 ((memberAt s.data.toList).2.1 : Int), .int .i64 ((memberAt s.data.toList).2.2 : Int)]) ∧ ∃ n, w' = w.drewN n := by
  have hs' := hs
  unfold maxLen at hs
  have hP := signAt_lt cg s.data.toList
  rw [llen] at hP
  by_cases hz : (signAt cg s.data.toList).2 = 0
  · rw [m_none _ hz]
    generalize hPP : signAt cg s.data.toList = P at *
    have HP : Hid (signAt cg s.data.toList = P) := hPP
    have hx : ((P.2 : Int) == 0) = true := by simp; omega
    clear hPP hz
    go_enter Try.func22, Try.ntmps22
    go_wp2_with fail
    refine (signAt_any s ⟨#[91, 93, 45, 94, 92]⟩ _ hs').mono ?_
    rintro e w1 ⟨rfl, n1, rfl⟩
    rw [show signAt (⟨#[91, 93, 45, 94, 92]⟩ : ByteArray).data.toList s.data.toList = P from HP.out]
    go_wp2_with fail
    go_ret3
    exact ⟨rfl, n1, rfl⟩
  · have hm1 := m_one s.data.toList hz
    have hm2 := m_bad s.data.toList hz
    have hm3 := m_two s.data.toList hz
    have hp1 := pre_one (s.data.toList.drop (signAt cg s.data.toList).2)
    have hp2 := pre_two (s.data.toList.drop (signAt cg s.data.toList).2)
    have hds := drop_short s.data.toList (signAt cg s.data.toList).2
    rw [llen] at hds
    generalize hM : memberAt s.data.toList = M at *
    generalize hPP : signAt cg s.data.toList = P at *
    have HP : Hid (signAt cg s.data.toList = P) := hPP
    have hx : ((P.2 : Int) == 0) = false := by simp; omega
    have hP2 : (P.2 : Int) ≤ (s.size : Int) := by omega
    clear hPP hM
    by_cases h45 : (s.data.toList.drop P.2).headD 0 = 45
    · have hp3 := hp2 h45
      have hlt := hds h45
      rw [decide_eq_true h45] at hp1
      by_cases h93 : (s.data.toList.drop P.2).tail.headD 0 = 93
      · have HM : Hid (M = _) := hm1 (.inr h93)
        rw [decide_eq_true h93] at hp3
        have H1 : Hid (Lib.hasPrefix (s.data.toList.drop P.2) [45] = true) := hp1
        have H2 : Hid (Lib.hasPrefix (s.data.toList.drop P.2) [45, 93] = true) := hp3
        clear hm1 hm2 hm3 hp1 hp2 hp3 hds h45 h93
        go_enter Try.func22, Try.ntmps22
        go_wp2_with fail
        refine (signAt_any s ⟨#[91, 93, 45, 94, 92]⟩ _ hs').mono ?_
        rintro e w1 ⟨rfl, n1, rfl⟩
        rw [show signAt (⟨#[91, 93, 45, 94, 92]⟩ : ByteArray).data.toList s.data.toList = P from HP.out]
        go_wp2_with fail
        refine (Try.strings_HasPrefix (s.extract P.2 s.size) ⟨#[45]⟩ _).mono ?_
        rintro e w2 ⟨rfl, rfl⟩
        rw [cut_list, show Lib.hasPrefix (s.data.toList.drop P.2) (⟨#[45]⟩ : ByteArray).data.toList = true from H1.out]
        go_wp2_with fail
        refine (Try.strings_HasPrefix (s.extract P.2 s.size) ⟨#[45, 93]⟩ _).mono ?_
        rintro e w2 ⟨rfl, rfl⟩
        rw [cut_list, show Lib.hasPrefix (s.data.toList.drop P.2) (⟨#[45, 93]⟩ : ByteArray).data.toList = true from H2.out]
        go_wp2_with fail
        go_ret3
        exact ⟨ret_mem (by rw [HM.out]) (by rw [HM.out]) (by rw [HM.out]), n1, rfl⟩
      · rw [decide_eq_false h93] at hp3
        have H1 : Hid (Lib.hasPrefix (s.data.toList.drop P.2) [45] = true) := hp1
        have H2 : Hid (Lib.hasPrefix (s.data.toList.drop P.2) [45, 93] = false) := hp3
        have hno : ¬ (¬ (s.data.toList.drop P.2).headD 0 = 45 ∨ (s.data.toList.drop P.2).tail.headD 0 = 93) := fun h => by
          rcases h with h | h
          · exact h h45
          · exact h93 h
        have hQ := signAt_lt cg (s.data.toList.drop (P.2 + 1))
        rw [List.length_drop, llen] at hQ
        have hm4 := hm2 hno
        have hm5 := hm3 hno
        clear hm1 hm2 hm3 hp1 hp2 hp3 hds h45 h93 hno
        generalize hQQ : signAt cg (s.data.toList.drop (P.2 + 1)) = Q at *
        have HQ : Hid (signAt cg (s.data.toList.drop (P.2 + 1)) = Q) := hQQ
        clear hQQ
        have hP3 : (P.2 : Int) + 1 ≤ (s.size : Int) := by omega
        have hor : (((Q.2 : Int) == 0) = true ∧ Hid (M = (0, 0, 0))) ∨ (((Q.2 : Int) == 0) = false ∧ Hid (M = (P.1, Q.1, P.2 + 1 + Q.2))) := by
          by_cases e : Q.2 = 0
          · exact .inl ⟨by simp; omega, hm4 e⟩
          · exact .inr ⟨by simp; omega, hm5 e⟩
        clear hm4 hm5
        have hQ1 : (Q.2 : Int) ≤ (s.size : Int) - ((P.2 : Int) + 1) := by omega
        rcases hor with ⟨hq, HM⟩ | ⟨hq, HM⟩
        all_goals
          go_enter Try.func22, Try.ntmps22
          go_wp2_with fail
          refine (signAt_any s ⟨#[91, 93, 45, 94, 92]⟩ _ hs').mono ?_
          rintro e w1 ⟨rfl, n1, rfl⟩
          rw [show signAt (⟨#[91, 93, 45, 94, 92]⟩ : ByteArray).data.toList s.data.toList = P from HP.out]
          go_wp2_with fail
          refine (Try.strings_HasPrefix (s.extract P.2 s.size) ⟨#[45]⟩ _).mono ?_
          rintro e w2 ⟨rfl, rfl⟩
          rw [cut_list, show Lib.hasPrefix (s.data.toList.drop P.2) (⟨#[45]⟩ : ByteArray).data.toList = true from H1.out]
          go_wp2_with fail
          refine (Try.strings_HasPrefix (s.extract P.2 s.size) ⟨#[45, 93]⟩ _).mono ?_
          rintro e w2 ⟨rfl, rfl⟩
          rw [cut_list, show Lib.hasPrefix (s.data.toList.drop P.2) (⟨#[45, 93]⟩ : ByteArray).data.toList = false from H2.out]
          go_wp2_with fail
          refine (signAt_any (s.extract (P.2 + 1) s.size) ⟨#[91, 93, 45, 94, 92]⟩ _ (by have := cut_size s (P.2 + 1); unfold maxLen; omega)).mono ?_
          rintro e w1 ⟨rfl, n2, rfl⟩
          rw [cut_list, show signAt (⟨#[91, 93, 45, 94, 92]⟩ : ByteArray).data.toList (s.data.toList.drop (P.2 + 1)) = Q from HQ.out]
          go_wp2_with fail
          go_ret3
          first
          | exact ⟨ret_mem (by rw [HM.out]; rfl) (by rw [HM.out]; rfl) (by rw [HM.out]; rfl), _, rfl⟩
          | exact ⟨ret_mem (by rw [HM.out]) (by rw [HM.out]) (by rw [HM.out]; show _ = ((P.2 + 1 + Q.2 : Nat) : Int); omega), _, rfl⟩
    · have HM : Hid (M = _) := hm1 (.inl h45)
      rw [decide_eq_false h45] at hp1
      have H1 : Hid (Lib.hasPrefix (s.data.toList.drop P.2) [45] = false) := hp1
      clear hm1 hm2 hm3 hp1 hp2 hds h45
      go_enter Try.func22, Try.ntmps22
      go_wp2_with fail
      refine (signAt_any s ⟨#[91, 93, 45, 94, 92]⟩ _ hs').mono ?_
      rintro e w1 ⟨rfl, n1, rfl⟩
      rw [show signAt (⟨#[91, 93, 45, 94, 92]⟩ : ByteArray).data.toList s.data.toList = P from HP.out]
      go_wp2_with fail
      refine (Try.strings_HasPrefix (s.extract P.2 s.size) ⟨#[45]⟩ _).mono ?_
      rintro e w2 ⟨rfl, rfl⟩
      rw [cut_list, show Lib.hasPrefix (s.data.toList.drop P.2) (⟨#[45]⟩ : ByteArray).data.toList = false from H1.out]
      go_wp2_with fail
      go_ret3
      exact ⟨ret_mem (by rw [HM.out]) (by rw [HM.out]) (by rw [HM.out]), n1, rfl⟩
end Go.Proofs.Ytediipndkejnkaa
