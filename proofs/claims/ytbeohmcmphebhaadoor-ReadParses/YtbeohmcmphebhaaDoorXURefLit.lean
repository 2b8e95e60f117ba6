import Derived.Test.YtbeohmcmphebhaaDoorXUUnlit
import Derived.Test.YtbeohmcmphebhaaDoorXQClass
import Derived.Test.YtbeohmcmphebhaaDoorXQClassText
import Derived.Test.YtbeohmcmphebhaaDoorXURef
namespace Go.Proofs.YtbeohmcmphebhaaDoor
open Go.RowKit
theorem pre_one (D : List UInt8) : Lib.hasPrefix D [45] = decide (D.headD 0 = 45) := by
  cases D with
  | nil => rfl
  | cons a r =>
    rw [Bool.eq_iff_iff]
    simp [Lib.hasPrefix]
    exact eq_comm
theorem pre_two (D : List UInt8) (h : D.headD 0 = 45) : Lib.hasPrefix D [45, 93] = decide (D.tail.headD 0 = 93) := by
  match D, h with
  | [], h => exact absurd h (by decide)
  | [a], h => simp at h; subst h; rfl
  | a :: b :: r, h =>
    simp at h; subst h
    rw [Bool.eq_iff_iff]
    simp [Lib.hasPrefix]
    exact eq_comm
theorem m_none (l : List UInt8) (h : (signAt cg l).2 = 0) : memberAt l = (0, 0, 0) := by unfold memberAt; rw [if_pos h]
theorem m_one (l : List UInt8) (h : (signAt cg l).2 ≠ 0) (h2 : ¬ (l.drop (signAt cg l).2).headD 0 = 45 ∨ (l.drop (signAt cg l).2).tail.headD 0 = 93) : memberAt l = ((signAt cg l).1, (signAt cg l).1, (signAt cg l).2) := by unfold memberAt; rw [if_neg h, if_pos h2]
theorem m_bad (l : List UInt8) (h : (signAt cg l).2 ≠ 0) (h2 : ¬ (¬ (l.drop (signAt cg l).2).headD 0 = 45 ∨ (l.drop (signAt cg l).2).tail.headD 0 = 93)) (h3 : (signAt cg (l.drop ((signAt cg l).2 + 1))).2 = 0) : memberAt l = (0, 0, 0) := by unfold memberAt; rw [if_neg h, if_neg h2, if_pos h3]
theorem m_two (l : List UInt8) (h : (signAt cg l).2 ≠ 0) (h2 : ¬ (¬ (l.drop (signAt cg l).2).headD 0 = 45 ∨ (l.drop (signAt cg l).2).tail.headD 0 = 93)) (h3 : (signAt cg (l.drop ((signAt cg l).2 + 1))).2 ≠ 0) :
    memberAt l = ((signAt cg l).1, (signAt cg (l.drop ((signAt cg l).2 + 1))).1, (signAt cg l).2 + 1 + (signAt cg (l.drop ((signAt cg l).2 + 1))).2) := by unfold memberAt; rw [if_neg h, if_neg h2, if_neg h3]
theorem drop_short (l : List UInt8) (n : Nat) (h : (l.drop n).headD 0 = 45) : n < l.length := by
  rcases Nat.lt_or_ge n l.length with h1 | h1
  · exact h1
  · rw [List.drop_eq_nil_of_le h1] at h; exact absurd h (by decide)
theorem ret_mem {a a' b b' c c' : Int} (h1 : a = a') (h2 : b = b') (h3 : c = c') : Ending.returned (.tuple #[.int .u8 a, .int .u8 b, .int .i64 c]) = .returned (.tuple #[.int .u8 a', .int .u8 b', .int .i64 c']) := by rw [h1, h2, h3]
set_option maxRecDepth 20000 in
set_option maxHeartbeats 1000000 in
theorem memberAt_any (s : ByteArray) (w : World) (hs : s.size ≤ maxLen) :
    Calls Tryd.prog 103 #[.string s] w fun e w' => e = .returned (.tuple #[.int .u8 ((memberAt s.data.toList).1 : Int), .int .u8 ((memberAt s.data.toList).2.1 : Int), .int .i64 ((memberAt s.data.toList).2.2 : Int)]) ∧ ∃ n, w' = w.drewN n := by
  have hs' := hs
  unfold maxLen at hs
  have hP := signAt_lt cg s.data.toList
  rw [llen] at hP
  by_cases hz : (signAt cg s.data.toList).2 = 0
  · rw [m_none _ hz]
    generalize hPP : signAt cg s.data.toList = P at *
    have HP : Hid (signAt cg s.data.toList = P) := hPP
    have hx : ((P.2 : Int) == 0) = true := by simp; omega
    clear hPP hz
    go_enter Tryd.func103, Tryd.ntmps103
    go_wp2_with fail
    refine (signAt_any s ⟨#[91, 93, 45, 94, 92]⟩ _ hs').mono ?_
    rintro e w1 ⟨rfl, n1, rfl⟩
    rw [show signAt (⟨#[91, 93, 45, 94, 92]⟩ : ByteArray).data.toList s.data.toList = P from HP.out]
    go_wp2_with fail
    go_ret3
    exact ⟨rfl, n1, rfl⟩
  · have hm1 := m_one s.data.toList hz
    have hm2 := m_bad s.data.toList hz
    have hm3 := m_two s.data.toList hz
    have hp1 := pre_one (s.data.toList.drop (signAt cg s.data.toList).2)
    have hp2 := pre_two (s.data.toList.drop (signAt cg s.data.toList).2)
    have hds := drop_short s.data.toList (signAt cg s.data.toList).2
    rw [llen] at hds
    generalize hM : memberAt s.data.toList = M at *
    generalize hPP : signAt cg s.data.toList = P at *
    have HP : Hid (signAt cg s.data.toList = P) := hPP
    have hx : ((P.2 : Int) == 0) = false := by simp; omega
    have hP2 : (P.2 : Int) ≤ (s.size : Int) := by omega
    clear hPP hM
    by_cases h45 : (s.data.toList.drop P.2).headD 0 = 45
    · have hp3 := hp2 h45
      have hlt := hds h45
      rw [decide_eq_true h45] at hp1
      by_cases h93 : (s.data.toList.drop P.2).tail.headD 0 = 93
      · have HM : Hid (M = _) := hm1 (.inr h93)
        rw [decide_eq_true h93] at hp3
        have H1 : Hid (Lib.hasPrefix (s.data.toList.drop P.2) [45] = true) := hp1
        have H2 : Hid (Lib.hasPrefix (s.data.toList.drop P.2) [45, 93] = true) := hp3
        clear hm1 hm2 hm3 hp1 hp2 hp3 hds h45 h93
        go_enter Tryd.func103, Tryd.ntmps103
        go_wp2_with fail
        refine (signAt_any s ⟨#[91, 93, 45, 94, 92]⟩ _ hs').mono ?_
        rintro e w1 ⟨rfl, n1, rfl⟩
        rw [show signAt (⟨#[91, 93, 45, 94, 92]⟩ : ByteArray).data.toList s.data.toList = P from HP.out]
        go_wp2_with fail
        refine (Tryd.strings_HasPrefix (s.extract P.2 s.size) ⟨#[45]⟩ _).mono ?_
        rintro e w2 ⟨rfl, rfl⟩
        rw [cut_list, show Lib.hasPrefix (s.data.toList.drop P.2) (⟨#[45]⟩ : ByteArray).data.toList = true from H1.out]
        go_wp2_with fail
        refine (Tryd.strings_HasPrefix (s.extract P.2 s.size) ⟨#[45, 93]⟩ _).mono ?_
        rintro e w2 ⟨rfl, rfl⟩
        rw [cut_list, show Lib.hasPrefix (s.data.toList.drop P.2) (⟨#[45, 93]⟩ : ByteArray).data.toList = true from H2.out]
        go_wp2_with fail
        go_ret3
        exact ⟨ret_mem (by rw [HM.out]) (by rw [HM.out]) (by rw [HM.out]), n1, rfl⟩
      · rw [decide_eq_false h93] at hp3
        have H1 : Hid (Lib.hasPrefix (s.data.toList.drop P.2) [45] = true) := hp1
        have H2 : Hid (Lib.hasPrefix (s.data.toList.drop P.2) [45, 93] = false) := hp3
        have hno : ¬ (¬ (s.data.toList.drop P.2).headD 0 = 45 ∨ (s.data.toList.drop P.2).tail.headD 0 = 93) := fun h => by
          rcases h with h | h
          · exact h h45
          · exact h93 h
        have hQ := signAt_lt cg (s.data.toList.drop (P.2 + 1))
        rw [List.length_drop, llen] at hQ
        have hm4 := hm2 hno
        have hm5 := hm3 hno
        clear hm1 hm2 hm3 hp1 hp2 hp3 hds h45 h93 hno
        generalize hQQ : signAt cg (s.data.toList.drop (P.2 + 1)) = Q at *
        have HQ : Hid (signAt cg (s.data.toList.drop (P.2 + 1)) = Q) := hQQ
        clear hQQ
        have hP3 : (P.2 : Int) + 1 ≤ (s.size : Int) := by omega
        have hor : (((Q.2 : Int) == 0) = true ∧ Hid (M = (0, 0, 0))) ∨ (((Q.2 : Int) == 0) = false ∧ Hid (M = (P.1, Q.1, P.2 + 1 + Q.2))) := by
          by_cases e : Q.2 = 0
          · exact .inl ⟨by simp; omega, hm4 e⟩
          · exact .inr ⟨by simp; omega, hm5 e⟩
        clear hm4 hm5
        have hQ1 : (Q.2 : Int) ≤ (s.size : Int) - ((P.2 : Int) + 1) := by omega
        rcases hor with ⟨hq, HM⟩ | ⟨hq, HM⟩
        all_goals
          go_enter Tryd.func103, Tryd.ntmps103
          go_wp2_with fail
          refine (signAt_any s ⟨#[91, 93, 45, 94, 92]⟩ _ hs').mono ?_
          rintro e w1 ⟨rfl, n1, rfl⟩
          rw [show signAt (⟨#[91, 93, 45, 94, 92]⟩ : ByteArray).data.toList s.data.toList = P from HP.out]
          go_wp2_with fail
          refine (Tryd.strings_HasPrefix (s.extract P.2 s.size) ⟨#[45]⟩ _).mono ?_
          rintro e w2 ⟨rfl, rfl⟩
          rw [cut_list, show Lib.hasPrefix (s.data.toList.drop P.2) (⟨#[45]⟩ : ByteArray).data.toList = true from H1.out]
          go_wp2_with fail
          refine (Tryd.strings_HasPrefix (s.extract P.2 s.size) ⟨#[45, 93]⟩ _).mono ?_
          rintro e w2 ⟨rfl, rfl⟩
          rw [cut_list, show Lib.hasPrefix (s.data.toList.drop P.2) (⟨#[45, 93]⟩ : ByteArray).data.toList = false from H2.out]
          go_wp2_with fail
          refine (signAt_any (s.extract (P.2 + 1) s.size) ⟨#[91, 93, 45, 94, 92]⟩ _ (by have := cut_size s (P.2 + 1); unfold maxLen; omega)).mono ?_
          rintro e w1 ⟨rfl, n2, rfl⟩
          rw [cut_list, show signAt (⟨#[91, 93, 45, 94, 92]⟩ : ByteArray).data.toList (s.data.toList.drop (P.2 + 1)) = Q from HQ.out]
          go_wp2_with fail
          go_ret3
          first
          | exact ⟨ret_mem (by rw [HM.out]; rfl) (by rw [HM.out]; rfl) (by rw [HM.out]; rfl), _, rfl⟩
          | exact ⟨ret_mem (by rw [HM.out]) (by rw [HM.out]) (by rw [HM.out]; show _ = ((P.2 + 1 + Q.2 : Nat) : Int); omega), _, rfl⟩
    · have HM : Hid (M = _) := hm1 (.inl h45)
      rw [decide_eq_false h45] at hp1
      have H1 : Hid (Lib.hasPrefix (s.data.toList.drop P.2) [45] = false) := hp1
      clear hm1 hm2 hm3 hp1 hp2 hds h45
      go_enter Tryd.func103, Tryd.ntmps103
      go_wp2_with fail
      refine (signAt_any s ⟨#[91, 93, 45, 94, 92]⟩ _ hs').mono ?_
      rintro e w1 ⟨rfl, n1, rfl⟩
      rw [show signAt (⟨#[91, 93, 45, 94, 92]⟩ : ByteArray).data.toList s.data.toList = P from HP.out]
      go_wp2_with fail
      refine (Tryd.strings_HasPrefix (s.extract P.2 s.size) ⟨#[45]⟩ _).mono ?_
      rintro e w2 ⟨rfl, rfl⟩
      rw [cut_list, show Lib.hasPrefix (s.data.toList.drop P.2) (⟨#[45]⟩ : ByteArray).data.toList = false from H1.out]
      go_wp2_with fail
      go_ret3
      exact ⟨ret_mem (by rw [HM.out]) (by rw [HM.out]) (by rw [HM.out]), n1, rfl⟩
end Go.Proofs.YtbeohmcmphebhaaDoor
namespace Go.Proofs.YtbeohmcmphebhaaDoor
open Go.RowKit
theorem gd_perm (c : UInt8) : gd [92, 39, 34] c = gd [39, 34, 92] c := by
  simp only [gd, Lib.indexByte]
  by_cases h1 : (39 : UInt8) == c <;> by_cases h2 : (34 : UInt8) == c <;> by_cases h3 : (92 : UInt8) == c <;> simp [h1, h2, h3]
theorem signAt_perm (l : List UInt8) : signAt [92, 39, 34] l = signAt [39, 34, 92] l := by
  unfold signAt strokeAt
  simp only [gd_perm]
theorem gd_perm_lt (c : UInt8) (h : gd [92, 39, 34] c = true) : c.toNat < 128 := by
  simp only [gd, Lib.indexByte] at h
  by_cases h1 : (92 : UInt8) == c
  · have := beq_iff_eq.1 h1; subst this; decide
  · by_cases h2 : (39 : UInt8) == c
    · have := beq_iff_eq.1 h2; subst this; decide
    · by_cases h3 : (34 : UInt8) == c
      · have := beq_iff_eq.1 h3; subst this; decide
      · simp [h1, h2, h3] at h
theorem cat_list (a b : List UInt8) : (⟨a.toArray⟩ : ByteArray) ++ ⟨b.toArray⟩ = ⟨(a ++ b).toArray⟩ := by apply ByteArray.ext; simp
theorem conv_num (n : Nat) (h : n < 256) (w : World) : (convert 49 9 (.slice (some ⟨w.heap.size, 0, none⟩) 1 1)).run Tryd.prog (w.alloc (.cells #[.int .u8 (n : Int)] 5)) = .ok (.string ⟨[UInt8.ofNat n].toArray⟩) (w.alloc (.cells #[.int .u8 (n : Int)] 5)) := by
  have e := conv_one (UInt8.ofNat n) w
  rw [show ((UInt8.ofNat n).toNat : Int) = (n : Int) from by simp; omega] at e
  exact e
set_option maxHeartbeats 1000000 in
set_option maxHeartbeats 1000000 in
theorem runlit_any (s : ByteArray) (w : World) (hs : s.size ≤ 50000000) :
    Calls Tryd.prog 29 #[.string s] w fun e w' => e = .returned (.tuple #[.string ⟨(uT (unlit [39, 34, 92] s.data.toList)).toArray⟩, .int .i64 (uN (unlit [39, 34, 92] s.data.toList)), .int .i64 (uE (unlit [39, 34, 92] s.data.toList))]) ∧ Below w.heap.size w w' := by
  by_cases h0 : s.size = 0
  · obtain rfl := empty_of s h0
    go_enter Tryd.func29, Tryd.ntmps29
    go_wp2_with fail
    go_ret3
    exact ⟨rfl, Below.refl _ _⟩
  · have he := nonempty s h0
    have h1 : (0 : Int) < s.size := by omega
    have h1' : 0 < s.size := by omega
    have e1 := unlit_at [39, 34, 92] s h1'
    generalize unlit [39, 34, 92] s.data.toList = R at *
    by_cases hq : s[0].toNat = 39 ∨ s[0].toNat = 34
    · rw [if_pos hq] at e1
      have HR : Hid (R = unl s[0] [39, 34, 92] (s.data.toList.drop 1) [] 1) := e1
      clear e1
      have hor : ((s[0].toNat : Int) != 39) = false ∨ (((s[0].toNat : Int) != 39) = true ∧ ((s[0].toNat : Int) != 34) = false) := by
        by_cases h39 : s[0].toNat = 39
        · left; simp; omega
        · right; simp; omega
      clear hq
      rcases hor with hx | ⟨hx, hy⟩
      all_goals
        go_enter Tryd.func29, Tryd.ntmps29
        go_wp2_with fail
        go_loopw [5, 6, 7, 8] (fun v i _ _ wx => ∃ (k : Nat) (T : List UInt8), i = .int .i64 k ∧ 1 ≤ k ∧ k ≤ s.size ∧ T.length ≤ k ∧ v = .string ⟨T.toArray⟩ ∧ Below w.heap.size w wx ∧ R = unl s[0] [39, 34, 92] (s.data.toList.drop k) T k) (fun _ i _ _ _ => s.size - (intOf i).toNat)
        case atStart => exact ⟨1, [], rfl, by omega, by omega, by simp, rfl, Below.refl _ _, HR.out⟩
        case round =>
          clear HR
          obtain ⟨k, T, rfl, hk1, hk2, hT, rfl, hB, hR⟩ := hrel
          have HR : Hid (R = unl s[0] [39, 34, 92] (s.data.toList.drop k) T k) := hR
          clear hR
          have hsz := hB.size
          have hk0 : (0 : Int) ≤ (k : Int) := by omega
          by_cases hlt : k < s.size
          · have hd : decide ((k : Int) < (s.size : Int)) = true := by simp; omega
            have hd' : decide (k < s.size) = true := by simp; omega
            have hlt' : (k : Int) < (s.size : Int) := by omega
            by_cases hqk : s[k].toNat = s[0].toNat
            · have eR : R = some (T, k + 1) := HR.out.trans (unl_stop _ s s[0] k T hlt (toNat_eq hqk))
              have hne : ((s[k].toNat : Int) != (s[0].toNat : Int)) = false := by simp; omega
              have hkk : decide (s.size ≤ k) = false := by simp; omega
              have HE : Hid (R = some (T, k + 1)) := eR
              clear HR eR hqk
              go_wp2_with fail
              go_quiet (fail)
              go_wp2_with fail
              go_ret3
              exact ⟨ret_three (by rw [HE.out]; rfl) (by rw [HE.out]; show (k : Int) + 1 = ((k + 1 : Nat) : Int); omega) (by rw [HE.out]; rfl), hB.trans (Go.Joins.below_draws _ _ _)⟩
            · have hne2 : ((s[k].toNat : Int) != (s[0].toNat : Int)) = true := by simp; omega
              have hneq : s[k] ≠ s[0] := fun e => hqk (by rw [e])
              have hP1 := (signAt_lt [39, 34, 92] (s.data.toList.drop k)).1
              have hP2 := (signAt_lt [39, 34, 92] (s.data.toList.drop k)).2
              rw [List.length_drop, llen] at hP2
              by_cases hz : (signAt [39, 34, 92] (s.data.toList.drop k)).2 = 0
              · have HE : Hid (R = none) := HR.out.trans (unl_none _ s s[0] k T hlt hneq hz)
                clear HR hneq
                generalize hP : signAt [39, 34, 92] (s.data.toList.drop k) = P at *
                have HP : Hid (signAt [39, 34, 92] (s.data.toList.drop k) = P) := hP
                have hx3 : ((P.2 : Int) == 0) = true := by simp; omega
                clear hP hqk hz
                go_wp2_with fail
                go_quiet (fail)
                go_wp2_with fail
                refine (said_any (s.extract k s.size) ⟨#[92, 39, 34]⟩ _ (by unfold maxLen; have := cut_size s k; omega) gd_perm_lt).mono ?_
                rintro e w1 ⟨rfl, hb⟩
                rw [cut_list s k, show (⟨#[92, 39, 34]⟩ : ByteArray).data.toList = [92, 39, 34] from rfl, signAt_perm, HP.out]
                have hB2 := b_call (hB.trans (Go.Joins.below_draws _ _ _)) hb
                clear hb hB
                go_wp2_with fail
                go_ret3
                exact ⟨by rw [HE.out] <;> rfl, hB2⟩
              · have HE : Hid (R = _) := HR.out.trans (unl_next _ s s[0] k T hlt hneq hz)
                clear HR hneq
                generalize hP : signAt [39, 34, 92] (s.data.toList.drop k) = P at *
                have HP : Hid (signAt [39, 34, 92] (s.data.toList.drop k) = P) := hP
                have hx3 : ((P.2 : Int) == 0) = false := by simp; omega
                clear hP hqk
                go_wp2_with fail
                go_quiet (fail)
                go_wp2_with fail
                refine (said_any (s.extract k s.size) ⟨#[92, 39, 34]⟩ _ (by unfold maxLen; have := cut_size s k; omega) gd_perm_lt).mono ?_
                rintro e w2 ⟨rfl, hb⟩
                rw [cut_list s k, show (⟨#[92, 39, 34]⟩ : ByteArray).data.toList = [92, 39, 34] from rfl, signAt_perm, HP.out]
                have hB2 := b_call (hB.trans (Go.Joins.below_draws _ _ _)) hb
                have hconv := conv_num P.1 hP1 w2
                have hsz2 := hB2.size
                clear hb hB
                go_wp2_with fail
                rw [cat_list]
                exact ⟨⟨k + P.2, T ++ [UInt8.ofNat P.1], by go_num, by omega, by omega, by rw [List.length_append, List.length_singleton]; omega, rfl, hB2.alloc hsz2 _, HE.out⟩, by simp [intOf]; omega⟩
          · have HE : Hid (R = none) := HR.out.trans (unl_over _ s s[0] k T (by omega))
            have hd : decide ((k : Int) < (s.size : Int)) = false := by simp; omega
            have hd' : decide (k < s.size) = false := by simp; omega
            have hkk : decide (s.size ≤ k) = true := by simp; omega
            clear HR
            go_wp2_with fail
            go_quiet (fail)
            go_wp2_with fail
            go_ret3
            exact ⟨by rw [HE.out] <;> rfl, hB.trans (Go.Joins.below_draws _ _ _)⟩
    · rw [if_neg hq] at e1
      subst e1
      have x1 : ((s[0].toNat : Int) != 39) = true := by simp; omega
      have x2 : ((s[0].toNat : Int) != 34) = true := by simp; omega
      clear hq
      go_enter Tryd.func29, Tryd.ntmps29
      go_wp2_with fail
      go_ret3
      exact ⟨rfl, Below.refl _ _⟩
end Go.Proofs.YtbeohmcmphebhaaDoor
