import Derived.Test.YtediipndkejnkaaRef
namespace Go.Proofs.Ytediipndkejnkaa
open Go.RowKit
theorem gd_perm (c : UInt8) : gd [92, 39, 34] c = gd [39, 34, 92] c := by
  simp only [gd, Lib.indexByte]
  by_cases h1 : (39 : UInt8) == c <;> by_cases h2 : (34 : UInt8) == c <;> by_cases h3 : (92 : UInt8) == c <;> simp [h1, h2, h3]
theorem signAt_perm (l : List UInt8) : signAt [92, 39, 34] l = signAt [39, 34, 92] l := by
  unfold signAt strokeAt
  simp only [gd_perm]
theorem gd_perm_lt (c : UInt8) (h : gd [92, 39, 34] c = true) : c.toNat < 128 := by
  simp only [gd, Lib.indexByte] at h
  by_cases h1 : (92 : UInt8) == c
  · have := beq_iff_eq.1 h1; subst this; decide
  · by_cases h2 : (39 : UInt8) == c
    · have := beq_iff_eq.1 h2; subst this; decide
    · by_cases h3 : (34 : UInt8) == c
      · have := beq_iff_eq.1 h3; subst this; decide
      · simp [h1, h2, h3] at h
theorem cat_list (a b : List UInt8) : (⟨a.toArray⟩ : ByteArray) ++ ⟨b.toArray⟩ = ⟨(a ++ b).toArray⟩ := by apply ByteArray.ext; simp
theorem conv_num (n : Nat) (h : n < 256) (w : World) : (convert 36 9 (.slice (some ⟨w.heap.size, 0, none⟩) 1 1)).run Try.prog (w.alloc (.cells #[.int .u8 (n : Int)] 5)) = .ok (.string ⟨[UInt8.ofNat n].toArray⟩) (w.alloc (.cells #[.int .u8 (n : Int)] 5)) := by
  have e := conv_one (UInt8.ofNat n) w
  rw [show ((UInt8.ofNat n).toNat : Int) = (n : Int) from by simp; omega] at e
  exact e
set_option maxHeartbeats 1000000 in
theorem rlit_any (s : ByteArray) (w : World) (hs : s.size ≤ 10000000) :
    Calls Try.prog 10 #[.string s] w fun e w' => e = .returned (.string ⟨(lit s.data.toList).toArray⟩) ∧ Below w.heap.size w w' := by
  go_enter Try.func10, Try.ntmps10
  go_wp2_with fail
  go_loopw [3, 4, 7] (fun v _ i wx => ∃ k : Nat, i = .int .i64 k ∧ k ≤ s.size ∧ v = .string ⟨(litTo s.data.toList k).toArray⟩ ∧ Below w.heap.size w wx) (fun _ _ i _ => s.size - (intOf i).toNat)
  case atStart => exact ⟨0, rfl, by omega, rfl, Below.refl _ _⟩
  case round =>
    obtain ⟨k, rfl, hk, rfl, hB⟩ := hrel
    have hlen := litTo_len s.data.toList k
    have hsz := hB.size
    by_cases hlt : (k : Int) < s.size
    · have hks : k < s.size := by omega
      have hbk := s[k].toNat_lt
      have HS : Hid (litTo s.data.toList (k + 1) = litTo s.data.toList k ++ sign 32 [39, 92] s[k]) := litTo_succ s k hks
      have hsl := sign_len 32 [39, 92] s[k]
      generalize litTo s.data.toList k = L at *
      go_wp2_with fail
      refine (shown_any 32 ⟨#[39, 92]⟩ s[k] _ (fun h => gd_lit_vis s[k] h)).mono ?_
      rintro e w1 ⟨rfl, hb⟩
      have hB1 := b_call hB hb
      rw [show (⟨#[39, 92]⟩ : ByteArray).data.toList = [39, 92] from rfl]
      clear hB hb
      generalize sign 32 [39, 92] s[k] = G at *
      go_wp2_with fail
      rw [cat_list]
      exact ⟨⟨k + 1, by go_num, by omega, by rw [HS.out], hB1⟩, by simp [intOf]; omega⟩
    · have hall : Hid (litTo s.data.toList k ++ [39] = lit s.data.toList) := litTo_all _ k (by rw [llen]; omega)
      generalize litTo s.data.toList k = L at *
      go_wp2_with fail
      go_ret
      exact ⟨ret_str (by rw [← hall.out]; exact cat_list L [39]), hB⟩
set_option maxHeartbeats 1000000 in
theorem runlit_any (s : ByteArray) (w : World) (hs : s.size ≤ 50000000) :
    Calls Try.prog 8 #[.string s] w fun e w' => e = .returned (.tuple #[.string ⟨(uT (unlit [39, 34, 92] s.data.toList)).toArray⟩, .int .i64 (uN (unlit [39, 34, 92] s.data.toList)), .int .i64 (uE (unlit [39, 34, 92] s.data.toList))]) ∧ Below w.heap.size w w' := by
  by_cases h0 : s.size = 0
  · obtain rfl := empty_of s h0
    go_enter Try.func8, Try.ntmps8
    go_wp2_with fail
    go_ret3
    exact ⟨rfl, Below.refl _ _⟩
  · have he := nonempty s h0
    have h1 : (0 : Int) < s.size := by omega
    have h1' : 0 < s.size := by omega
    have e1 := unlit_at [39, 34, 92] s h1'
    generalize unlit [39, 34, 92] s.data.toList = R at *
    by_cases hq : s[0].toNat = 39 ∨ s[0].toNat = 34
    · rw [if_pos hq] at e1
      have HR : Hid (R = unl s[0] [39, 34, 92] (s.data.toList.drop 1) [] 1) := e1
      clear e1
      have hor : ((s[0].toNat : Int) != 39) = false ∨ (((s[0].toNat : Int) != 39) = true ∧ ((s[0].toNat : Int) != 34) = false) := by
        by_cases h39 : s[0].toNat = 39
        · left; simp; omega
        · right; simp; omega
      clear hq
      rcases hor with hx | ⟨hx, hy⟩
      all_goals
        go_enter Try.func8, Try.ntmps8
        go_wp2_with fail
        go_loopw [5, 6, 7, 8] (fun v i _ _ wx => ∃ (k : Nat) (T : List UInt8), i = .int .i64 k ∧ 1 ≤ k ∧ k ≤ s.size ∧ T.length ≤ k ∧ v = .string ⟨T.toArray⟩ ∧ Below w.heap.size w wx ∧ R = unl s[0] [39, 34, 92] (s.data.toList.drop k) T k) (fun _ i _ _ _ => s.size - (intOf i).toNat)
        case atStart => exact ⟨1, [], rfl, by omega, by omega, by simp, rfl, Below.refl _ _, HR.out⟩
        case round =>
          clear HR
          obtain ⟨k, T, rfl, hk1, hk2, hT, rfl, hB, hR⟩ := hrel
          have HR : Hid (R = unl s[0] [39, 34, 92] (s.data.toList.drop k) T k) := hR
          clear hR
          have hsz := hB.size
          have hk0 : (0 : Int) ≤ (k : Int) := by omega
          by_cases hlt : k < s.size
          · have hd : decide ((k : Int) < (s.size : Int)) = true := by simp; omega
            have hd' : decide (k < s.size) = true := by simp; omega
            have hlt' : (k : Int) < (s.size : Int) := by omega
            by_cases hqk : s[k].toNat = s[0].toNat
            · have eR : R = some (T, k + 1) := HR.out.trans (unl_stop _ s s[0] k T hlt (toNat_eq hqk))
              have hne : ((s[k].toNat : Int) != (s[0].toNat : Int)) = false := by simp; omega
              have hkk : decide (s.size ≤ k) = false := by simp; omega
              have HE : Hid (R = some (T, k + 1)) := eR
              clear HR eR hqk
              go_wp2_with fail
              go_quiet (fail)
              go_wp2_with fail
              go_ret3
              exact ⟨ret_three (by rw [HE.out]; rfl) (by rw [HE.out]; show (k : Int) + 1 = ((k + 1 : Nat) : Int); omega) (by rw [HE.out]; rfl), hB.trans (Go.Joins.below_draws _ _ _)⟩
            · have hne2 : ((s[k].toNat : Int) != (s[0].toNat : Int)) = true := by simp; omega
              have hneq : s[k] ≠ s[0] := fun e => hqk (by rw [e])
              have hP1 := (signAt_lt [39, 34, 92] (s.data.toList.drop k)).1
              have hP2 := (signAt_lt [39, 34, 92] (s.data.toList.drop k)).2
              rw [List.length_drop, llen] at hP2
              by_cases hz : (signAt [39, 34, 92] (s.data.toList.drop k)).2 = 0
              · have HE : Hid (R = none) := HR.out.trans (unl_none _ s s[0] k T hlt hneq hz)
                clear HR hneq
                generalize hP : signAt [39, 34, 92] (s.data.toList.drop k) = P at *
                have HP : Hid (signAt [39, 34, 92] (s.data.toList.drop k) = P) := hP
                have hx3 : ((P.2 : Int) == 0) = true := by simp; omega
                clear hP hqk hz
                go_wp2_with fail
                go_quiet (fail)
                go_wp2_with fail
                refine (said_any (s.extract k s.size) ⟨#[92, 39, 34]⟩ _ (by unfold maxLen; have := cut_size s k; omega) gd_perm_lt).mono ?_
                rintro e w1 ⟨rfl, hb⟩
                rw [cut_list s k, show (⟨#[92, 39, 34]⟩ : ByteArray).data.toList = [92, 39, 34] from rfl, signAt_perm, HP.out]
                have hB2 := b_call (hB.trans (Go.Joins.below_draws _ _ _)) hb
                clear hb hB
                go_wp2_with fail
                go_ret3
                exact ⟨by rw [HE.out] <;> rfl, hB2⟩
              · have HE : Hid (R = _) := HR.out.trans (unl_next _ s s[0] k T hlt hneq hz)
                clear HR hneq
                generalize hP : signAt [39, 34, 92] (s.data.toList.drop k) = P at *
                have HP : Hid (signAt [39, 34, 92] (s.data.toList.drop k) = P) := hP
                have hx3 : ((P.2 : Int) == 0) = false := by simp; omega
                clear hP hqk
                go_wp2_with fail
                go_quiet (fail)
                go_wp2_with fail
                refine (said_any (s.extract k s.size) ⟨#[92, 39, 34]⟩ _ (by unfold maxLen; have := cut_size s k; omega) gd_perm_lt).mono ?_
                rintro e w2 ⟨rfl, hb⟩
                rw [cut_list s k, show (⟨#[92, 39, 34]⟩ : ByteArray).data.toList = [92, 39, 34] from rfl, signAt_perm, HP.out]
                have hB2 := b_call (hB.trans (Go.Joins.below_draws _ _ _)) hb
                have hconv := conv_num P.1 hP1 w2
                have hsz2 := hB2.size
                clear hb hB
                go_wp2_with fail
                rw [cat_list]
                exact ⟨⟨k + P.2, T ++ [UInt8.ofNat P.1], by go_num, by omega, by omega, by rw [List.length_append, List.length_singleton]; omega, rfl, hB2.alloc hsz2 _, HE.out⟩, by simp [intOf]; omega⟩
          · have HE : Hid (R = none) := HR.out.trans (unl_over _ s s[0] k T (by omega))
            have hd : decide ((k : Int) < (s.size : Int)) = false := by simp; omega
            have hd' : decide (k < s.size) = false := by simp; omega
            have hkk : decide (s.size ≤ k) = true := by simp; omega
            clear HR
            go_wp2_with fail
            go_quiet (fail)
            go_wp2_with fail
            go_ret3
            exact ⟨by rw [HE.out] <;> rfl, hB.trans (Go.Joins.below_draws _ _ _)⟩
    · rw [if_neg hq] at e1
      subst e1
      have x1 : ((s[0].toNat : Int) != 39) = true := by simp; omega
      have x2 : ((s[0].toNat : Int) != 34) = true := by simp; omega
      clear hq
      go_enter Try.func8, Try.ntmps8
      go_wp2_with fail
      go_ret3
      exact ⟨rfl, Below.refl _ _⟩
set_option maxHeartbeats 1000000 in
theorem lits_any (s t : ByteArray) (w : World) (hs : s.size + t.size ≤ 1048576) :
    Calls Try.prog 3 #[.string s, .string t] w fun e w' => e = .returned (.bool true) ∧ Below w.heap.size w w' := by
  go_enter Try.func3, Try.ntmps3
  go_wp2_with fail
  refine (unlit_any t _ (by omega)).mono ?_
  rintro e w1 ⟨rfl, hB1⟩
  go_wp2_with fail
  refine (runlit_any t _ (by omega)).mono ?_
  rintro e w2 ⟨rfl, hB2⟩
  have hB := b_call hB1 hB2
  clear hB1 hB2
  generalize uT (unlit [39, 34, 92] t.data.toList) = a at *
  generalize uN (unlit [39, 34, 92] t.data.toList) = b at *
  generalize uE (unlit [39, 34, 92] t.data.toList) = c at *
  go_wp2_with fail
  refine (lit_any s _ (by omega)).mono ?_
  rintro e w3 ⟨rfl, hB3⟩
  have hB4 := b_call hB hB3
  clear hB hB3
  go_wp2_with fail
  refine (rlit_any s _ (by omega)).mono ?_
  rintro e w5 ⟨rfl, hB5⟩
  have hB6 := b_call hB4 hB5
  clear hB4 hB5
  generalize lit s.data.toList = L at *
  go_wp2_with fail
  go_ret
  exact ⟨by simp, hB6⟩
end Go.Proofs.Ytediipndkejnkaa
