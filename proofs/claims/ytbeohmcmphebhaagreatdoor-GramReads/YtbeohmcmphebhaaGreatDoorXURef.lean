import Derived.Test.YtbeohmcmphebhaaGreatDoorXQRef
import Derived.Deep.QuietTactic
import Derived.BigQuiet
import Derived.Lib.SmallJoins
namespace Go.Proofs.YtbeohmcmphebhaaGreatDoor
open Go.RowKit
theorem drop_cons (s : ByteArray) (k : Nat) (h : k < s.size) : s.data.toList.drop k = s[k] :: s.data.toList.drop (k + 1) := by
  rw [List.drop_eq_getElem_cons (by simpa using h)]; rfl
theorem unlit_at (g : List UInt8) (s : ByteArray) (h : 0 < s.size) : unlit g s.data.toList = if s[0].toNat = 39 ∨ s[0].toNat = 34 then unl s[0] g (s.data.toList.drop 1) [] 1 else none := by
  obtain ⟨⟨l⟩⟩ := s
  match l, h with
  | [], h => simp [ByteArray.size] at h
  | _ :: _, h => rfl
theorem cut_list (s : ByteArray) (k : Nat) : (s.extract k s.size).data.toList = s.data.toList.drop k := by
  rw [ByteArray.data_extract, Array.toList_extract, List.extract_eq_take_drop, List.take_of_length_le (by rw [List.length_drop, llen]; omega)]
theorem cut_size (s : ByteArray) (k : Nat) : (s.extract k s.size).size ≤ s.size := by
  simp
theorem unl_stop (g : List UInt8) (s : ByteArray) (q : UInt8) (k : Nat) (T : List UInt8) (hk : k < s.size) (h : s[k] = q) : unl q g (s.data.toList.drop k) T k = some (T, k + 1) := by
  rw [drop_cons s k hk, h, unl_end]
theorem unl_none (g : List UInt8) (s : ByteArray) (q : UInt8) (k : Nat) (T : List UInt8) (hk : k < s.size) (h : s[k] ≠ q) (h0 : (signAt g (s.data.toList.drop k)).2 = 0) : unl q g (s.data.toList.drop k) T k = none := by
  rw [drop_cons s k hk] at h0 ⊢
  exact unl_bad _ _ _ _ _ _ h h0
theorem unl_next (g : List UInt8) (s : ByteArray) (q : UInt8) (k : Nat) (T : List UInt8) (hk : k < s.size) (h : s[k] ≠ q) (h0 : (signAt g (s.data.toList.drop k)).2 ≠ 0) :
    unl q g (s.data.toList.drop k) T k = unl q g (s.data.toList.drop (k + (signAt g (s.data.toList.drop k)).2)) (T ++ [UInt8.ofNat (signAt g (s.data.toList.drop k)).1]) (k + (signAt g (s.data.toList.drop k)).2) := by
  have e := drop_cons s k hk
  rw [← List.drop_drop]
  generalize s.data.toList.drop k = D at *
  subst e
  exact unl_on _ _ _ _ _ _ h h0
theorem unl_over (g : List UInt8) (s : ByteArray) (q : UInt8) (k : Nat) (T : List UInt8) (hk : s.size ≤ k) : unl q g (s.data.toList.drop k) T k = none := by
  rw [List.drop_eq_nil_of_le (by rw [llen]; exact hk), unl_nil]
theorem bcs_one (n : Nat) (h : n < 256) : bcs [UInt8.ofNat n] = [.int .u8 (n : Int)] := by
  simp [bcs]; omega
theorem ret_three {a a' : List UInt8} {b b' c c' : Int} (h1 : a = a') (h2 : b = b') (h3 : c = c') : Ending.returned (.tuple #[.string ⟨a.toArray⟩, .int .i64 b, .int .i64 c]) = .returned (.tuple #[.string ⟨a'.toArray⟩, .int .i64 b', .int .i64 c']) := by rw [h1, h2, h3]
theorem uR_none : uT none = [] ∧ uN none = 0 ∧ uE none = 4 := ⟨rfl, rfl, rfl⟩
set_option maxHeartbeats 1000000 in
theorem unlit_any (s : ByteArray) (w : World) (hs : s.size ≤ 50000000) :
    Calls Tryz.prog 118 #[.string s] w fun e w' => e = .returned (.tuple #[.string ⟨(uT (unlit [39, 34, 92] s.data.toList)).toArray⟩, .int .i64 (uN (unlit [39, 34, 92] s.data.toList)), .int .i64 (uE (unlit [39, 34, 92] s.data.toList))]) ∧ Below w.heap.size w w' := by
  obtain ⟨i0, hi, hz0, hz1, hz2⟩ := info_parts Tryz.info5
  by_cases h0 : s.size = 0
  · obtain rfl := empty_of s h0
    go_enter Tryz.func118, Tryz.ntmps118
    go_wp2_with fail
    go_ret3
    exact ⟨rfl, Below.refl _ _⟩
  · have he := nonempty s h0
    have h1 : (0 : Int) < s.size := by omega
    have h1' : 0 < s.size := by omega
    have e1 := unlit_at [39, 34, 92] s h1'
    generalize unlit [39, 34, 92] s.data.toList = R at *
    by_cases hq : s[0].toNat = 39 ∨ s[0].toNat = 34
    · rw [if_pos hq] at e1
      have HR : Hid (R = unl s[0] [39, 34, 92] (s.data.toList.drop 1) [] 1) := e1
      clear e1
      have hor : ((s[0].toNat : Int) != 39) = false ∨ (((s[0].toNat : Int) != 39) = true ∧ ((s[0].toNat : Int) != 34) = false) := by
        by_cases h39 : s[0].toNat = 39
        · left; simp; omega
        · right; simp; omega
      clear hq
      rcases hor with hx | ⟨hx, hy⟩
      all_goals
        go_enter Tryz.func118, Tryz.ntmps118
        go_wp2_with fail
        go_loopw [5, 6, 7, 8] (fun v i _ _ wx => ∃ (k : Nat) (T : List UInt8), i = .int .i64 k ∧ 1 ≤ k ∧ k ≤ s.size ∧ T.length ≤ k ∧ Holds wx w.heap.size v T ∧ Below w.heap.size w wx ∧ R = unl s[0] [39, 34, 92] (s.data.toList.drop k) T k) (fun _ i _ _ _ => s.size - (intOf i).toNat)
        case atStart => exact ⟨1, [], rfl, by omega, by omega, by simp, World.ownsRow_nil _ _ _ _, Below.refl _ _, HR.out⟩
        case round =>
          clear HR
          obtain ⟨k, T, rfl, hk1, hk2, hT, hown, hB, hR⟩ := hrel
          have HR : Hid (R = unl s[0] [39, 34, 92] (s.data.toList.drop k) T k) := hR
          clear hR
          have hsz := hB.size
          have hk0 : (0 : Int) ≤ (k : Int) := by omega
          by_cases hlt : k < s.size
          · have hd : decide ((k : Int) < (s.size : Int)) = true := by simp; omega
            have hd' : decide (k < s.size) = true := by simp; omega
            have hlt' : (k : Int) < (s.size : Int) := by omega
            by_cases hqk : s[k].toNat = s[0].toNat
            · have eR : R = some (T, k + 1) := HR.out.trans (unl_stop _ s s[0] k T hlt (toNat_eq hqk))
              have hne : ((s[k].toNat : Int) != (s[0].toNat : Int)) = false := by simp; omega
              have hkk : ((k : Int) == (s.size : Int)) = false := by simp; omega
              have HE : Hid (R = some (T, k + 1)) := eR
              have hconv := (hown.below (Below.refl _ _)).conv
              clear HR eR hqk
              go_wp2_with fail
              go_quiet (fail)
              have hconv2 : ∀ nq, (convert 53 9 u5).run Tryz.prog (wr.drewN nq) = .ok (.string ⟨T.toArray⟩) (wr.drewN nq) := fun nq => (Holds.below hown (Go.Joins.below_draws _ _ _)).conv
              go_wp2_with fail
              go_ret3
              exact ⟨ret_three (by rw [HE.out]; rfl) (by rw [HE.out]; show (k : Int) + 1 = ((k + 1 : Nat) : Int); omega) (by rw [HE.out]; rfl), hB.trans (Go.Joins.below_draws _ _ _)⟩
            · have hne2 : ((s[k].toNat : Int) != (s[0].toNat : Int)) = true := by simp; omega
              have hneq : s[k] ≠ s[0] := fun e => hqk (by rw [e])
              have hP1 := (signAt_lt [39, 34, 92] (s.data.toList.drop k)).1
              have hP2 := (signAt_lt [39, 34, 92] (s.data.toList.drop k)).2
              rw [List.length_drop, llen] at hP2
              by_cases hz : (signAt [39, 34, 92] (s.data.toList.drop k)).2 = 0
              · have HE : Hid (R = none) := HR.out.trans (unl_none _ s s[0] k T hlt hneq hz)
                clear HR hneq
                generalize hP : signAt [39, 34, 92] (s.data.toList.drop k) = P at *
                have HP : Hid (signAt [39, 34, 92] (s.data.toList.drop k) = P) := hP
                have hx3 : ((P.2 : Int) == 0) = true := by simp; omega
                clear hP hqk hz
                go_wp2_with fail
                go_quiet (fail)
                go_wp2_with fail
                refine (signAt_any (s.extract k s.size) ⟨#[39, 34, 92]⟩ _ (by unfold maxLen; have := cut_size s k; omega)).mono ?_
                rintro e w1 ⟨rfl, n1, rfl⟩
                rw [cut_list s k, show (⟨#[39, 34, 92]⟩ : ByteArray).data.toList = [39, 34, 92] from rfl, HP.out]
                go_wp2_with fail
                go_ret3
                exact ⟨by rw [HE.out] <;> rfl, hB.trans (Go.Joins.below_draws _ _ _)⟩
              · have HE : Hid (R = _) := HR.out.trans (unl_next _ s s[0] k T hlt hneq hz)
                clear HR hneq
                generalize hP : signAt [39, 34, 92] (s.data.toList.drop k) = P at *
                have HP : Hid (signAt [39, 34, 92] (s.data.toList.drop k) = P) := hP
                have hx3 : ((P.2 : Int) == 0) = false := by simp; omega
                clear hP hqk
                go_wp2_with fail
                go_quiet (fail)
                go_wp2_with fail
                refine (signAt_any (s.extract k s.size) ⟨#[39, 34, 92]⟩ _ (by unfold maxLen; have := cut_size s k; omega)).mono ?_
                rintro e w1 ⟨rfl, n1, rfl⟩
                rw [cut_list s k, show (⟨#[39, 34, 92]⟩ : ByteArray).data.toList = [39, 34, 92] from rfl, HP.out]
                obtain ⟨w2, hw2⟩ : ∃ w2, w2 = (wr.drewN nq).drewN n1 := ⟨_, rfl⟩
                rw [← hw2]
                have hb2 : Below wr.heap.size wr w2 := by rw [hw2]; exact (Go.Joins.below_draws _ _ _).trans (Go.Joins.below_draws _ _ _)
                have hown2 := hown.below hb2
                have hB2 := hB.trans (hb2.mono hsz)
                have hsz2 := hB2.size
                clear hw2 hown hB hb2
                go_wp2_with (at_builtin; refine wpList_append_own _ rfl _ _ 53 rfl w.heap.size 5 i0 (.int .u8 0) 1 1 Tryz.underlying53 hi hz0 hz1 hz2 rfl (by decide) _ _ _ rfl (hown2.alloc _) ⟨w2.heap.size, 0, none⟩ 1 1 [.int .u8 (P.1 : Int)] rfl rfl ?c1 ?c2 ?c3 ?c4 ?c5 ?_)
                case c1 =>
                  intro j u hj
                  match j, hj with
                  | 0, hj => simp at hj; subst hj; simp [Addr.add]
                case c2 => intro u hu; simp at hu; subst hu; rfl
                case c3 => unfold maxLen; omega
                case c4 => omega
                case c5 => simp; omega
                intro v' w3 hown3 hgrow _
                have hown4 : Holds w3 w.heap.size v' (T ++ [UInt8.ofNat P.1]) := by unfold Holds; rw [bcs_app, List.length_append, bcs_one P.1 hP1]; exact hown3
                have HO : Hid (Holds w3 w.heap.size v' (T ++ [UInt8.ofNat P.1])) := hown4
                have hB3 := (hB2.alloc hsz2 _).grown hgrow (by simp; omega) (fun q hq => (World.ownsRow.lt hown2 _ hq).1)
                clear hown2 hown3 hown4 hgrow hB2
                go_wp2_with fail
                exact ⟨⟨k + P.2, T ++ [UInt8.ofNat P.1], by go_num, by omega, by omega, by rw [List.length_append, List.length_singleton]; omega, HO.out, hB3, HE.out⟩, by simp [intOf]; omega⟩
          · have HE : Hid (R = none) := HR.out.trans (unl_over _ s s[0] k T (by omega))
            have hd : decide ((k : Int) < (s.size : Int)) = false := by simp; omega
            have hd' : decide (k < s.size) = false := by simp; omega
            have hkk : ((k : Int) == (s.size : Int)) = true := by simp; omega
            clear HR
            go_wp2_with fail
            go_quiet (fail)
            go_wp2_with fail
            go_ret3
            exact ⟨by rw [HE.out] <;> rfl, hB.trans (Go.Joins.below_draws _ _ _)⟩
    · rw [if_neg hq] at e1
      subst e1
      have x1 : ((s[0].toNat : Int) != 39) = true := by simp; omega
      have x2 : ((s[0].toNat : Int) != 34) = true := by simp; omega
      clear hq
      go_enter Tryz.func118, Tryz.ntmps118
      go_wp2_with fail
      go_ret3
      exact ⟨rfl, Below.refl _ _⟩
end Go.Proofs.YtbeohmcmphebhaaGreatDoor
namespace Go.Proofs.YtbeohmcmphebhaaGreatDoor
open Go.RowKit
set_option maxHeartbeats 1000000 in
set_option maxHeartbeats 1000000 in
set_option maxHeartbeats 1000000 in
theorem value_any (c : UInt8) (w : World) :
    Calls Tryz.prog 76 #[.int .u8 (c.toNat : Int)] w fun e w' => e = .returned (.int .i64 (Lib.indexByte hexs c)) ∧ Below w.heap.size w w' := by
  have hconv := conv_one c w
  go_enter Tryz.func76, Tryz.ntmps76
  go_wp2_with fail
  refine (Tryz.strings_Index_one _ c _).mono ?_
  rintro e w1 ⟨rfl, rfl⟩
  go_wp2_with fail
  go_ret
  exact ⟨rfl, (Below.refl _ _).alloc (Nat.le_refl _) _⟩
theorem one_cut (s : ByteArray) (h : 1 < s.size) : s.extract 1 2 = ⟨#[s[1]]⟩ := by
  obtain ⟨⟨l⟩⟩ := s
  match l, h with
  | [], h => simp [ByteArray.size] at h
  | [_], h => simp [ByteArray.size] at h
  | a :: b :: r, h => apply ByteArray.ext; simp; rfl
theorem hexAt_yes (s : ByteArray) (h : 4 ≤ s.size) (h1 : 0 ≤ Lib.indexByte hexs s[2]) (h2 : 0 ≤ Lib.indexByte hexs s[3]) : hexAt s.data.toList = (16 * (Lib.indexByte hexs s[2]).toNat + (Lib.indexByte hexs s[3]).toNat, 4) := by
  rw [hexAt_at s h, if_pos ⟨h1, h2⟩]
theorem hexAt_no (s : ByteArray) (h : 4 ≤ s.size) (h1 : ¬ (0 ≤ Lib.indexByte hexs s[2] ∧ 0 ≤ Lib.indexByte hexs s[3])) : hexAt s.data.toList = (0, 0) := by
  rw [hexAt_at s h, if_neg h1]
set_option maxRecDepth 20000 in
set_option maxHeartbeats 1000000 in
theorem said_any (s g : ByteArray) (w : World) (hs : s.size ≤ maxLen) (hg : ∀ c, gd g.data.toList c = true → c.toNat < 128) :
    Calls Tryz.prog 51 #[.string s, .string g] w fun e w' => e = .returned (.tuple #[.int .i64 ((signAt g.data.toList s.data.toList).1 : Int), .int .i64 ((signAt g.data.toList s.data.toList).2 : Int)]) ∧ Below w.heap.size w w' := by
  have HG : Hid (∀ c, gd g.data.toList c = true → c.toNat < 128) := hg
  clear hg
  unfold maxLen at hs
  by_cases h0 : s.size = 0
  · obtain rfl := empty_of s h0
    go_enter Tryz.func51, Tryz.ntmps51
    go_wp2_with fail
    go_ret2
    exact ⟨rfl, Below.refl _ _⟩
  · have he := nonempty s h0
    have h1 : (0 : Int) < s.size := by omega
    have h1' : 0 < s.size := by omega
    have hb0 := s[0].toNat_lt
    have e1 := signAt_at g.data.toList s h1'
    generalize signAt g.data.toList s.data.toList = R at *
    by_cases a10 : s[0].toNat = 10
    · rw [if_pos a10] at e1
      subst e1
      have hx : ((s[0].toNat : Int) == 10) = true := by simp; omega
      clear a10
      go_enter Tryz.func51, Tryz.ntmps51
      go_wp2_with fail
      go_ret2
      exact ⟨rfl, Below.refl _ _⟩
    · rw [if_neg a10] at e1
      have hx : ((s[0].toNat : Int) == 10) = false := by simp; omega
      by_cases a92 : s[0].toNat ≠ 92
      · rw [if_pos a92] at e1
        subst e1
        have hy : ((s[0].toNat : Int) == 92) = false := by simp; omega
        clear a10 a92
        go_enter Tryz.func51, Tryz.ntmps51
        go_wp2_with fail
        go_ret2
        exact ⟨rfl, Below.refl _ _⟩
      · rw [if_neg a92] at e1
        have hy : ((s[0].toNat : Int) == 92) = true := by simp; omega
        clear a10 a92
        by_cases h2 : s.size < 2
        · rw [strokeAt_short _ s h2] at e1
          subst e1
          have hz : ((s.size : Int) == 1) = true := by simp; omega
          go_enter Tryz.func51, Tryz.ntmps51
          go_wp2_with fail
          go_ret2
          exact ⟨rfl, Below.refl _ _⟩
        · rw [strokeAt_at _ s (by omega)] at e1
          have hz : ((s.size : Int) == 1) = false := by simp; omega
          have h3 : (1 : Int) < s.size := by omega
          have h3' : 1 < s.size := by omega
          have hb1 := s[1].toNat_lt
          by_cases b110 : s[1].toNat = 110
          · rw [if_pos b110] at e1
            subst e1
            have hu : ((s[1].toNat : Int) == 110) = true := by simp; omega
            clear b110
            go_enter Tryz.func51, Tryz.ntmps51
            go_wp2_with fail
            go_ret2
            exact ⟨rfl, Below.refl _ _⟩
          · rw [if_neg b110] at e1
            have hu : ((s[1].toNat : Int) == 110) = false := by simp; omega
            clear b110
            by_cases b116 : s[1].toNat = 116
            · rw [if_pos b116] at e1
              subst e1
              have hv : ((s[1].toNat : Int) == 116) = true := by simp; omega
              clear b116
              go_enter Tryz.func51, Tryz.ntmps51
              go_wp2_with fail
              go_ret2
              exact ⟨rfl, Below.refl _ _⟩
            · rw [if_neg b116] at e1
              have hv : ((s[1].toNat : Int) == 116) = false := by simp; omega
              clear b116
              by_cases b120 : s[1].toNat = 120
              · rw [if_pos b120] at e1
                have hq : ((s[1].toNat : Int) == 120) = true := by simp; omega
                clear b120
                by_cases h4 : s.size < 4
                · rw [hexAt_short s h4] at e1
                  subst e1
                  have hr : decide ((s.size : Int) < 4) = true := by simp; omega
                  go_enter Tryz.func51, Tryz.ntmps51
                  go_wp2_with fail
                  go_ret2
                  exact ⟨rfl, Below.refl _ _⟩
                · have hr : decide ((s.size : Int) < 4) = false := by simp; omega
                  have h5 : (2 : Int) < s.size := by omega
                  have h6 : (3 : Int) < s.size := by omega
                  have h5' : 2 < s.size := by omega
                  have h6' : 3 < s.size := by omega
                  have c1 : Lib.indexByte hexs s[2] < 16 := idx_lt hexs s[2]
                  have c2 : Lib.indexByte hexs s[3] < 16 := idx_lt hexs s[3]
                  have c3 := Lib.indexByte_ge hexs s[2]
                  have c4 := Lib.indexByte_ge hexs s[3]
                  by_cases hX : 0 ≤ Lib.indexByte hexs s[2]
                  · by_cases hY : 0 ≤ Lib.indexByte hexs s[3]
                    · have HE : Hid (R = _) := e1.trans (hexAt_yes s (by omega) hX hY)
                      have x1 : decide (Lib.indexByte hexs s[2] < 0) = false := by simp; omega
                      have x2 : decide (Lib.indexByte hexs s[3] < 0) = false := by simp; omega
                      clear e1
                      go_enter Tryz.func51, Tryz.ntmps51
                      go_wp2_with fail
                      refine (value_any s[2] _).mono ?_
                      rintro e w1 ⟨rfl, hB1⟩
                      go_wp2_with fail
                      refine (value_any s[3] _).mono ?_
                      rintro e w2 ⟨rfl, hB2⟩
                      have hB := b_call hB1 hB2
                      clear hB1 hB2
                      go_wp2_with fail
                      go_region_held3 (fun w' => Below w.heap.size w w') (first | exact b_call (by assumption) hb | assumption | exact Below.drew (by assumption)) ((go_at_call 76; refine (value_any _ _).mono ?_; rintro e w3 ⟨rfl, hb⟩))
                      all_goals
                        have hBe : Below w.heap.size w w3 := by assumption
                        generalize Lib.indexByte hexs s[2] = X at *
                        generalize Lib.indexByte hexs s[3] = Y at *
                        rw [wrapSmall (16 * X) (by omega) (by omega), wrapSmall (16 * X + Y) (by omega) (by omega)]
                        go_wp2_with fail
                        go_ret2
                        exact ⟨ret_two (by rw [HE.out]; show _ = ((16 * X.toNat + Y.toNat : Nat) : Int); omega) (by rw [HE.out]; rfl), hBe⟩
                    · have HE : Hid (R = (0, 0)) := e1.trans (hexAt_no s (by omega) (by omega))
                      have x1 : decide (Lib.indexByte hexs s[2] < 0) = false := by simp; omega
                      have x2 : decide (Lib.indexByte hexs s[3] < 0) = true := by simp; omega
                      clear e1
                      go_enter Tryz.func51, Tryz.ntmps51
                      go_wp2_with fail
                      refine (value_any s[2] _).mono ?_
                      rintro e w1 ⟨rfl, hB1⟩
                      go_wp2_with fail
                      refine (value_any s[3] _).mono ?_
                      rintro e w2 ⟨rfl, hB2⟩
                      have hB := b_call hB1 hB2
                      clear hB1 hB2
                      go_wp2_with fail
                      go_ret2
                      exact ⟨by rw [HE.out] <;> rfl, hB⟩
                  · have HE : Hid (R = (0, 0)) := e1.trans (hexAt_no s (by omega) (by omega))
                    have x1 : decide (Lib.indexByte hexs s[2] < 0) = true := by simp; omega
                    clear e1
                    go_enter Tryz.func51, Tryz.ntmps51
                    go_wp2_with fail
                    refine (value_any s[2] _).mono ?_
                    rintro e w1 ⟨rfl, hB1⟩
                    go_wp2_with fail
                    go_ret2
                    exact ⟨by rw [HE.out] <;> rfl, hB1⟩
              · rw [if_neg b120] at e1
                have hq : ((s[1].toNat : Int) == 120) = false := by simp; omega
                clear b120
                have HC : Hid (s.extract 1 2 = ⟨#[s[1]]⟩) := one_cut s h3'
                cases hg : gd g.data.toList s[1]
                · have hgf := gd_false hg
                  rw [hg] at e1
                  simp only [Bool.false_eq_true, if_false] at e1
                  subst e1
                  clear hg
                  go_enter Tryz.func51, Tryz.ntmps51
                  go_wp2_with fail
                  rw [HC.out]
                  refine (Tryz.strings_Contains_one g s[1] _).mono ?_
                  rintro e w1 ⟨rfl, rfl⟩
                  rw [hgf]
                  go_wp2_with fail
                  go_ret2
                  exact ⟨rfl, Below.refl _ _⟩
                · have hgf := gd_true hg
                  have h128 := HG.out _ hg
                  have hd : decide ((s[1].toNat : Int) < 128) = true := by simp; omega
                  rw [hg] at e1
                  simp only [if_true] at e1
                  subst e1
                  clear hg
                  go_enter Tryz.func51, Tryz.ntmps51
                  go_wp2_with fail
                  rw [HC.out]
                  refine (Tryz.strings_Contains_one g s[1] _).mono ?_
                  rintro e w1 ⟨rfl, rfl⟩
                  rw [hgf]
                  go_wp2_with fail
                  go_ret2
                  exact ⟨rfl, Below.refl _ _⟩
end Go.Proofs.YtbeohmcmphebhaaGreatDoor
