import Derived.Test.YtbeohmcmphebhaaDoorXUAt
import Derived.Deep.QuietTactic
import Derived.BigQuiet
import Derived.Lib.SmallJoins
namespace Go.Proofs.YtbeohmcmphebhaaDoor
open Go.RowKit
theorem drop_cons (s : ByteArray) (k : Nat) (h : k < s.size) : s.data.toList.drop k = s[k] :: s.data.toList.drop (k + 1) := by
  rw [List.drop_eq_getElem_cons (by simpa using h)]; rfl
theorem unlit_at (g : List UInt8) (s : ByteArray) (h : 0 < s.size) : unlit g s.data.toList = if s[0].toNat = 39 ∨ s[0].toNat = 34 then unl s[0] g (s.data.toList.drop 1) [] 1 else none := by
  obtain ⟨⟨l⟩⟩ := s
  match l, h with
  | [], h => simp [ByteArray.size] at h
  | _ :: _, h => rfl
theorem cut_list (s : ByteArray) (k : Nat) : (s.extract k s.size).data.toList = s.data.toList.drop k := by
  rw [ByteArray.data_extract, Array.toList_extract, List.extract_eq_take_drop, List.take_of_length_le (by rw [List.length_drop, llen]; omega)]
theorem cut_size (s : ByteArray) (k : Nat) : (s.extract k s.size).size ≤ s.size := by
  simp
theorem unl_stop (g : List UInt8) (s : ByteArray) (q : UInt8) (k : Nat) (T : List UInt8) (hk : k < s.size) (h : s[k] = q) : unl q g (s.data.toList.drop k) T k = some (T, k + 1) := by
  rw [drop_cons s k hk, h, unl_end]
theorem unl_none (g : List UInt8) (s : ByteArray) (q : UInt8) (k : Nat) (T : List UInt8) (hk : k < s.size) (h : s[k] ≠ q) (h0 : (signAt g (s.data.toList.drop k)).2 = 0) : unl q g (s.data.toList.drop k) T k = none := by
  rw [drop_cons s k hk] at h0 ⊢
  exact unl_bad _ _ _ _ _ _ h h0
theorem unl_next (g : List UInt8) (s : ByteArray) (q : UInt8) (k : Nat) (T : List UInt8) (hk : k < s.size) (h : s[k] ≠ q) (h0 : (signAt g (s.data.toList.drop k)).2 ≠ 0) :
    unl q g (s.data.toList.drop k) T k = unl q g (s.data.toList.drop (k + (signAt g (s.data.toList.drop k)).2)) (T ++ [UInt8.ofNat (signAt g (s.data.toList.drop k)).1]) (k + (signAt g (s.data.toList.drop k)).2) := by
  have e := drop_cons s k hk
  rw [← List.drop_drop]
  generalize s.data.toList.drop k = D at *
  subst e
  exact unl_on _ _ _ _ _ _ h h0
theorem unl_over (g : List UInt8) (s : ByteArray) (q : UInt8) (k : Nat) (T : List UInt8) (hk : s.size ≤ k) : unl q g (s.data.toList.drop k) T k = none := by
  rw [List.drop_eq_nil_of_le (by rw [llen]; exact hk), unl_nil]
theorem bcs_one (n : Nat) (h : n < 256) : bcs [UInt8.ofNat n] = [.int .u8 (n : Int)] := by
  simp [bcs]; omega
theorem ret_three {a a' : List UInt8} {b b' c c' : Int} (h1 : a = a') (h2 : b = b') (h3 : c = c') : Ending.returned (.tuple #[.string ⟨a.toArray⟩, .int .i64 b, .int .i64 c]) = .returned (.tuple #[.string ⟨a'.toArray⟩, .int .i64 b', .int .i64 c']) := by rw [h1, h2, h3]
theorem uR_none : uT none = [] ∧ uN none = 0 ∧ uE none = 4 := ⟨rfl, rfl, rfl⟩
set_option maxHeartbeats 1000000 in
theorem unlit_any (s : ByteArray) (w : World) (hs : s.size ≤ 50000000) :
    Calls Tryd.prog 101 #[.string s] w fun e w' => e = .returned (.tuple #[.string ⟨(uT (unlit [39, 34, 92] s.data.toList)).toArray⟩, .int .i64 (uN (unlit [39, 34, 92] s.data.toList)), .int .i64 (uE (unlit [39, 34, 92] s.data.toList))]) ∧ Below w.heap.size w w' := by
  obtain ⟨i0, hi, hz0, hz1, hz2⟩ := info_parts Tryd.info5
  by_cases h0 : s.size = 0
  · obtain rfl := empty_of s h0
    go_enter Tryd.func101, Tryd.ntmps101
    go_wp2_with fail
    go_ret3
    exact ⟨rfl, Below.refl _ _⟩
  · have he := nonempty s h0
    have h1 : (0 : Int) < s.size := by omega
    have h1' : 0 < s.size := by omega
    have e1 := unlit_at [39, 34, 92] s h1'
    generalize unlit [39, 34, 92] s.data.toList = R at *
    by_cases hq : s[0].toNat = 39 ∨ s[0].toNat = 34
    · rw [if_pos hq] at e1
      have HR : Hid (R = unl s[0] [39, 34, 92] (s.data.toList.drop 1) [] 1) := e1
      clear e1
      have hor : ((s[0].toNat : Int) != 39) = false ∨ (((s[0].toNat : Int) != 39) = true ∧ ((s[0].toNat : Int) != 34) = false) := by
        by_cases h39 : s[0].toNat = 39
        · left; simp; omega
        · right; simp; omega
      clear hq
      rcases hor with hx | ⟨hx, hy⟩
      all_goals
        go_enter Tryd.func101, Tryd.ntmps101
        go_wp2_with fail
        go_loopw [5, 6, 7, 8] (fun v i _ _ wx => ∃ (k : Nat) (T : List UInt8), i = .int .i64 k ∧ 1 ≤ k ∧ k ≤ s.size ∧ T.length ≤ k ∧ Holds wx w.heap.size v T ∧ Below w.heap.size w wx ∧ R = unl s[0] [39, 34, 92] (s.data.toList.drop k) T k) (fun _ i _ _ _ => s.size - (intOf i).toNat)
        case atStart => exact ⟨1, [], rfl, by omega, by omega, by simp, World.ownsRow_nil _ _ _ _, Below.refl _ _, HR.out⟩
        case round =>
          clear HR
          obtain ⟨k, T, rfl, hk1, hk2, hT, hown, hB, hR⟩ := hrel
          have HR : Hid (R = unl s[0] [39, 34, 92] (s.data.toList.drop k) T k) := hR
          clear hR
          have hsz := hB.size
          have hk0 : (0 : Int) ≤ (k : Int) := by omega
          by_cases hlt : k < s.size
          · have hd : decide ((k : Int) < (s.size : Int)) = true := by simp; omega
            have hd' : decide (k < s.size) = true := by simp; omega
            have hlt' : (k : Int) < (s.size : Int) := by omega
            by_cases hqk : s[k].toNat = s[0].toNat
            · have eR : R = some (T, k + 1) := HR.out.trans (unl_stop _ s s[0] k T hlt (toNat_eq hqk))
              have hne : ((s[k].toNat : Int) != (s[0].toNat : Int)) = false := by simp; omega
              have hkk : ((k : Int) == (s.size : Int)) = false := by simp; omega
              have HE : Hid (R = some (T, k + 1)) := eR
              have hconv := (hown.below (Below.refl _ _)).conv
              clear HR eR hqk
              go_wp2_with fail
              go_quiet (fail)
              have hconv2 : ∀ nq, (convert 49 9 u5).run Tryd.prog (wr.drewN nq) = .ok (.string ⟨T.toArray⟩) (wr.drewN nq) := fun nq => (Holds.below hown (Go.Joins.below_draws _ _ _)).conv
              go_wp2_with fail
              go_ret3
              exact ⟨ret_three (by rw [HE.out]; rfl) (by rw [HE.out]; show (k : Int) + 1 = ((k + 1 : Nat) : Int); omega) (by rw [HE.out]; rfl), hB.trans (Go.Joins.below_draws _ _ _)⟩
            · have hne2 : ((s[k].toNat : Int) != (s[0].toNat : Int)) = true := by simp; omega
              have hneq : s[k] ≠ s[0] := fun e => hqk (by rw [e])
              have hP1 := (signAt_lt [39, 34, 92] (s.data.toList.drop k)).1
              have hP2 := (signAt_lt [39, 34, 92] (s.data.toList.drop k)).2
              rw [List.length_drop, llen] at hP2
              by_cases hz : (signAt [39, 34, 92] (s.data.toList.drop k)).2 = 0
              · have HE : Hid (R = none) := HR.out.trans (unl_none _ s s[0] k T hlt hneq hz)
                clear HR hneq
                generalize hP : signAt [39, 34, 92] (s.data.toList.drop k) = P at *
                have HP : Hid (signAt [39, 34, 92] (s.data.toList.drop k) = P) := hP
                have hx3 : ((P.2 : Int) == 0) = true := by simp; omega
                clear hP hqk hz
                go_wp2_with fail
                go_quiet (fail)
                go_wp2_with fail
                refine (signAt_any (s.extract k s.size) ⟨#[39, 34, 92]⟩ _ (by unfold maxLen; have := cut_size s k; omega)).mono ?_
                rintro e w1 ⟨rfl, n1, rfl⟩
                rw [cut_list s k, show (⟨#[39, 34, 92]⟩ : ByteArray).data.toList = [39, 34, 92] from rfl, HP.out]
                go_wp2_with fail
                go_ret3
                exact ⟨by rw [HE.out] <;> rfl, hB.trans (Go.Joins.below_draws _ _ _)⟩
              · have HE : Hid (R = _) := HR.out.trans (unl_next _ s s[0] k T hlt hneq hz)
                clear HR hneq
                generalize hP : signAt [39, 34, 92] (s.data.toList.drop k) = P at *
                have HP : Hid (signAt [39, 34, 92] (s.data.toList.drop k) = P) := hP
                have hx3 : ((P.2 : Int) == 0) = false := by simp; omega
                clear hP hqk
                go_wp2_with fail
                go_quiet (fail)
                go_wp2_with fail
                refine (signAt_any (s.extract k s.size) ⟨#[39, 34, 92]⟩ _ (by unfold maxLen; have := cut_size s k; omega)).mono ?_
                rintro e w1 ⟨rfl, n1, rfl⟩
                rw [cut_list s k, show (⟨#[39, 34, 92]⟩ : ByteArray).data.toList = [39, 34, 92] from rfl, HP.out]
                obtain ⟨w2, hw2⟩ : ∃ w2, w2 = (wr.drewN nq).drewN n1 := ⟨_, rfl⟩
                rw [← hw2]
                have hb2 : Below wr.heap.size wr w2 := by rw [hw2]; exact (Go.Joins.below_draws _ _ _).trans (Go.Joins.below_draws _ _ _)
                have hown2 := hown.below hb2
                have hB2 := hB.trans (hb2.mono hsz)
                have hsz2 := hB2.size
                clear hw2 hown hB hb2
                go_wp2_with (at_builtin; refine wpList_append_own _ rfl _ _ 49 rfl w.heap.size 5 i0 (.int .u8 0) 1 1 Tryd.underlying49 hi hz0 hz1 hz2 rfl (by decide) _ _ _ rfl (hown2.alloc _) ⟨w2.heap.size, 0, none⟩ 1 1 [.int .u8 (P.1 : Int)] rfl rfl ?c1 ?c2 ?c3 ?c4 ?c5 ?_)
                case c1 =>
                  intro j u hj
                  match j, hj with
                  | 0, hj => simp at hj; subst hj; simp [Addr.add]
                case c2 => intro u hu; simp at hu; subst hu; rfl
                case c3 => unfold maxLen; omega
                case c4 => omega
                case c5 => simp; omega
                intro v' w3 hown3 hgrow _
                have hown4 : Holds w3 w.heap.size v' (T ++ [UInt8.ofNat P.1]) := by unfold Holds; rw [bcs_app, List.length_append, bcs_one P.1 hP1]; exact hown3
                have HO : Hid (Holds w3 w.heap.size v' (T ++ [UInt8.ofNat P.1])) := hown4
                have hB3 := (hB2.alloc hsz2 _).grown hgrow (by simp; omega) (fun q hq => (World.ownsRow.lt hown2 _ hq).1)
                clear hown2 hown3 hown4 hgrow hB2
                go_wp2_with fail
                exact ⟨⟨k + P.2, T ++ [UInt8.ofNat P.1], by go_num, by omega, by omega, by rw [List.length_append, List.length_singleton]; omega, HO.out, hB3, HE.out⟩, by simp [intOf]; omega⟩
          · have HE : Hid (R = none) := HR.out.trans (unl_over _ s s[0] k T (by omega))
            have hd : decide ((k : Int) < (s.size : Int)) = false := by simp; omega
            have hd' : decide (k < s.size) = false := by simp; omega
            have hkk : ((k : Int) == (s.size : Int)) = true := by simp; omega
            clear HR
            go_wp2_with fail
            go_quiet (fail)
            go_wp2_with fail
            go_ret3
            exact ⟨by rw [HE.out] <;> rfl, hB.trans (Go.Joins.below_draws _ _ _)⟩
    · rw [if_neg hq] at e1
      subst e1
      have x1 : ((s[0].toNat : Int) != 39) = true := by simp; omega
      have x2 : ((s[0].toNat : Int) != 34) = true := by simp; omega
      clear hq
      go_enter Tryd.func101, Tryd.ntmps101
      go_wp2_with fail
      go_ret3
      exact ⟨rfl, Below.refl _ _⟩
end Go.Proofs.YtbeohmcmphebhaaDoor
