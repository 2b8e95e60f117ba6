import Derived.Test.YtediipndkejnkaaDoorNum
import Derived.Test.YtediipndkejnkaaDoorProg
import Derived.WalkKit
import Derived.WalkSpells
import Derived.WalkLawsBesides
import Derived.Laws.IdiomStrings
namespace Go.Proofs.YtediipndkejnkaaDoor
open Go.RowKit

theorem take_snoc (s : ByteArray) (k : Nat) (h : k < s.size) : s.data.toList.take (k + 1) = s.data.toList.take k ++ [s[k]] := by
  rw [List.take_succ_eq_append_getElem (by simpa using h)]; rfl
theorem getl (s : ByteArray) (k : Nat) (h : k < s.size) : s.data.toList[k]'(by simpa using h) = s[k] := rfl
theorem llen (s : ByteArray) : s.data.toList.length = s.size := rfl
theorem und_no (l : List UInt8) (h : isN l = false) : undN l = 0 ∧ undE l = 3 := by unfold undN undE; simp [h]
theorem und_yes (l : List UInt8) (h : isN l = true) : undN l = (val l : Int) ∧ undE l = 0 := by unfold undN undE; simp [h]

theorem nonempty (s : ByteArray) (h : s.size ≠ 0) : s.toList.isEmpty = false := by
  rw [ByteArray.toList_eq]
  obtain ⟨⟨l⟩⟩ := s
  cases l with
  | nil => exact absurd rfl h
  | cons a l => rfl
theorem empty_of (s : ByteArray) (h : s.size = 0) : s = ⟨#[]⟩ := by
  obtain ⟨⟨l⟩⟩ := s
  simp [ByteArray.size] at h
  simp [h]
theorem head_at (s : ByteArray) (h : 0 < s.size) : s.data.toList.headD 0 = s[0] := by
  obtain ⟨⟨l⟩⟩ := s
  cases l with
  | nil => exact absurd h (by simp [ByteArray.size])
  | cons a l => rfl
theorem all_snoc (l : List UInt8) (c : UInt8) (h : l.all isD = true) (h1 : 48 ≤ c.toNat) (h2 : c.toNat ≤ 57) : (l ++ [c]).all isD = true := by
  rw [List.all_append, h]; simp [isD, h1, h2]
theorem isN_bad (s : ByteArray) (k : Nat) (hk : k < s.size) (h : s[k].toNat < 48 ∨ 57 < s[k].toNat) : isN s.data.toList = false := by
  rw [Bool.eq_false_iff]; intro hn
  have h1 := ((isN_iff _).1 hn).2.2.2
  have h2 := List.all_eq_true.1 h1 s[k] (by rw [← getl s k hk]; exact List.getElem_mem _)
  have := (isD_iff _).1 h2
  omega
theorem val_step (s : ByteArray) (k : Nat) (hk : k < s.size) (h1 : 48 ≤ s[k].toNat) : ((val (s.data.toList.take (k + 1)) : Nat) : Int) = 10 * (val (s.data.toList.take k) : Int) + ((s[k].toNat : Int) - 48) := by
  rw [take_snoc s k hk, val_snoc]; omega

set_option maxHeartbeats 1000000 in
theorem undec_any (s : ByteArray) (w : World) (hs : s.size ≤ maxLen) :
    Calls Tryd.prog 5 #[.string s] w fun e w' => e = .returned (.tuple #[.int .i64 (undN s.data.toList), .int .i64 (undE s.data.toList)]) ∧ w' = w := by
  unfold maxLen at hs
  by_cases h0 : s.size = 0
  · obtain rfl := empty_of s h0
    go_enter Tryd.func5, Tryd.ntmps5
    go_wp2_with fail
    go_ret2
    exact ⟨rfl, rfl⟩
  · have he := nonempty s h0
    by_cases h9 : 9 < s.size
    · have hd : decide ((9 : Int) < s.size) = true := by simp; omega
      have hn : isN s.data.toList = false := by
        rw [Bool.eq_false_iff]; intro hn
        have := ((isN_iff _).1 hn).2.1
        simp at this; omega
      obtain ⟨e1, e2⟩ := und_no _ hn
      rw [e1, e2]
      clear e1 e2 hn
      go_enter Tryd.func5, Tryd.ntmps5
      go_wp2_with fail
      go_ret2
      exact ⟨rfl, rfl⟩
    · have hd : decide ((9 : Int) < s.size) = false := by simp; omega
      have hh := head_at s (by omega)
      have h1 : 0 < s.size := by omega
      by_cases hg : s[0].toNat = 48 ∧ 1 < s.size
      · obtain ⟨hz, hl⟩ := hg
        have hn : isN s.data.toList = false := by
          rw [Bool.eq_false_iff]; intro hn
          have h3 := ((isN_iff _).1 hn).2.2.1
          rw [hh] at h3
          rcases h3 with h3 | h3
          · exact h3 (UInt8.toNat_inj.1 (by simpa using hz))
          · simp at h3; omega
        obtain ⟨e1, e2⟩ := und_no _ hn
        rw [e1, e2]
        clear e1 e2 hn hh
        have hb : ((s[0].toNat : Int) == 48) = true := by simp; omega
        have hd1 : decide ((1 : Int) < s.size) = true := by simp; omega
        clear hz
        go_enter Tryd.func5, Tryd.ntmps5
        go_wp2_with fail
        go_ret2
        exact ⟨rfl, rfl⟩
      · have hgood : Hid (s[0].toNat ≠ 48 ∨ s.size ≤ 1) := by
          show _ ∨ _
          omega
        have hor : (((s[0].toNat : Int) == 48) = true ∧ decide ((1 : Int) < s.size) = false) ∨ ((s[0].toNat : Int) == 48) = false := by
          by_cases hz : s[0].toNat = 48
          · left; constructor
            · simp; omega
            · simp; omega
          · right; simp; omega
        clear hg
        have HH : Hid (s.data.toList.headD 0 = s[0]) := hh
        clear hh
        rcases hor with ⟨ha, hb⟩ | ha
        all_goals
          go_enter Tryd.func5, Tryd.ntmps5
          go_wp2_with fail
          go_loop [4, 5, 25] (fun n _ i => ∃ k : Nat, k ≤ s.size ∧ i = .int .i64 k ∧ (s.data.toList.take k).all isD = true ∧ n = .int .i64 (val (s.data.toList.take k))) (fun _ _ i => s.size - (intOf i).toNat)
          case atStart => exact ⟨0, Nat.zero_le _, rfl, rfl, rfl⟩
          case round =>
            obtain ⟨k, hk, rfl, hall, rfl⟩ := hrel
            have hvl := val_lt9 _ hall (by simp; omega)
            have HA : Hid ((s.data.toList.take k).all isD = true) := hall
            clear hall
            generalize hV : val (s.data.toList.take k) = V at *
            have HV : Hid (val (s.data.toList.take k) = V) := hV
            clear hV
            by_cases hlt : (k : Int) < s.size
            · have hks : k < s.size := by omega
              by_cases hdig : 48 ≤ s[k].toNat ∧ s[k].toNat ≤ 57
              · have hs1 := val_step s k hks hdig.1
                rw [HV.out] at hs1
                have HS : Hid (((val (s.data.toList.take (k + 1)) : Nat) : Int) = 10 * (V : Int) + ((s[k].toNat : Int) - 48)) := hs1
                have hal := all_snoc _ s[k] HA.out hdig.1 hdig.2
                rw [← take_snoc s k hks] at hal
                have HL : Hid ((s.data.toList.take (k + 1)).all isD = true) := hal
                clear hs1 hal
                have hx1 : decide ((s[k].toNat : Int) < 48) = false := by simp; omega
                have hx2 : decide ((57 : Int) < (s[k].toNat : Int)) = false := by simp; omega
                have hx3 : (48 : Int) ≤ (s[k].toNat : Int) := by omega
                have hx4 : (s[k].toNat : Int) ≤ 57 := by omega
                go_wp2_with fail
                go_round
                case rel => exact ⟨k + 1, by omega, by go_num, HL.out, by rw [HS.out]⟩
                case measure => simp [intOf]; omega
              · obtain ⟨e1, e2⟩ := und_no _ (isN_bad s k hks (by omega))
                have E1 : Hid (undN s.data.toList = 0) := e1
                have E2 : Hid (undE s.data.toList = 3) := e2
                clear e1 e2
                have hor : decide ((s[k].toNat : Int) < 48) = true ∨ (decide ((s[k].toNat : Int) < 48) = false ∧ decide ((57 : Int) < (s[k].toNat : Int)) = true) := by
                  simp; omega
                rcases hor with hx | ⟨hx, hy⟩
                all_goals
                  go_wp2_with fail
                  go_ret2
                  exact ⟨by rw [E1.out, E2.out] <;> rfl, rfl⟩
            · have hks : k = s.size := by omega
              have hfull : s.data.toList.take k = s.data.toList := List.take_of_length_le (by simp; omega)
              have hN : isN s.data.toList = true := by
                rw [isN_iff]
                refine ⟨by rw [llen]; omega, by rw [llen]; omega, ?_, by rw [← hfull]; exact HA.out⟩
                rcases hgood.out with h | h
                · left; rw [HH.out]; intro e; rw [e] at h; exact h rfl
                · right; simpa using h
              obtain ⟨e1, e2⟩ := und_yes _ hN
              rw [← hfull, HV.out] at e1
              rw [hfull] at e1
              have E1 : Hid (undN s.data.toList = (V : Int)) := e1
              have E2 : Hid (undE s.data.toList = 0) := e2
              clear e1 e2 hN hfull hks
              go_wp2_with fail
              go_ret2
              exact ⟨by rw [E1.out, E2.out] <;> rfl, rfl⟩

set_option maxHeartbeats 1000000 in
theorem rundec_any (s : ByteArray) (w : World) (hs : s.size ≤ maxLen) :
    Calls Tryd.prog 6 #[.string s] w fun e w' => e = .returned (.tuple #[.int .i64 (undN s.data.toList), .int .i64 (undE s.data.toList)]) ∧ w' = w := by
  unfold maxLen at hs
  go_enter Tryd.func6, Tryd.ntmps6
  go_wp2_with fail
  go_loop [4, 5, 8] (fun n _ i => ∃ k : Nat, k ≤ s.size ∧ k ≤ 9 ∧ i = .int .i64 k ∧ (s.data.toList.take k).all isD = true ∧ (2 ≤ k → s.data.toList.headD 0 ≠ 48) ∧ n = .int .i64 (val (s.data.toList.take k))) (fun _ _ i => s.size - (intOf i).toNat)
  case atStart => exact ⟨0, Nat.zero_le _, by omega, rfl, rfl, by omega, rfl⟩
  case round =>
    obtain ⟨k, hk, hk9, rfl, hall, hhd, rfl⟩ := hrel
    have hvl := val_lt9 _ hall (by simp; omega)
    have HA : Hid ((s.data.toList.take k).all isD = true) := hall
    have HD : Hid (2 ≤ k → s.data.toList.headD 0 ≠ 48) := hhd
    clear hall hhd
    generalize hV : val (s.data.toList.take k) = V at *
    have HV : Hid (val (s.data.toList.take k) = V) := hV
    clear hV
    by_cases hlt : (k : Int) < s.size
    · have hks : k < s.size := by omega
      have h1 : 0 < s.size := by omega
      have hh := head_at s h1
      by_cases hdig : 48 ≤ s[k].toNat ∧ s[k].toNat ≤ 57
      · have hx1 : decide ((s[k].toNat : Int) < 48) = false := by simp; omega
        have hx2 : decide ((57 : Int) < (s[k].toNat : Int)) = false := by simp; omega
        by_cases h9 : k = 9
        · have hn : isN s.data.toList = false := by
            rw [Bool.eq_false_iff]; intro hn
            have := ((isN_iff _).1 hn).2.1
            simp at this; omega
          obtain ⟨e1, e2⟩ := und_no _ hn
          have E1 : Hid (undN s.data.toList = 0) := e1
          have E2 : Hid (undE s.data.toList = 3) := e2
          have hx3 : ((k : Int) == 9) = true := by simp; omega
          clear e1 e2 hn hh h9
          go_wp2_with fail
          go_ret2
          exact ⟨by rw [E1.out, E2.out] <;> rfl, rfl⟩
        · have hx3 : ((k : Int) == 9) = false := by simp; omega
          by_cases hz : 0 < k ∧ s[0].toNat = 48
          · have hn : isN s.data.toList = false := by
              rw [Bool.eq_false_iff]; intro hn
              have h3 := ((isN_iff _).1 hn).2.2.1
              rw [hh] at h3
              rcases h3 with h3 | h3
              · exact h3 (UInt8.toNat_inj.1 (by simpa using hz.2))
              · simp at h3; omega
            obtain ⟨e1, e2⟩ := und_no _ hn
            have E1 : Hid (undN s.data.toList = 0) := e1
            have E2 : Hid (undE s.data.toList = 3) := e2
            have hx4 : decide (0 < k) = true := by simp; omega
            have hx5 : ((s[0].toNat : Int) == 48) = true := by simp; omega
            clear e1 e2 hn hh h9 hz
            go_wp2_with fail
            go_ret2
            exact ⟨by rw [E1.out, E2.out] <;> rfl, rfl⟩
          · have hs1 := val_step s k hks hdig.1
            rw [HV.out] at hs1
            have HS : Hid (((val (s.data.toList.take (k + 1)) : Nat) : Int) = 10 * (V : Int) + ((s[k].toNat : Int) - 48)) := hs1
            have hal := all_snoc _ s[k] HA.out hdig.1 hdig.2
            rw [← take_snoc s k hks] at hal
            have HL : Hid ((s.data.toList.take (k + 1)).all isD = true) := hal
            have hnx : 2 ≤ k + 1 → s.data.toList.headD 0 ≠ 48 := by
              intro h2 e
              rw [hh] at e
              apply hz
              exact ⟨by omega, by rw [e]; rfl⟩
            have HN : Hid (2 ≤ k + 1 → s.data.toList.headD 0 ≠ 48) := hnx
            have hor : (decide (0 < k) = true ∧ ((s[0].toNat : Int) == 48) = false) ∨ decide (0 < k) = false := by
              simp; omega
            have hx4 : (48 : Int) ≤ (s[k].toNat : Int) := by omega
            have hx5 : (s[k].toNat : Int) ≤ 57 := by omega
            have hk8 : k ≤ 8 := by omega
            clear hs1 hal hnx hh hz h9
            rcases hor with ⟨ha, hb⟩ | ha
            all_goals
              go_wp2_with fail
              go_round
              case rel => exact ⟨k + 1, by omega, by omega, by go_num, HL.out, HN.out, by rw [HS.out]⟩
              case measure => simp [intOf]; omega
      · obtain ⟨e1, e2⟩ := und_no _ (isN_bad s k hks (by omega))
        have E1 : Hid (undN s.data.toList = 0) := e1
        have E2 : Hid (undE s.data.toList = 3) := e2
        clear e1 e2 hh
        have hor : decide ((s[k].toNat : Int) < 48) = true ∨ (decide ((s[k].toNat : Int) < 48) = false ∧ decide ((57 : Int) < (s[k].toNat : Int)) = true) := by
          simp; omega
        rcases hor with hx | ⟨hx, hy⟩
        all_goals
          go_wp2_with fail
          go_ret2
          exact ⟨by rw [E1.out, E2.out] <;> rfl, rfl⟩
    · have hks : k = s.size := by omega
      by_cases h0 : s.size = 0
      · obtain rfl := empty_of s h0
        clear hks
        go_wp2_with fail
        go_ret2
        exact ⟨rfl, rfl⟩
      · have he := nonempty s h0
        have hh := head_at s (by omega)
        have hfull : s.data.toList.take k = s.data.toList := List.take_of_length_le (by simp; omega)
        have hN : isN s.data.toList = true := by
          rw [isN_iff]
          refine ⟨by rw [llen]; omega, by rw [llen]; omega, ?_, by rw [← hfull]; exact HA.out⟩
          by_cases h2 : 2 ≤ k
          · left; exact HD.out h2
          · right; simp; omega
        obtain ⟨e1, e2⟩ := und_yes _ hN
        rw [← hfull, HV.out] at e1
        rw [hfull] at e1
        have E1 : Hid (undN s.data.toList = (V : Int)) := e1
        have E2 : Hid (undE s.data.toList = 0) := e2
        clear e1 e2 hN hfull hks hh
        go_wp2_with fail
        go_ret2
        exact ⟨by rw [E1.out, E2.out] <;> rfl, rfl⟩
end Go.Proofs.YtediipndkejnkaaDoor
