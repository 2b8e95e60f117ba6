import Derived.Test.YtbeohmcmphebhaaDoorXQRef
import Derived.Test.YtbeohmcmphebhaaDoorXShelf
import Derived.Deep.RegionWith
import Derived.BigRegion
namespace Go.Proofs.YtbeohmcmphebhaaDoor
open Go.RowKit
theorem hexAt_short (s : ByteArray) (h : s.size < 4) : hexAt s.data.toList = (0, 0) := by
  obtain ⟨⟨l⟩⟩ := s
  match l, h with
  | [], _ => rfl
  | [_], _ => rfl
  | [_, _], _ => rfl
  | [_, _, _], _ => rfl
  | _ :: _ :: _ :: _ :: _, h => simp [ByteArray.size] at h; omega
theorem hexAt_at (s : ByteArray) (h : 4 ≤ s.size) : hexAt s.data.toList = if 0 ≤ Lib.indexByte hexs s[2] ∧ 0 ≤ Lib.indexByte hexs s[3] then (16 * (Lib.indexByte hexs s[2]).toNat + (Lib.indexByte hexs s[3]).toNat, 4) else (0, 0) := by
  obtain ⟨⟨l⟩⟩ := s
  match l, h with
  | [], h => simp [ByteArray.size] at h
  | [_], h => simp [ByteArray.size] at h
  | [_, _], h => simp [ByteArray.size] at h
  | [_, _, _], h => simp [ByteArray.size] at h
  | _ :: _ :: _ :: _ :: _, h => rfl
theorem strokeAt_short (g : List UInt8) (s : ByteArray) (h : s.size < 2) : strokeAt g s.data.toList = (0, 0) := by
  obtain ⟨⟨l⟩⟩ := s
  match l, h with
  | [], _ => rfl
  | [_], _ => rfl
  | _ :: _ :: _, h => simp [ByteArray.size] at h; omega
theorem strokeAt_at (g : List UInt8) (s : ByteArray) (h : 2 ≤ s.size) : strokeAt g s.data.toList = if s[1].toNat = 110 then (10, 2) else if s[1].toNat = 116 then (9, 2) else if s[1].toNat = 120 then hexAt s.data.toList else if gd g s[1] then (s[1].toNat, 2) else (0, 0) := by
  obtain ⟨⟨l⟩⟩ := s
  match l, h with
  | [], h => simp [ByteArray.size] at h
  | [_], h => simp [ByteArray.size] at h
  | _ :: _ :: _, h => rfl
theorem signAt_at (g : List UInt8) (s : ByteArray) (h : 0 < s.size) : signAt g s.data.toList = if s[0].toNat = 10 then (0, 0) else if s[0].toNat ≠ 92 then (s[0].toNat, 1) else strokeAt g s.data.toList := by
  obtain ⟨⟨l⟩⟩ := s
  match l, h with
  | [], h => simp [ByteArray.size] at h
  | _ :: _, h => rfl
theorem or_fin : ∀ x y : Fin 16, bits .or .i64 ((x.val : Int) * 16) (y.val : Int) = 16 * (x.val : Int) + (y.val : Int) := by decide +kernel
theorem or_eq (X Y : Int) (hX0 : 0 ≤ X) (hX : X < 16) (hY0 : 0 ≤ Y) (hY : Y < 16) : bits .or .i64 (X * 16) Y = 16 * X + Y := by
  obtain ⟨x, rfl⟩ := Int.eq_ofNat_of_zero_le hX0
  obtain ⟨y, rfl⟩ := Int.eq_ofNat_of_zero_le hY0
  exact or_fin ⟨x, by omega⟩ ⟨y, by omega⟩
theorem ret_two {k1 k2 : IntKind} {a a' b b' : Int} (h1 : a = a') (h2 : b = b') : Ending.returned (.tuple #[.int k1 a, .int k2 b]) = .returned (.tuple #[.int k1 a', .int k2 b']) := by rw [h1, h2]
set_option maxHeartbeats 1000000 in
theorem hexAt_any (s : ByteArray) (w : World) (hs : s.size ≤ maxLen) :
    Calls Tryd.prog 118 #[.string s] w fun e w' => e = .returned (.tuple #[.int .u8 ((hexAt s.data.toList).1 : Int), .int .i64 ((hexAt s.data.toList).2 : Int)]) ∧ ∃ n, w' = w.drewN n := by
  unfold maxLen at hs
  by_cases h4 : s.size < 4
  · rw [hexAt_short s h4]
    have hx : decide ((s.size : Int) < 4) = true := by simp; omega
    go_enter Tryd.func118, Tryd.ntmps118
    go_wp2_with fail
    go_ret2
    exact ⟨rfl, 0, rfl⟩
  · have hx : decide ((s.size : Int) < 4) = false := by simp; omega
    have h2 : (2 : Int) < s.size := by omega
    have h3 : (3 : Int) < s.size := by omega
    have HR : Hid (hexAt s.data.toList = if 0 ≤ Lib.indexByte hexs s[2] ∧ 0 ≤ Lib.indexByte hexs s[3] then (16 * (Lib.indexByte hexs s[2]).toNat + (Lib.indexByte hexs s[3]).toNat, 4) else (0, 0)) := hexAt_at s (by omega)
    generalize hexAt s.data.toList = R at *
    have b1 : Lib.indexByte hexs s[2] < 16 := idx_lt hexs s[2]
    have b2 : Lib.indexByte hexs s[3] < 16 := idx_lt hexs s[3]
    have c1 := Lib.indexByte_ge hexs s[2]
    have c2 := Lib.indexByte_ge hexs s[3]
    go_enter Tryd.func118, Tryd.ntmps118
    go_wp2_with fail
    go_region_with ((go_at_call 35; refine (Tryd.strings_IndexByte _ _ _).mono ?_; rintro e w' ⟨rfl, rfl⟩))
    all_goals
      simp only [show ([48, 49, 50, 51, 52, 53, 54, 55, 56, 57, 97, 98, 99, 100, 101, 102] : List UInt8) = hexs from rfl]
      generalize Lib.indexByte hexs s[2] = X at *
      generalize Lib.indexByte hexs s[3] = Y at *
      rcases (by omega : X = -1 ∨ (0 ≤ X ∧ Y = -1) ∨ (0 ≤ X ∧ 0 ≤ Y)) with rfl | ⟨hX, rfl⟩ | ⟨hX, hY⟩
      · go_wp2_with fail
        go_ret2
        have eR : R = (0, 0) := by rw [HR.out, if_neg (by omega)]
        exact ⟨by rw [eR] <;> rfl, 1, rfl⟩
      · have x1 : decide (X < 0) = false := by simp; omega
        go_wp2_with fail
        go_ret2
        have eR : R = (0, 0) := by rw [HR.out, if_neg (by omega)]
        exact ⟨by rw [eR] <;> rfl, 1, rfl⟩
      · have x1 : decide (X < 0) = false := by simp; omega
        have x2 : decide (Y < 0) = false := by simp; omega
        have x3 := or_eq X Y hX b1 hY b2
        go_wp2_with fail
        go_ret2
        have eR : R = (16 * X.toNat + Y.toNat, 4) := by rw [HR.out, if_pos ⟨hX, hY⟩]
        exact ⟨ret_two (by rw [eR]; show _ = ((16 * X.toNat + Y.toNat : Nat) : Int); omega) (by rw [eR]; rfl), 1, rfl⟩
set_option maxHeartbeats 1000000 in
theorem signAt_any (s g : ByteArray) (w : World) (hs : s.size ≤ maxLen) :
    Calls Tryd.prog 110 #[.string s, .string g] w fun e w' => e = .returned (.tuple #[.int .u8 ((signAt g.data.toList s.data.toList).1 : Int), .int .i64 ((signAt g.data.toList s.data.toList).2 : Int)]) ∧ ∃ n, w' = w.drewN n := by
  have hs' := hs
  unfold maxLen at hs
  by_cases h0 : s.size = 0
  · obtain rfl := empty_of s h0
    go_enter Tryd.func110, Tryd.ntmps110
    go_wp2_with fail
    go_ret2
    exact ⟨rfl, 0, rfl⟩
  · have he := nonempty s h0
    have h1 : (0 : Int) < s.size := by omega
    have h1' : 0 < s.size := by omega
    have e1 := signAt_at g.data.toList s h1'
    generalize signAt g.data.toList s.data.toList = R at *
    by_cases a10 : s[0].toNat = 10
    · rw [if_pos a10] at e1
      subst e1
      have hx : ((s[0].toNat : Int) == 10) = true := by simp; omega
      clear a10
      go_enter Tryd.func110, Tryd.ntmps110
      go_wp2_with fail
      go_ret2
      exact ⟨rfl, 0, rfl⟩
    · rw [if_neg a10] at e1
      have hx : ((s[0].toNat : Int) == 10) = false := by simp; omega
      by_cases a92 : s[0].toNat ≠ 92
      · rw [if_pos a92] at e1
        subst e1
        have hy : ((s[0].toNat : Int) == 92) = false := by simp; omega
        clear a10 a92
        go_enter Tryd.func110, Tryd.ntmps110
        go_wp2_with fail
        go_ret2
        exact ⟨rfl, 0, rfl⟩
      · rw [if_neg a92] at e1
        have hy : ((s[0].toNat : Int) == 92) = true := by simp; omega
        clear a10 a92
        by_cases h2 : s.size < 2
        · rw [strokeAt_short _ s h2] at e1
          subst e1
          have hz : decide ((s.size : Int) < 2) = true := by simp; omega
          go_enter Tryd.func110, Tryd.ntmps110
          go_wp2_with fail
          go_ret2
          exact ⟨rfl, 0, rfl⟩
        · rw [strokeAt_at _ s (by omega)] at e1
          have hz : decide ((s.size : Int) < 2) = false := by simp; omega
          have h3 : (1 : Int) < s.size := by omega
          by_cases b110 : s[1].toNat = 110
          · rw [if_pos b110] at e1
            subst e1
            have hu : ((s[1].toNat : Int) == 110) = true := by simp; omega
            clear b110
            go_enter Tryd.func110, Tryd.ntmps110
            go_wp2_with fail
            go_ret2
            exact ⟨rfl, 0, rfl⟩
          · rw [if_neg b110] at e1
            have hu : ((s[1].toNat : Int) == 110) = false := by simp; omega
            clear b110
            by_cases b116 : s[1].toNat = 116
            · rw [if_pos b116] at e1
              subst e1
              have hv : ((s[1].toNat : Int) == 116) = true := by simp; omega
              clear b116
              go_enter Tryd.func110, Tryd.ntmps110
              go_wp2_with fail
              go_ret2
              exact ⟨rfl, 0, rfl⟩
            · rw [if_neg b116] at e1
              have hv : ((s[1].toNat : Int) == 116) = false := by simp; omega
              clear b116
              by_cases b120 : s[1].toNat = 120
              · rw [if_pos b120] at e1
                have HE : Hid (R = hexAt s.data.toList) := e1
                have hq : ((s[1].toNat : Int) == 120) = true := by simp; omega
                clear b120 e1
                go_enter Tryd.func110, Tryd.ntmps110
                go_wp2_with fail
                refine (hexAt_any s _ hs').mono ?_
                rintro e w1 ⟨rfl, n, rfl⟩
                rw [← HE.out]
                go_wp2_with fail
                go_ret2
                exact ⟨rfl, n, rfl⟩
              · rw [if_neg b120] at e1
                have hq : ((s[1].toNat : Int) == 120) = false := by simp; omega
                clear b120
                cases hg : gd g.data.toList s[1]
                · have hgf := gd_false hg
                  rw [hg] at e1
                  simp only [Bool.false_eq_true, if_false] at e1
                  subst e1
                  clear hg
                  go_enter Tryd.func110, Tryd.ntmps110
                  go_wp2_with fail
                  refine (Tryd.strings_IndexByte g _ _).mono ?_
                  rintro e w1 ⟨rfl, rfl⟩
                  rw [back_u8]
                  go_wp2_with fail
                  go_ret2
                  exact ⟨rfl, 0, rfl⟩
                · have hgf := gd_true hg
                  rw [hg] at e1
                  simp only [if_true] at e1
                  subst e1
                  clear hg
                  go_enter Tryd.func110, Tryd.ntmps110
                  go_wp2_with fail
                  refine (Tryd.strings_IndexByte g _ _).mono ?_
                  rintro e w1 ⟨rfl, rfl⟩
                  rw [back_u8]
                  go_wp2_with fail
                  go_ret2
                  exact ⟨rfl, 0, rfl⟩
theorem mk_size (l : List UInt8) : (⟨l.toArray⟩ : ByteArray).size = l.length := by simp [ByteArray.size]
end Go.Proofs.YtbeohmcmphebhaaDoor
