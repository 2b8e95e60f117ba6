import Derived.Test.YtbeohmcmphebhaaGreatDoorXQOwn
import Derived.Test.YtbeohmcmphebhaaGreatDoorXShelf
import Derived.Deep.RegionHeld3
import Derived.Deep.AppendLies
import Derived.Deep.DrawnRows
import Derived.Deep.RegionWith
import Derived.BigRegion
namespace Go.Proofs.YtbeohmcmphebhaaGreatDoor
open Go.RowKit
theorem back_u8 (c : UInt8) : ((c.toNat : Int).toNat.toUInt8) = c := by simp
theorem gd_true {g : List UInt8} {c : UInt8} (h : gd g c = true) : decide (0 ≤ Lib.indexByte g c) = true := h
theorem gd_false {g : List UInt8} {c : UInt8} (h : gd g c = false) : decide (0 ≤ Lib.indexByte g c) = false := h
theorem and15 (c : UInt8) : bits .and .u8 (c.toNat : Int) 15 = ((c.toNat % 16 : Nat) : Int) := by
  have h := (by decide +kernel : ∀ k : Fin 256, bits .and .u8 ((k.val : Nat) : Int) 15 = ((k.val % 16 : Nat) : Int)) ⟨c.toNat, c.toNat_lt⟩
  exact h
def hexA : ByteArray := ⟨#[48, 49, 50, 51, 52, 53, 54, 55, 56, 57, 97, 98, 99, 100, 101, 102]⟩
theorem hex_fin : ∀ k : Fin 16, hexA[k.val]'(by rw [show hexA.size = 16 from rfl]; exact k.isLt) = hexc k.val := by decide +kernel
theorem hex_at (i : Int) (k : Nat) (h : i = k) (hk : k < 16) (hp : i.toNat < (⟨#[48, 49, 50, 51, 52, 53, 54, 55, 56, 57, 97, 98, 99, 100, 101, 102]⟩ : ByteArray).size) :
    (⟨#[48, 49, 50, 51, 52, 53, 54, 55, 56, 57, 97, 98, 99, 100, 101, 102]⟩ : ByteArray)[i.toNat]'hp = hexc k := by
  subst h
  exact hex_fin ⟨k, hk⟩
set_option maxHeartbeats 1000000 in
theorem appendSign_any (low : Nat) (g : ByteArray) (c : UInt8) (v : Value) (l : List UInt8) (base : Nat) (w : World) (hown : Holds w base v l) (hl : l.length ≤ 100000000) (hbase : base ≤ w.heap.size) :
    Calls Tryz.prog 89 #[v, .int .u8 (c.toNat : Int), .int .u8 (low : Int), .string g] w fun e w' => ∃ v', e = .returned v' ∧ Holds w' base v' (l ++ sign low g.data.toList c) ∧ w.grownBy w' v.ownBlock := by
  obtain ⟨i0, hi, hz0, hz1, hz2⟩ := info_parts Tryz.info5
  have hcl := c.toNat_lt
  by_cases h10 : c.toNat = 10
  · have e : sign low g.data.toList c = [92, 110] := by unfold sign; rw [if_pos h10]
    rw [e]
    have hx : ((c.toNat : Int) == 10) = true := by simp; omega
    clear e h10
    go_enter Tryz.func89, Tryz.ntmps89
    go_wp2_with (at_builtin; refine Lib.wpList_append_own_string _ rfl _ _ 53 9 rfl base 5 i0 Tryz.underlying53 Tryz.underlying9 hi hz0 hz1 hz2 _ _ _ rfl hown ⟨#[92, 110]⟩ rfl ?c1 ?c2 hbase ?_)
    case c1 => unfold maxLen; simp [ByteArray.size]; omega
    case c2 => simp [ByteArray.size]; omega
    intro v' w2 hown2 hgrow _
    go_wp2_with fail
    go_ret
    exact ⟨v', rfl, by unfold Holds; rw [bcs_app, List.length_append]; exact hown2, hgrow⟩
  · have hx0 : ((c.toNat : Int) == 10) = false := by simp; omega
    by_cases h9 : c.toNat = 9
    · have e : sign low g.data.toList c = [92, 116] := by unfold sign; rw [if_neg h10, if_pos h9]
      rw [e]
      have hx : ((c.toNat : Int) == 9) = true := by simp; omega
      clear e h10 h9
      go_enter Tryz.func89, Tryz.ntmps89
      go_wp2_with (at_builtin; refine Lib.wpList_append_own_string _ rfl _ _ 53 9 rfl base 5 i0 Tryz.underlying53 Tryz.underlying9 hi hz0 hz1 hz2 _ _ _ rfl hown ⟨#[92, 116]⟩ rfl ?c1 ?c2 hbase ?_)
      case c1 => unfold maxLen; simp [ByteArray.size]; omega
      case c2 => simp [ByteArray.size]; omega
      intro v' w2 hown2 hgrow _
      go_wp2_with fail
      go_ret
      exact ⟨v', rfl, by unfold Holds; rw [bcs_app, List.length_append]; exact hown2, hgrow⟩
    · have hx1 : ((c.toNat : Int) == 9) = false := by simp; omega
      cases hg : gd g.data.toList c
      · have hgf := gd_false hg
        by_cases hp : c.toNat < low ∨ 126 < c.toNat
        · have e : sign low g.data.toList c = [92, 120, hexc (c.toNat / 16), hexc (c.toNat % 16)] := by unfold sign; rw [if_neg h10, if_neg h9, hg]; simp only [Bool.false_eq_true, if_false]; rw [if_pos hp]
          rw [e]
          have hor : decide (c.toNat < low) = true ∨ (decide (c.toNat < low) = false ∧ decide ((126 : Int) < (c.toNat : Int)) = true) := by simp; omega
          clear e h10 h9 hg hp
          rcases hor with hy | ⟨hy, hz⟩
          · go_enter Tryz.func89, Tryz.ntmps89
            go_wp2_with fail
            refine (Tryz.strings_IndexByte g _ _).mono ?_
            rintro e w' ⟨rfl, rfl⟩
            rw [back_u8]
            go_wp2_with fail
            have hand : bits .and .u8 (c.toNat : Int) 15 = ((c.toNat % 16 : Nat) : Int) := and15 c
            have hd1 : (c.toNat : Int) / 16 < 16 := by omega
            have hd2 : ((c.toNat % 16 : Nat) : Int) < 16 := by omega
            have hd3 : (c.toNat : Int) % 16 < 16 := by omega
            have hd4 : (0 : Int) ≤ (c.toNat : Int) % 16 := by omega
            have hd5 : (0 : Int) ≤ (c.toNat : Int) / 16 := by omega
            go_region_held3 (fun w' => True) (trivial)
              ((refine step_append_lies _ (by rfl) _ _ _ (by rfl) base 5 i0 _ 1 1 Tryz.underlying53 hi hz0 hz1 hz2 rfl (by omega) _ _ _ (by rfl) ((hown.alloc _).drew)
                    ⟨w'.heap.size, 0, none⟩ 4 4 _ (by rfl) (by rfl) (World.news_of_block (t := 5) (fr := (0, 0)) (heap_alloc_new w' _)) (by simp [Value.oneCell'])
                    (by omega) (by unfold maxLen; omega) (by omega) (by simp; omega) (w'.heap.size + 1) (by simp) ?_; intro gg cap w1 hown1 hgrow hat hlt))
            all_goals
              simp only [hex_at ((c.toNat : Int) / (16 : Int)) (c.toNat / 16) (by omega) (by omega), hex_at ((c.toNat : Int) % (16 : Int)) (c.toNat % 16) (by omega) (by omega)] at hown1
              go_wp2_with fail
              go_ret
              exact ⟨_, rfl, by unfold Holds; rw [bcs_app, List.length_append]; exact hown1, grown_alloc _ (grown_drew hgrow)⟩
          · go_enter Tryz.func89, Tryz.ntmps89
            go_wp2_with fail
            refine (Tryz.strings_IndexByte g _ _).mono ?_
            rintro e w' ⟨rfl, rfl⟩
            rw [back_u8]
            go_wp2_with fail
            have hand : bits .and .u8 (c.toNat : Int) 15 = ((c.toNat % 16 : Nat) : Int) := and15 c
            have hd1 : (c.toNat : Int) / 16 < 16 := by omega
            have hd2 : ((c.toNat % 16 : Nat) : Int) < 16 := by omega
            have hd3 : (c.toNat : Int) % 16 < 16 := by omega
            have hd4 : (0 : Int) ≤ (c.toNat : Int) % 16 := by omega
            have hd5 : (0 : Int) ≤ (c.toNat : Int) / 16 := by omega
            go_region_held3 (fun w' => True) (trivial)
              ((refine step_append_lies _ (by rfl) _ _ _ (by rfl) base 5 i0 _ 1 1 Tryz.underlying53 hi hz0 hz1 hz2 rfl (by omega) _ _ _ (by rfl) ((hown.alloc _).drew)
                    ⟨w'.heap.size, 0, none⟩ 4 4 _ (by rfl) (by rfl) (World.news_of_block (t := 5) (fr := (0, 0)) (heap_alloc_new w' _)) (by simp [Value.oneCell'])
                    (by omega) (by unfold maxLen; omega) (by omega) (by simp; omega) (w'.heap.size + 1) (by simp) ?_; intro gg cap w1 hown1 hgrow hat hlt))
            all_goals
              simp only [hex_at ((c.toNat : Int) / (16 : Int)) (c.toNat / 16) (by omega) (by omega), hex_at ((c.toNat : Int) % (16 : Int)) (c.toNat % 16) (by omega) (by omega)] at hown1
              go_wp2_with fail
              go_ret
              exact ⟨_, rfl, by unfold Holds; rw [bcs_app, List.length_append]; exact hown1, grown_alloc _ (grown_drew hgrow)⟩
        · have e : sign low g.data.toList c = [c] := by unfold sign; rw [if_neg h10, if_neg h9, hg]; simp only [Bool.false_eq_true, if_false]; rw [if_neg hp]
          rw [e]
          have hy : decide (c.toNat < low) = false := by simp; omega
          have hz : decide ((126 : Int) < (c.toNat : Int)) = false := by simp; omega
          clear e h10 h9 hg hp
          go_enter Tryz.func89, Tryz.ntmps89
          go_wp2_with fail
          refine (Tryz.strings_IndexByte g _ _).mono ?_
          rintro e w' ⟨rfl, rfl⟩
          rw [back_u8]
          go_wp2_with (at_builtin; refine wpList_append_own _ rfl _ _ 53 rfl base 5 i0 (.int .u8 0) 1 1 Tryz.underlying53 hi hz0 hz1 hz2 rfl (by decide) _ _ _ rfl (hown.alloc _) ⟨w'.heap.size, 0, none⟩ 1 1 [.int .u8 (c.toNat : Int)] rfl rfl ?c1 ?c2 ?c3 ?c4 ?c5 ?_)
          case c1 =>
            intro j u hj
            match j, hj with
            | 0, hj => simp at hj; subst hj; simp [Addr.add]
          case c2 => intro u hu; simp at hu; subst hu; rfl
          case c3 => unfold maxLen; omega
          case c4 => omega
          case c5 => simp; omega
          intro v' w2 hown2 hgrow _
          go_wp2_with fail
          go_ret
          exact ⟨v', rfl, by unfold Holds; rw [bcs_app, List.length_append]; exact hown2, grown_alloc _ hgrow⟩
      · have hgt := gd_true hg
        have e : sign low g.data.toList c = [92, c] := by unfold sign; rw [if_neg h10, if_neg h9, hg]; simp only [if_true]
        rw [e]
        clear e h10 h9 hg
        go_enter Tryz.func89, Tryz.ntmps89
        go_wp2_with fail
        refine (Tryz.strings_IndexByte g _ _).mono ?_
        rintro e w' ⟨rfl, rfl⟩
        rw [back_u8]
        go_wp2_with (at_builtin; refine wpList_append_own _ rfl _ _ 53 rfl base 5 i0 (.int .u8 0) 1 1 Tryz.underlying53 hi hz0 hz1 hz2 rfl (by decide) _ _ _ rfl (hown.alloc _) ⟨w'.heap.size, 0, none⟩ 2 2 [.int .u8 92, .int .u8 (c.toNat : Int)] rfl rfl ?c1 ?c2 ?c3 ?c4 ?c5 ?_)
        case c1 =>
          intro j u hj
          match j, hj with
          | 0, hj => simp at hj; subst hj; simp [Addr.add]
          | 1, hj => simp at hj; subst hj; simp [Addr.add]
        case c2 => intro u hu; simp at hu; rcases hu with rfl | rfl <;> rfl
        case c3 => unfold maxLen; omega
        case c4 => omega
        case c5 => simp; omega
        intro v' w2 hown2 hgrow _
        go_wp2_with fail
        go_ret
        exact ⟨v', rfl, by unfold Holds; rw [bcs_app, List.length_append]; exact hown2, grown_alloc _ hgrow⟩
end Go.Proofs.YtbeohmcmphebhaaGreatDoor
namespace Go.Proofs.YtbeohmcmphebhaaGreatDoor
open Go.RowKit
/-- What is written behind k bytes. -/
def litTo (l : List UInt8) (k : Nat) : List UInt8 := 39 :: (l.take k).flatMap (sign 32 [39, 92])
theorem litTo_succ (s : ByteArray) (k : Nat) (h : k < s.size) : litTo s.data.toList (k + 1) = litTo s.data.toList k ++ sign 32 [39, 92] s[k] := by
  unfold litTo; rw [take_snoc s k h, flat_snoc]; rfl
theorem litTo_len (l : List UInt8) (k : Nat) : (litTo l k).length ≤ 4 * k + 1 := by
  have h1 := flat_len 32 [39, 92] (l.take k)
  have h2 : (l.take k).length ≤ k := by simp; omega
  unfold litTo; rw [List.length_cons]; omega
theorem litTo_all (l : List UInt8) (k : Nat) (h : l.length ≤ k) : litTo l k ++ [39] = lit l := by
  unfold litTo lit; rw [List.take_of_length_le h]; rfl
theorem own_base {w : World} {base base' : Nat} {v : Value} {l : List UInt8} (h : Holds w base v l) (hb : base' ≤ base) : Holds w base' v l := by
  obtain ⟨h1, h2⟩ := h
  refine ⟨h1, ?_⟩
  rcases h2 with h2 | ⟨g, cap, cur, hv, hg, r⟩
  · exact Or.inl h2
  · exact Or.inr ⟨g, cap, cur, hv, Nat.le_trans hb hg, r⟩
set_option maxHeartbeats 1000000 in
theorem lit_any (s : ByteArray) (w : World) (hs : s.size ≤ 10000000) :
    Calls Tryz.prog 66 #[.string s] w fun e w' => e = .returned (.string ⟨(lit s.data.toList).toArray⟩) ∧ Below w.heap.size w w' := by
  obtain ⟨i0, hi, hz0, hz1, hz2⟩ := info_parts Tryz.info5
  go_enter Tryz.func66, Tryz.ntmps66
  go_wp2_with fail
  go_loopw [3, 4, 8] (fun v _ i wx => ∃ k : Nat, i = .int .i64 k ∧ k ≤ s.size ∧ Holds wx w.heap.size v (litTo s.data.toList k) ∧ Below w.heap.size w wx) (fun _ _ i _ => s.size - (intOf i).toNat)
  case atStart => exact ⟨0, rfl, by omega, World.ownsRow_lit w #[.int .u8 39] 1 (Nat.le_refl _) (by unfold maxLen; omega) rfl, (Below.refl _ _).alloc (Nat.le_refl _) _⟩
  case round =>
    obtain ⟨k, rfl, hk, hown, hB⟩ := hrel
    have hlen := litTo_len s.data.toList k
    have hsz := hB.size
    by_cases hlt : (k : Int) < s.size
    · have hks : k < s.size := by omega
      have HS : Hid (litTo s.data.toList (k + 1) = litTo s.data.toList k ++ sign 32 [39, 92] s[k]) := litTo_succ s k hks
      generalize litTo s.data.toList k = L at *
      go_wp2_with fail
      refine (appendSign_any 32 ⟨#[39, 92]⟩ s[k] _ L w.heap.size _ hown (by omega) hsz).mono ?_
      rintro e w1 ⟨v', rfl, hown1, hgrow⟩
      have hB1 := hB.grown hgrow hsz (fun q hq => (World.ownsRow.lt hown _ hq).1)
      have HO : Hid (Holds w1 w.heap.size v' (L ++ sign 32 [39, 92] s[k])) := hown1
      clear hown hown1 hB hgrow
      go_wp2_with fail
      exact ⟨⟨k + 1, by go_num, by omega, by rw [HS.out]; exact HO.out, hB1⟩, by simp [intOf]; omega⟩
    · have hall : Hid (litTo s.data.toList k ++ [39] = lit s.data.toList) := litTo_all _ k (by rw [llen]; omega)
      generalize litTo s.data.toList k = L at *
      go_wp2_with (at_builtin; refine wpList_append_own _ rfl _ _ 53 rfl w.heap.size 5 i0 (.int .u8 0) 1 1 Tryz.underlying53 hi hz0 hz1 hz2 rfl (by decide) _ _ _ rfl (hown.alloc _) ⟨wr.heap.size, 0, none⟩ 1 1 [.int .u8 39] rfl rfl ?c1 ?c2 ?c3 ?c4 ?c5 ?_)
      case c2 => rfl
      case c3 => unfold maxLen; omega
      case c4 => omega
      case c5 => omega
      intro v' w2 hown2 hgrow _
      have hown3 : Holds w2 w.heap.size v' (L ++ [39]) := by unfold Holds; rw [bcs_app, List.length_append]; exact hown2
      have hB2 := (hB.alloc hsz _).grown hgrow (by simp; omega) (fun q hq => (World.ownsRow.lt hown _ hq).1)
      rw [hall.out] at hown3
      have hconv := hown3.conv
      clear hown hown2 hgrow hB hown3
      go_wp2_with fail
      go_ret
      exact ⟨rfl, hB2⟩
end Go.Proofs.YtbeohmcmphebhaaGreatDoor
namespace Go.Proofs.YtbeohmcmphebhaaGreatDoor
open Go.RowKit
theorem hexAt_short (s : ByteArray) (h : s.size < 4) : hexAt s.data.toList = (0, 0) := by
  obtain ⟨⟨l⟩⟩ := s
  match l, h with
  | [], _ => rfl
  | [_], _ => rfl
  | [_, _], _ => rfl
  | [_, _, _], _ => rfl
  | _ :: _ :: _ :: _ :: _, h => simp [ByteArray.size] at h; omega
theorem hexAt_at (s : ByteArray) (h : 4 ≤ s.size) : hexAt s.data.toList = if 0 ≤ Lib.indexByte hexs s[2] ∧ 0 ≤ Lib.indexByte hexs s[3] then (16 * (Lib.indexByte hexs s[2]).toNat + (Lib.indexByte hexs s[3]).toNat, 4) else (0, 0) := by
  obtain ⟨⟨l⟩⟩ := s
  match l, h with
  | [], h => simp [ByteArray.size] at h
  | [_], h => simp [ByteArray.size] at h
  | [_, _], h => simp [ByteArray.size] at h
  | [_, _, _], h => simp [ByteArray.size] at h
  | _ :: _ :: _ :: _ :: _, h => rfl
theorem strokeAt_short (g : List UInt8) (s : ByteArray) (h : s.size < 2) : strokeAt g s.data.toList = (0, 0) := by
  obtain ⟨⟨l⟩⟩ := s
  match l, h with
  | [], _ => rfl
  | [_], _ => rfl
  | _ :: _ :: _, h => simp [ByteArray.size] at h; omega
theorem strokeAt_at (g : List UInt8) (s : ByteArray) (h : 2 ≤ s.size) : strokeAt g s.data.toList = if s[1].toNat = 110 then (10, 2) else if s[1].toNat = 116 then (9, 2) else if s[1].toNat = 120 then hexAt s.data.toList else if gd g s[1] then (s[1].toNat, 2) else (0, 0) := by
  obtain ⟨⟨l⟩⟩ := s
  match l, h with
  | [], h => simp [ByteArray.size] at h
  | [_], h => simp [ByteArray.size] at h
  | _ :: _ :: _, h => rfl
theorem signAt_at (g : List UInt8) (s : ByteArray) (h : 0 < s.size) : signAt g s.data.toList = if s[0].toNat = 10 then (0, 0) else if s[0].toNat ≠ 92 then (s[0].toNat, 1) else strokeAt g s.data.toList := by
  obtain ⟨⟨l⟩⟩ := s
  match l, h with
  | [], h => simp [ByteArray.size] at h
  | _ :: _, h => rfl
theorem or_fin : ∀ x y : Fin 16, bits .or .i64 ((x.val : Int) * 16) (y.val : Int) = 16 * (x.val : Int) + (y.val : Int) := by decide +kernel
theorem or_eq (X Y : Int) (hX0 : 0 ≤ X) (hX : X < 16) (hY0 : 0 ≤ Y) (hY : Y < 16) : bits .or .i64 (X * 16) Y = 16 * X + Y := by
  obtain ⟨x, rfl⟩ := Int.eq_ofNat_of_zero_le hX0
  obtain ⟨y, rfl⟩ := Int.eq_ofNat_of_zero_le hY0
  exact or_fin ⟨x, by omega⟩ ⟨y, by omega⟩
theorem ret_two {k1 k2 : IntKind} {a a' b b' : Int} (h1 : a = a') (h2 : b = b') : Ending.returned (.tuple #[.int k1 a, .int k2 b]) = .returned (.tuple #[.int k1 a', .int k2 b']) := by rw [h1, h2]
set_option maxHeartbeats 1000000 in
theorem hexAt_any (s : ByteArray) (w : World) (hs : s.size ≤ maxLen) :
    Calls Tryz.prog 137 #[.string s] w fun e w' => e = .returned (.tuple #[.int .u8 ((hexAt s.data.toList).1 : Int), .int .i64 ((hexAt s.data.toList).2 : Int)]) ∧ ∃ n, w' = w.drewN n := by
  unfold maxLen at hs
  by_cases h4 : s.size < 4
  · rw [hexAt_short s h4]
    have hx : decide ((s.size : Int) < 4) = true := by simp; omega
    go_enter Tryz.func137, Tryz.ntmps137
    go_wp2_with fail
    go_ret2
    exact ⟨rfl, 0, rfl⟩
  · have hx : decide ((s.size : Int) < 4) = false := by simp; omega
    have h2 : (2 : Int) < s.size := by omega
    have h3 : (3 : Int) < s.size := by omega
    have HR : Hid (hexAt s.data.toList = if 0 ≤ Lib.indexByte hexs s[2] ∧ 0 ≤ Lib.indexByte hexs s[3] then (16 * (Lib.indexByte hexs s[2]).toNat + (Lib.indexByte hexs s[3]).toNat, 4) else (0, 0)) := hexAt_at s (by omega)
    generalize hexAt s.data.toList = R at *
    have b1 : Lib.indexByte hexs s[2] < 16 := idx_lt hexs s[2]
    have b2 : Lib.indexByte hexs s[3] < 16 := idx_lt hexs s[3]
    have c1 := Lib.indexByte_ge hexs s[2]
    have c2 := Lib.indexByte_ge hexs s[3]
    go_enter Tryz.func137, Tryz.ntmps137
    go_wp2_with fail
    go_region_with ((go_at_call 32; refine (Tryz.strings_IndexByte _ _ _).mono ?_; rintro e w' ⟨rfl, rfl⟩))
    all_goals
      simp only [show ([48, 49, 50, 51, 52, 53, 54, 55, 56, 57, 97, 98, 99, 100, 101, 102] : List UInt8) = hexs from rfl]
      generalize Lib.indexByte hexs s[2] = X at *
      generalize Lib.indexByte hexs s[3] = Y at *
      rcases (by omega : X = -1 ∨ (0 ≤ X ∧ Y = -1) ∨ (0 ≤ X ∧ 0 ≤ Y)) with rfl | ⟨hX, rfl⟩ | ⟨hX, hY⟩
      · go_wp2_with fail
        go_ret2
        have eR : R = (0, 0) := by rw [HR.out, if_neg (by omega)]
        exact ⟨by rw [eR] <;> rfl, 1, rfl⟩
      · have x1 : decide (X < 0) = false := by simp; omega
        go_wp2_with fail
        go_ret2
        have eR : R = (0, 0) := by rw [HR.out, if_neg (by omega)]
        exact ⟨by rw [eR] <;> rfl, 1, rfl⟩
      · have x1 : decide (X < 0) = false := by simp; omega
        have x2 : decide (Y < 0) = false := by simp; omega
        have x3 := or_eq X Y hX b1 hY b2
        go_wp2_with fail
        go_ret2
        have eR : R = (16 * X.toNat + Y.toNat, 4) := by rw [HR.out, if_pos ⟨hX, hY⟩]
        exact ⟨ret_two (by rw [eR]; show _ = ((16 * X.toNat + Y.toNat : Nat) : Int); omega) (by rw [eR]; rfl), 1, rfl⟩
set_option maxHeartbeats 1000000 in
theorem signAt_any (s g : ByteArray) (w : World) (hs : s.size ≤ maxLen) :
    Calls Tryz.prog 131 #[.string s, .string g] w fun e w' => e = .returned (.tuple #[.int .u8 ((signAt g.data.toList s.data.toList).1 : Int), .int .i64 ((signAt g.data.toList s.data.toList).2 : Int)]) ∧ ∃ n, w' = w.drewN n := by
  have hs' := hs
  unfold maxLen at hs
  by_cases h0 : s.size = 0
  · obtain rfl := empty_of s h0
    go_enter Tryz.func131, Tryz.ntmps131
    go_wp2_with fail
    go_ret2
    exact ⟨rfl, 0, rfl⟩
  · have he := nonempty s h0
    have h1 : (0 : Int) < s.size := by omega
    have h1' : 0 < s.size := by omega
    have e1 := signAt_at g.data.toList s h1'
    generalize signAt g.data.toList s.data.toList = R at *
    by_cases a10 : s[0].toNat = 10
    · rw [if_pos a10] at e1
      subst e1
      have hx : ((s[0].toNat : Int) == 10) = true := by simp; omega
      clear a10
      go_enter Tryz.func131, Tryz.ntmps131
      go_wp2_with fail
      go_ret2
      exact ⟨rfl, 0, rfl⟩
    · rw [if_neg a10] at e1
      have hx : ((s[0].toNat : Int) == 10) = false := by simp; omega
      by_cases a92 : s[0].toNat ≠ 92
      · rw [if_pos a92] at e1
        subst e1
        have hy : ((s[0].toNat : Int) == 92) = false := by simp; omega
        clear a10 a92
        go_enter Tryz.func131, Tryz.ntmps131
        go_wp2_with fail
        go_ret2
        exact ⟨rfl, 0, rfl⟩
      · rw [if_neg a92] at e1
        have hy : ((s[0].toNat : Int) == 92) = true := by simp; omega
        clear a10 a92
        by_cases h2 : s.size < 2
        · rw [strokeAt_short _ s h2] at e1
          subst e1
          have hz : decide ((s.size : Int) < 2) = true := by simp; omega
          go_enter Tryz.func131, Tryz.ntmps131
          go_wp2_with fail
          go_ret2
          exact ⟨rfl, 0, rfl⟩
        · rw [strokeAt_at _ s (by omega)] at e1
          have hz : decide ((s.size : Int) < 2) = false := by simp; omega
          have h3 : (1 : Int) < s.size := by omega
          by_cases b110 : s[1].toNat = 110
          · rw [if_pos b110] at e1
            subst e1
            have hu : ((s[1].toNat : Int) == 110) = true := by simp; omega
            clear b110
            go_enter Tryz.func131, Tryz.ntmps131
            go_wp2_with fail
            go_ret2
            exact ⟨rfl, 0, rfl⟩
          · rw [if_neg b110] at e1
            have hu : ((s[1].toNat : Int) == 110) = false := by simp; omega
            clear b110
            by_cases b116 : s[1].toNat = 116
            · rw [if_pos b116] at e1
              subst e1
              have hv : ((s[1].toNat : Int) == 116) = true := by simp; omega
              clear b116
              go_enter Tryz.func131, Tryz.ntmps131
              go_wp2_with fail
              go_ret2
              exact ⟨rfl, 0, rfl⟩
            · rw [if_neg b116] at e1
              have hv : ((s[1].toNat : Int) == 116) = false := by simp; omega
              clear b116
              by_cases b120 : s[1].toNat = 120
              · rw [if_pos b120] at e1
                have HE : Hid (R = hexAt s.data.toList) := e1
                have hq : ((s[1].toNat : Int) == 120) = true := by simp; omega
                clear b120 e1
                go_enter Tryz.func131, Tryz.ntmps131
                go_wp2_with fail
                refine (hexAt_any s _ hs').mono ?_
                rintro e w1 ⟨rfl, n, rfl⟩
                rw [← HE.out]
                go_wp2_with fail
                go_ret2
                exact ⟨rfl, n, rfl⟩
              · rw [if_neg b120] at e1
                have hq : ((s[1].toNat : Int) == 120) = false := by simp; omega
                clear b120
                cases hg : gd g.data.toList s[1]
                · have hgf := gd_false hg
                  rw [hg] at e1
                  simp only [Bool.false_eq_true, if_false] at e1
                  subst e1
                  clear hg
                  go_enter Tryz.func131, Tryz.ntmps131
                  go_wp2_with fail
                  refine (Tryz.strings_IndexByte g _ _).mono ?_
                  rintro e w1 ⟨rfl, rfl⟩
                  rw [back_u8]
                  go_wp2_with fail
                  go_ret2
                  exact ⟨rfl, 0, rfl⟩
                · have hgf := gd_true hg
                  rw [hg] at e1
                  simp only [if_true] at e1
                  subst e1
                  clear hg
                  go_enter Tryz.func131, Tryz.ntmps131
                  go_wp2_with fail
                  refine (Tryz.strings_IndexByte g _ _).mono ?_
                  rintro e w1 ⟨rfl, rfl⟩
                  rw [back_u8]
                  go_wp2_with fail
                  go_ret2
                  exact ⟨rfl, 0, rfl⟩
theorem mk_size (l : List UInt8) : (⟨l.toArray⟩ : ByteArray).size = l.length := by simp [ByteArray.size]
end Go.Proofs.YtbeohmcmphebhaaGreatDoor
namespace Go.Proofs.YtbeohmcmphebhaaGreatDoor
open Go.RowKit
theorem conv_one (c : UInt8) (w : World) : (convert 53 9 (.slice (some ⟨w.heap.size, 0, none⟩) 1 1)).run Tryz.prog (w.alloc (.cells #[.int .u8 (c.toNat : Int)] 5)) = .ok (.string ⟨#[c]⟩) (w.alloc (.cells #[.int .u8 (c.toNat : Int)] 5)) := by
  have h : (w.alloc (.cells #[.int .u8 (c.toNat : Int)] 5)).ownsRow w.heap.size 5 1 (.slice (some ⟨w.heap.size, 0, none⟩) 1 1) 1 (([c] : List UInt8).map fun b => Value.int .u8 (b.toNat : Int)) :=
    World.ownsRow_lit w #[.int .u8 (c.toNat : Int)] 1 (Nat.le_refl _) (by unfold maxLen; omega) rfl
  exact conv_own Tryz.underlying53 Tryz.underlying5 Tryz.underlying9 h
theorem dig_fin : ∀ k : Fin 16, hexA.extract k.val (k.val + 1) = ⟨#[hexc k.val]⟩ := by decide +kernel
theorem ret_str {s t : ByteArray} (h : s = t) : Ending.returned (.string s) = .returned (.string t) := by rw [h]
theorem cat4 (a b c d : UInt8) : ((⟨#[a, b]⟩ : ByteArray) ++ ⟨#[c]⟩) ++ ⟨#[d]⟩ = ⟨#[a, b, c, d]⟩ := by apply ByteArray.ext; simp
set_option maxHeartbeats 1000000 in
theorem rsign (low : Nat) (g : List UInt8) (c : UInt8) (h10 : c.toNat ≠ 10) (h9 : c.toNat ≠ 9) (hg : gd g c = true → low ≤ c.toNat ∧ c.toNat ≤ 126) (hp : c.toNat < low ∨ 126 < c.toNat) : sign low g c = [92, 120, hexc (c.toNat / 16), hexc (c.toNat % 16)] := by
  unfold sign
  rw [if_neg h10, if_neg h9]
  cases h : gd g c
  · simp only [Bool.false_eq_true, if_false]; rw [if_pos hp]
  · have := hg h; omega
set_option maxHeartbeats 1000000 in
set_option maxHeartbeats 1000000 in
theorem wrapSmall (x : Int) (h0 : 0 ≤ x) (h1 : x ≤ 4611686018427387904) : IntKind.i64.wrap x = x := by
  simp only [IntKind.wrap, IntKind.signed, IntKind.bits]
  simp
  omega
theorem b_call {w W w' : World} (h : Below w.heap.size w W) (hb : Below W.heap.size W w') : Below w.heap.size w w' := h.trans (hb.mono h.size)
end Go.Proofs.YtbeohmcmphebhaaGreatDoor
