import Derived.Test.YtbeohmcmphebhaaXQOwn
import Derived.Test.YtbeohmcmphebhaaXShelfB
import Derived.Deep.RegionHeld3
import Derived.Deep.AppendLies
import Derived.Deep.DrawnRows
namespace Go.Proofs.Ytbeohmcmphebhaa
open Go.RowKit
theorem back_u8 (c : UInt8) : ((c.toNat : Int).toNat.toUInt8) = c := by simp
theorem gd_true {g : List UInt8} {c : UInt8} (h : gd g c = true) : decide (0 ≤ Lib.indexByte g c) = true := h
theorem gd_false {g : List UInt8} {c : UInt8} (h : gd g c = false) : decide (0 ≤ Lib.indexByte g c) = false := h
theorem and15 (c : UInt8) : bits .and .u8 (c.toNat : Int) 15 = ((c.toNat % 16 : Nat) : Int) := by
  have h := (by decide +kernel : ∀ k : Fin 256, bits .and .u8 ((k.val : Nat) : Int) 15 = ((k.val % 16 : Nat) : Int)) ⟨c.toNat, c.toNat_lt⟩
  exact h
def hexA : ByteArray := ⟨#[48, 49, 50, 51, 52, 53, 54, 55, 56, 57, 97, 98, 99, 100, 101, 102]⟩
theorem hex_fin : ∀ k : Fin 16, hexA[k.val]'(by rw [show hexA.size = 16 from rfl]; exact k.isLt) = hexc k.val := by decide +kernel
theorem hex_at (i : Int) (k : Nat) (h : i = k) (hk : k < 16) (hp : i.toNat < (⟨#[48, 49, 50, 51, 52, 53, 54, 55, 56, 57, 97, 98, 99, 100, 101, 102]⟩ : ByteArray).size) :
    (⟨#[48, 49, 50, 51, 52, 53, 54, 55, 56, 57, 97, 98, 99, 100, 101, 102]⟩ : ByteArray)[i.toNat]'hp = hexc k := by
  subst h
  exact hex_fin ⟨k, hk⟩
set_option maxHeartbeats 1000000 in
theorem appendSign_any (low : Nat) (g : ByteArray) (c : UInt8) (v : Value) (l : List UInt8) (base : Nat) (w : World) (hown : Holds w base v l) (hl : l.length ≤ 100000000) (hbase : base ≤ w.heap.size) :
    Calls Try.prog 70 #[v, .int .u8 (c.toNat : Int), .int .u8 (low : Int), .string g] w fun e w' => ∃ v', e = .returned v' ∧ Holds w' base v' (l ++ sign low g.data.toList c) ∧ w.grownBy w' v.ownBlock := by
  obtain ⟨i0, hi, hz0, hz1, hz2⟩ := info_parts Try.info5
  have hcl := c.toNat_lt
  by_cases h10 : c.toNat = 10
  · have e : sign low g.data.toList c = [92, 110] := by unfold sign; rw [if_pos h10]
    rw [e]
    have hx : ((c.toNat : Int) == 10) = true := by simp; omega
    clear e h10
    go_enter Try.func70, Try.ntmps70
    go_wp2_with (at_builtin; refine Lib.wpList_append_own_string _ rfl _ _ 61 9 rfl base 5 i0 Try.underlying61 Try.underlying9 hi hz0 hz1 hz2 _ _ _ rfl hown ⟨#[92, 110]⟩ rfl ?c1 ?c2 hbase ?_)
    case c1 => unfold maxLen; simp [ByteArray.size]; omega
    case c2 => simp [ByteArray.size]; omega
    intro v' w2 hown2 hgrow _
    go_wp2_with fail
    go_ret
    exact ⟨v', rfl, by unfold Holds; rw [bcs_app, List.length_append]; exact hown2, hgrow⟩
  · have hx0 : ((c.toNat : Int) == 10) = false := by simp; omega
    by_cases h9 : c.toNat = 9
    · have e : sign low g.data.toList c = [92, 116] := by unfold sign; rw [if_neg h10, if_pos h9]
      rw [e]
      have hx : ((c.toNat : Int) == 9) = true := by simp; omega
      clear e h10 h9
      go_enter Try.func70, Try.ntmps70
      go_wp2_with (at_builtin; refine Lib.wpList_append_own_string _ rfl _ _ 61 9 rfl base 5 i0 Try.underlying61 Try.underlying9 hi hz0 hz1 hz2 _ _ _ rfl hown ⟨#[92, 116]⟩ rfl ?c1 ?c2 hbase ?_)
      case c1 => unfold maxLen; simp [ByteArray.size]; omega
      case c2 => simp [ByteArray.size]; omega
      intro v' w2 hown2 hgrow _
      go_wp2_with fail
      go_ret
      exact ⟨v', rfl, by unfold Holds; rw [bcs_app, List.length_append]; exact hown2, hgrow⟩
    · have hx1 : ((c.toNat : Int) == 9) = false := by simp; omega
      cases hg : gd g.data.toList c
      · have hgf := gd_false hg
        by_cases hp : c.toNat < low ∨ 126 < c.toNat
        · have e : sign low g.data.toList c = [92, 120, hexc (c.toNat / 16), hexc (c.toNat % 16)] := by unfold sign; rw [if_neg h10, if_neg h9, hg]; simp only [Bool.false_eq_true, if_false]; rw [if_pos hp]
          rw [e]
          have hor : decide (c.toNat < low) = true ∨ (decide (c.toNat < low) = false ∧ decide ((126 : Int) < (c.toNat : Int)) = true) := by simp; omega
          clear e h10 h9 hg hp
          rcases hor with hy | ⟨hy, hz⟩
          · go_enter Try.func70, Try.ntmps70
            go_wp2_with fail
            refine (Try.strings_IndexByte g _ _).mono ?_
            rintro e w' ⟨rfl, rfl⟩
            rw [back_u8]
            go_wp2_with fail
            have hand : bits .and .u8 (c.toNat : Int) 15 = ((c.toNat % 16 : Nat) : Int) := and15 c
            have hd1 : (c.toNat : Int) / 16 < 16 := by omega
            have hd2 : ((c.toNat % 16 : Nat) : Int) < 16 := by omega
            have hd3 : (c.toNat : Int) % 16 < 16 := by omega
            have hd4 : (0 : Int) ≤ (c.toNat : Int) % 16 := by omega
            have hd5 : (0 : Int) ≤ (c.toNat : Int) / 16 := by omega
            go_region_held3 (fun w' => True) (trivial)
              ((refine step_append_lies _ (by rfl) _ _ _ (by rfl) base 5 i0 _ 1 1 Try.underlying61 hi hz0 hz1 hz2 rfl (by omega) _ _ _ (by rfl) ((hown.alloc _).drew)
                    ⟨w'.heap.size, 0, none⟩ 4 4 _ (by rfl) (by rfl) (World.news_of_block (t := 5) (fr := (0, 0)) (heap_alloc_new w' _)) (by simp [Value.oneCell'])
                    (by omega) (by unfold maxLen; omega) (by omega) (by simp; omega) (w'.heap.size + 1) (by simp) ?_; intro gg cap w1 hown1 hgrow hat hlt))
            all_goals
              simp only [hex_at ((c.toNat : Int) / (16 : Int)) (c.toNat / 16) (by omega) (by omega), hex_at ((c.toNat : Int) % (16 : Int)) (c.toNat % 16) (by omega) (by omega)] at hown1
              go_wp2_with fail
              go_ret
              exact ⟨_, rfl, by unfold Holds; rw [bcs_app, List.length_append]; exact hown1, grown_alloc _ (grown_drew hgrow)⟩
          · go_enter Try.func70, Try.ntmps70
            go_wp2_with fail
            refine (Try.strings_IndexByte g _ _).mono ?_
            rintro e w' ⟨rfl, rfl⟩
            rw [back_u8]
            go_wp2_with fail
            have hand : bits .and .u8 (c.toNat : Int) 15 = ((c.toNat % 16 : Nat) : Int) := and15 c
            have hd1 : (c.toNat : Int) / 16 < 16 := by omega
            have hd2 : ((c.toNat % 16 : Nat) : Int) < 16 := by omega
            have hd3 : (c.toNat : Int) % 16 < 16 := by omega
            have hd4 : (0 : Int) ≤ (c.toNat : Int) % 16 := by omega
            have hd5 : (0 : Int) ≤ (c.toNat : Int) / 16 := by omega
            go_region_held3 (fun w' => True) (trivial)
              ((refine step_append_lies _ (by rfl) _ _ _ (by rfl) base 5 i0 _ 1 1 Try.underlying61 hi hz0 hz1 hz2 rfl (by omega) _ _ _ (by rfl) ((hown.alloc _).drew)
                    ⟨w'.heap.size, 0, none⟩ 4 4 _ (by rfl) (by rfl) (World.news_of_block (t := 5) (fr := (0, 0)) (heap_alloc_new w' _)) (by simp [Value.oneCell'])
                    (by omega) (by unfold maxLen; omega) (by omega) (by simp; omega) (w'.heap.size + 1) (by simp) ?_; intro gg cap w1 hown1 hgrow hat hlt))
            all_goals
              simp only [hex_at ((c.toNat : Int) / (16 : Int)) (c.toNat / 16) (by omega) (by omega), hex_at ((c.toNat : Int) % (16 : Int)) (c.toNat % 16) (by omega) (by omega)] at hown1
              go_wp2_with fail
              go_ret
              exact ⟨_, rfl, by unfold Holds; rw [bcs_app, List.length_append]; exact hown1, grown_alloc _ (grown_drew hgrow)⟩
        · have e : sign low g.data.toList c = [c] := by unfold sign; rw [if_neg h10, if_neg h9, hg]; simp only [Bool.false_eq_true, if_false]; rw [if_neg hp]
          rw [e]
          have hy : decide (c.toNat < low) = false := by simp; omega
          have hz : decide ((126 : Int) < (c.toNat : Int)) = false := by simp; omega
          clear e h10 h9 hg hp
          go_enter Try.func70, Try.ntmps70
          go_wp2_with fail
          refine (Try.strings_IndexByte g _ _).mono ?_
          rintro e w' ⟨rfl, rfl⟩
          rw [back_u8]
          go_wp2_with (at_builtin; refine wpList_append_own _ rfl _ _ 61 rfl base 5 i0 (.int .u8 0) 1 1 Try.underlying61 hi hz0 hz1 hz2 rfl (by decide) _ _ _ rfl (hown.alloc _) ⟨w'.heap.size, 0, none⟩ 1 1 [.int .u8 (c.toNat : Int)] rfl rfl ?c1 ?c2 ?c3 ?c4 ?c5 ?_)
          case c1 =>
            intro j u hj
            match j, hj with
            | 0, hj => simp at hj; subst hj; simp [Addr.add]
          case c2 => intro u hu; simp at hu; subst hu; rfl
          case c3 => unfold maxLen; omega
          case c4 => omega
          case c5 => simp; omega
          intro v' w2 hown2 hgrow _
          go_wp2_with fail
          go_ret
          exact ⟨v', rfl, by unfold Holds; rw [bcs_app, List.length_append]; exact hown2, grown_alloc _ hgrow⟩
      · have hgt := gd_true hg
        have e : sign low g.data.toList c = [92, c] := by unfold sign; rw [if_neg h10, if_neg h9, hg]; simp only [if_true]
        rw [e]
        clear e h10 h9 hg
        go_enter Try.func70, Try.ntmps70
        go_wp2_with fail
        refine (Try.strings_IndexByte g _ _).mono ?_
        rintro e w' ⟨rfl, rfl⟩
        rw [back_u8]
        go_wp2_with (at_builtin; refine wpList_append_own _ rfl _ _ 61 rfl base 5 i0 (.int .u8 0) 1 1 Try.underlying61 hi hz0 hz1 hz2 rfl (by decide) _ _ _ rfl (hown.alloc _) ⟨w'.heap.size, 0, none⟩ 2 2 [.int .u8 92, .int .u8 (c.toNat : Int)] rfl rfl ?c1 ?c2 ?c3 ?c4 ?c5 ?_)
        case c1 =>
          intro j u hj
          match j, hj with
          | 0, hj => simp at hj; subst hj; simp [Addr.add]
          | 1, hj => simp at hj; subst hj; simp [Addr.add]
        case c2 => intro u hu; simp at hu; rcases hu with rfl | rfl <;> rfl
        case c3 => unfold maxLen; omega
        case c4 => omega
        case c5 => simp; omega
        intro v' w2 hown2 hgrow _
        go_wp2_with fail
        go_ret
        exact ⟨v', rfl, by unfold Holds; rw [bcs_app, List.length_append]; exact hown2, grown_alloc _ hgrow⟩
end Go.Proofs.Ytbeohmcmphebhaa
