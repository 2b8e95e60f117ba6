import Derived.Test.YtbeohmcmphebhaaDoorXQOwn
import Derived.Test.YtbeohmcmphebhaaDoorXShelf
import Derived.Deep.RegionHeld3
import Derived.Deep.AppendLies
import Derived.Deep.DrawnRows
namespace Go.Proofs.YtbeohmcmphebhaaDoor
open Go.RowKit
theorem back_u8 (c : UInt8) : ((c.toNat : Int).toNat.toUInt8) = c := by simp
theorem gd_true {g : List UInt8} {c : UInt8} (h : gd g c = true) : decide (0 ≤ Lib.indexByte g c) = true := h
theorem gd_false {g : List UInt8} {c : UInt8} (h : gd g c = false) : decide (0 ≤ Lib.indexByte g c) = false := h
theorem and15 (c : UInt8) : bits .and .u8 (c.toNat : Int) 15 = ((c.toNat % 16 : Nat) : Int) := by
  have h := (by decide +kernel : ∀ k : Fin 256, bits .and .u8 ((k.val : Nat) : Int) 15 = ((k.val % 16 : Nat) : Int)) ⟨c.toNat, c.toNat_lt⟩
  exact h
def hexA : ByteArray := ⟨#[48, 49, 50, 51, 52, 53, 54, 55, 56, 57, 97, 98, 99, 100, 101, 102]⟩
theorem hex_fin : ∀ k : Fin 16, hexA[k.val]'(by rw [show hexA.size = 16 from rfl]; exact k.isLt) = hexc k.val := by decide +kernel
theorem hex_at (i : Int) (k : Nat) (h : i = k) (hk : k < 16) (hp : i.toNat < (⟨#[48, 49, 50, 51, 52, 53, 54, 55, 56, 57, 97, 98, 99, 100, 101, 102]⟩ : ByteArray).size) :
    (⟨#[48, 49, 50, 51, 52, 53, 54, 55, 56, 57, 97, 98, 99, 100, 101, 102]⟩ : ByteArray)[i.toNat]'hp = hexc k := by
  subst h
  exact hex_fin ⟨k, hk⟩
set_option maxHeartbeats 1000000 in
theorem appendSign_any (low : Nat) (g : ByteArray) (c : UInt8) (v : Value) (l : List UInt8) (base : Nat) (w : World) (hown : Holds w base v l) (hl : l.length ≤ 100000000) (hbase : base ≤ w.heap.size) :
    Calls Tryd.prog 67 #[v, .int .u8 (c.toNat : Int), .int .u8 (low : Int), .string g] w fun e w' => ∃ v', e = .returned v' ∧ Holds w' base v' (l ++ sign low g.data.toList c) ∧ w.grownBy w' v.ownBlock := by
  obtain ⟨i0, hi, hz0, hz1, hz2⟩ := info_parts Tryd.info5
  have hcl := c.toNat_lt
  by_cases h10 : c.toNat = 10
  · have e : sign low g.data.toList c = [92, 110] := by unfold sign; rw [if_pos h10]
    rw [e]
    have hx : ((c.toNat : Int) == 10) = true := by simp; omega
    clear e h10
    go_enter Tryd.func67, Tryd.ntmps67
    go_wp2_with (at_builtin; refine Lib.wpList_append_own_string _ rfl _ _ 49 9 rfl base 5 i0 Tryd.underlying49 Tryd.underlying9 hi hz0 hz1 hz2 _ _ _ rfl hown ⟨#[92, 110]⟩ rfl ?c1 ?c2 hbase ?_)
    case c1 => unfold maxLen; simp [ByteArray.size]; omega
    case c2 => simp [ByteArray.size]; omega
    intro v' w2 hown2 hgrow _
    go_wp2_with fail
    go_ret
    exact ⟨v', rfl, by unfold Holds; rw [bcs_app, List.length_append]; exact hown2, hgrow⟩
  · have hx0 : ((c.toNat : Int) == 10) = false := by simp; omega
    by_cases h9 : c.toNat = 9
    · have e : sign low g.data.toList c = [92, 116] := by unfold sign; rw [if_neg h10, if_pos h9]
      rw [e]
      have hx : ((c.toNat : Int) == 9) = true := by simp; omega
      clear e h10 h9
      go_enter Tryd.func67, Tryd.ntmps67
      go_wp2_with (at_builtin; refine Lib.wpList_append_own_string _ rfl _ _ 49 9 rfl base 5 i0 Tryd.underlying49 Tryd.underlying9 hi hz0 hz1 hz2 _ _ _ rfl hown ⟨#[92, 116]⟩ rfl ?c1 ?c2 hbase ?_)
      case c1 => unfold maxLen; simp [ByteArray.size]; omega
      case c2 => simp [ByteArray.size]; omega
      intro v' w2 hown2 hgrow _
      go_wp2_with fail
      go_ret
      exact ⟨v', rfl, by unfold Holds; rw [bcs_app, List.length_append]; exact hown2, hgrow⟩
    · have hx1 : ((c.toNat : Int) == 9) = false := by simp; omega
      cases hg : gd g.data.toList c
      · have hgf := gd_false hg
        by_cases hp : c.toNat < low ∨ 126 < c.toNat
        · have e : sign low g.data.toList c = [92, 120, hexc (c.toNat / 16), hexc (c.toNat % 16)] := by unfold sign; rw [if_neg h10, if_neg h9, hg]; simp only [Bool.false_eq_true, if_false]; rw [if_pos hp]
          rw [e]
          have hor : decide (c.toNat < low) = true ∨ (decide (c.toNat < low) = false ∧ decide ((126 : Int) < (c.toNat : Int)) = true) := by simp; omega
          clear e h10 h9 hg hp
          rcases hor with hy | ⟨hy, hz⟩
          · go_enter Tryd.func67, Tryd.ntmps67
            go_wp2_with fail
            refine (Tryd.strings_IndexByte g _ _).mono ?_
            rintro e w' ⟨rfl, rfl⟩
            rw [back_u8]
            go_wp2_with fail
            have hand : bits .and .u8 (c.toNat : Int) 15 = ((c.toNat % 16 : Nat) : Int) := and15 c
            have hd1 : (c.toNat : Int) / 16 < 16 := by omega
            have hd2 : ((c.toNat % 16 : Nat) : Int) < 16 := by omega
            have hd3 : (c.toNat : Int) % 16 < 16 := by omega
            have hd4 : (0 : Int) ≤ (c.toNat : Int) % 16 := by omega
            have hd5 : (0 : Int) ≤ (c.toNat : Int) / 16 := by omega
            go_region_held3 (fun w' => True) (trivial)
              ((refine step_append_lies _ (by rfl) _ _ _ (by rfl) base 5 i0 _ 1 1 Tryd.underlying49 hi hz0 hz1 hz2 rfl (by omega) _ _ _ (by rfl) ((hown.alloc _).drew)
                    ⟨w'.heap.size, 0, none⟩ 4 4 _ (by rfl) (by rfl) (World.news_of_block (t := 5) (fr := (0, 0)) (heap_alloc_new w' _)) (by simp [Value.oneCell'])
                    (by omega) (by unfold maxLen; omega) (by omega) (by simp; omega) (w'.heap.size + 1) (by simp) ?_; intro gg cap w1 hown1 hgrow hat hlt))
            all_goals
              simp only [hex_at ((c.toNat : Int) / (16 : Int)) (c.toNat / 16) (by omega) (by omega), hex_at ((c.toNat : Int) % (16 : Int)) (c.toNat % 16) (by omega) (by omega)] at hown1
              go_wp2_with fail
              go_ret
              exact ⟨_, rfl, by unfold Holds; rw [bcs_app, List.length_append]; exact hown1, grown_alloc _ (grown_drew hgrow)⟩
          · go_enter Tryd.func67, Tryd.ntmps67
            go_wp2_with fail
            refine (Tryd.strings_IndexByte g _ _).mono ?_
            rintro e w' ⟨rfl, rfl⟩
            rw [back_u8]
            go_wp2_with fail
            have hand : bits .and .u8 (c.toNat : Int) 15 = ((c.toNat % 16 : Nat) : Int) := and15 c
            have hd1 : (c.toNat : Int) / 16 < 16 := by omega
            have hd2 : ((c.toNat % 16 : Nat) : Int) < 16 := by omega
            have hd3 : (c.toNat : Int) % 16 < 16 := by omega
            have hd4 : (0 : Int) ≤ (c.toNat : Int) % 16 := by omega
            have hd5 : (0 : Int) ≤ (c.toNat : Int) / 16 := by omega
            go_region_held3 (fun w' => True) (trivial)
              ((refine step_append_lies _ (by rfl) _ _ _ (by rfl) base 5 i0 _ 1 1 Tryd.underlying49 hi hz0 hz1 hz2 rfl (by omega) _ _ _ (by rfl) ((hown.alloc _).drew)
                    ⟨w'.heap.size, 0, none⟩ 4 4 _ (by rfl) (by rfl) (World.news_of_block (t := 5) (fr := (0, 0)) (heap_alloc_new w' _)) (by simp [Value.oneCell'])
                    (by omega) (by unfold maxLen; omega) (by omega) (by simp; omega) (w'.heap.size + 1) (by simp) ?_; intro gg cap w1 hown1 hgrow hat hlt))
            all_goals
              simp only [hex_at ((c.toNat : Int) / (16 : Int)) (c.toNat / 16) (by omega) (by omega), hex_at ((c.toNat : Int) % (16 : Int)) (c.toNat % 16) (by omega) (by omega)] at hown1
              go_wp2_with fail
              go_ret
              exact ⟨_, rfl, by unfold Holds; rw [bcs_app, List.length_append]; exact hown1, grown_alloc _ (grown_drew hgrow)⟩
        · have e : sign low g.data.toList c = [c] := by unfold sign; rw [if_neg h10, if_neg h9, hg]; simp only [Bool.false_eq_true, if_false]; rw [if_neg hp]
          rw [e]
          have hy : decide (c.toNat < low) = false := by simp; omega
          have hz : decide ((126 : Int) < (c.toNat : Int)) = false := by simp; omega
          clear e h10 h9 hg hp
          go_enter Tryd.func67, Tryd.ntmps67
          go_wp2_with fail
          refine (Tryd.strings_IndexByte g _ _).mono ?_
          rintro e w' ⟨rfl, rfl⟩
          rw [back_u8]
          go_wp2_with (at_builtin; refine wpList_append_own _ rfl _ _ 49 rfl base 5 i0 (.int .u8 0) 1 1 Tryd.underlying49 hi hz0 hz1 hz2 rfl (by decide) _ _ _ rfl (hown.alloc _) ⟨w'.heap.size, 0, none⟩ 1 1 [.int .u8 (c.toNat : Int)] rfl rfl ?c1 ?c2 ?c3 ?c4 ?c5 ?_)
          case c1 =>
            intro j u hj
            match j, hj with
            | 0, hj => simp at hj; subst hj; simp [Addr.add]
          case c2 => intro u hu; simp at hu; subst hu; rfl
          case c3 => unfold maxLen; omega
          case c4 => omega
          case c5 => simp; omega
          intro v' w2 hown2 hgrow _
          go_wp2_with fail
          go_ret
          exact ⟨v', rfl, by unfold Holds; rw [bcs_app, List.length_append]; exact hown2, grown_alloc _ hgrow⟩
      · have hgt := gd_true hg
        have e : sign low g.data.toList c = [92, c] := by unfold sign; rw [if_neg h10, if_neg h9, hg]; simp only [if_true]
        rw [e]
        clear e h10 h9 hg
        go_enter Tryd.func67, Tryd.ntmps67
        go_wp2_with fail
        refine (Tryd.strings_IndexByte g _ _).mono ?_
        rintro e w' ⟨rfl, rfl⟩
        rw [back_u8]
        go_wp2_with (at_builtin; refine wpList_append_own _ rfl _ _ 49 rfl base 5 i0 (.int .u8 0) 1 1 Tryd.underlying49 hi hz0 hz1 hz2 rfl (by decide) _ _ _ rfl (hown.alloc _) ⟨w'.heap.size, 0, none⟩ 2 2 [.int .u8 92, .int .u8 (c.toNat : Int)] rfl rfl ?c1 ?c2 ?c3 ?c4 ?c5 ?_)
        case c1 =>
          intro j u hj
          match j, hj with
          | 0, hj => simp at hj; subst hj; simp [Addr.add]
          | 1, hj => simp at hj; subst hj; simp [Addr.add]
        case c2 => intro u hu; simp at hu; rcases hu with rfl | rfl <;> rfl
        case c3 => unfold maxLen; omega
        case c4 => omega
        case c5 => simp; omega
        intro v' w2 hown2 hgrow _
        go_wp2_with fail
        go_ret
        exact ⟨v', rfl, by unfold Holds; rw [bcs_app, List.length_append]; exact hown2, grown_alloc _ hgrow⟩
end Go.Proofs.YtbeohmcmphebhaaDoor
namespace Go.Proofs.YtbeohmcmphebhaaDoor
open Go.RowKit
/-- What is written behind k bytes. -/
def litTo (l : List UInt8) (k : Nat) : List UInt8 := 39 :: (l.take k).flatMap (sign 32 [39, 92])
theorem litTo_succ (s : ByteArray) (k : Nat) (h : k < s.size) : litTo s.data.toList (k + 1) = litTo s.data.toList k ++ sign 32 [39, 92] s[k] := by
  unfold litTo; rw [take_snoc s k h, flat_snoc]; rfl
theorem litTo_len (l : List UInt8) (k : Nat) : (litTo l k).length ≤ 4 * k + 1 := by
  have h1 := flat_len 32 [39, 92] (l.take k)
  have h2 : (l.take k).length ≤ k := by simp; omega
  unfold litTo; rw [List.length_cons]; omega
theorem litTo_all (l : List UInt8) (k : Nat) (h : l.length ≤ k) : litTo l k ++ [39] = lit l := by
  unfold litTo lit; rw [List.take_of_length_le h]; rfl
theorem own_base {w : World} {base base' : Nat} {v : Value} {l : List UInt8} (h : Holds w base v l) (hb : base' ≤ base) : Holds w base' v l := by
  obtain ⟨h1, h2⟩ := h
  refine ⟨h1, ?_⟩
  rcases h2 with h2 | ⟨g, cap, cur, hv, hg, r⟩
  · exact Or.inl h2
  · exact Or.inr ⟨g, cap, cur, hv, Nat.le_trans hb hg, r⟩
set_option maxHeartbeats 1000000 in
theorem lit_any (s : ByteArray) (w : World) (hs : s.size ≤ 10000000) :
    Calls Tryd.prog 41 #[.string s] w fun e w' => e = .returned (.string ⟨(lit s.data.toList).toArray⟩) ∧ Below w.heap.size w w' := by
  obtain ⟨i0, hi, hz0, hz1, hz2⟩ := info_parts Tryd.info5
  go_enter Tryd.func41, Tryd.ntmps41
  go_wp2_with fail
  go_loopw [3, 4, 8] (fun v _ i wx => ∃ k : Nat, i = .int .i64 k ∧ k ≤ s.size ∧ Holds wx w.heap.size v (litTo s.data.toList k) ∧ Below w.heap.size w wx) (fun _ _ i _ => s.size - (intOf i).toNat)
  case atStart => exact ⟨0, rfl, by omega, World.ownsRow_lit w #[.int .u8 39] 1 (Nat.le_refl _) (by unfold maxLen; omega) rfl, (Below.refl _ _).alloc (Nat.le_refl _) _⟩
  case round =>
    obtain ⟨k, rfl, hk, hown, hB⟩ := hrel
    have hlen := litTo_len s.data.toList k
    have hsz := hB.size
    by_cases hlt : (k : Int) < s.size
    · have hks : k < s.size := by omega
      have HS : Hid (litTo s.data.toList (k + 1) = litTo s.data.toList k ++ sign 32 [39, 92] s[k]) := litTo_succ s k hks
      generalize litTo s.data.toList k = L at *
      go_wp2_with fail
      refine (appendSign_any 32 ⟨#[39, 92]⟩ s[k] _ L w.heap.size _ hown (by omega) hsz).mono ?_
      rintro e w1 ⟨v', rfl, hown1, hgrow⟩
      have hB1 := hB.grown hgrow hsz (fun q hq => (World.ownsRow.lt hown _ hq).1)
      have HO : Hid (Holds w1 w.heap.size v' (L ++ sign 32 [39, 92] s[k])) := hown1
      clear hown hown1 hB hgrow
      go_wp2_with fail
      exact ⟨⟨k + 1, by go_num, by omega, by rw [HS.out]; exact HO.out, hB1⟩, by simp [intOf]; omega⟩
    · have hall : Hid (litTo s.data.toList k ++ [39] = lit s.data.toList) := litTo_all _ k (by rw [llen]; omega)
      generalize litTo s.data.toList k = L at *
      go_wp2_with (at_builtin; refine wpList_append_own _ rfl _ _ 49 rfl w.heap.size 5 i0 (.int .u8 0) 1 1 Tryd.underlying49 hi hz0 hz1 hz2 rfl (by decide) _ _ _ rfl (hown.alloc _) ⟨wr.heap.size, 0, none⟩ 1 1 [.int .u8 39] rfl rfl ?c1 ?c2 ?c3 ?c4 ?c5 ?_)
      case c2 => rfl
      case c3 => unfold maxLen; omega
      case c4 => omega
      case c5 => omega
      intro v' w2 hown2 hgrow _
      have hown3 : Holds w2 w.heap.size v' (L ++ [39]) := by unfold Holds; rw [bcs_app, List.length_append]; exact hown2
      have hB2 := (hB.alloc hsz _).grown hgrow (by simp; omega) (fun q hq => (World.ownsRow.lt hown _ hq).1)
      rw [hall.out] at hown3
      have hconv := hown3.conv
      clear hown hown2 hgrow hB hown3
      go_wp2_with fail
      go_ret
      exact ⟨rfl, hB2⟩
end Go.Proofs.YtbeohmcmphebhaaDoor
namespace Go.Proofs.YtbeohmcmphebhaaDoor
open Go.RowKit
theorem conv_one (c : UInt8) (w : World) : (convert 49 9 (.slice (some ⟨w.heap.size, 0, none⟩) 1 1)).run Tryd.prog (w.alloc (.cells #[.int .u8 (c.toNat : Int)] 5)) = .ok (.string ⟨#[c]⟩) (w.alloc (.cells #[.int .u8 (c.toNat : Int)] 5)) := by
  have h : (w.alloc (.cells #[.int .u8 (c.toNat : Int)] 5)).ownsRow w.heap.size 5 1 (.slice (some ⟨w.heap.size, 0, none⟩) 1 1) 1 (([c] : List UInt8).map fun b => Value.int .u8 (b.toNat : Int)) :=
    World.ownsRow_lit w #[.int .u8 (c.toNat : Int)] 1 (Nat.le_refl _) (by unfold maxLen; omega) rfl
  exact conv_own Tryd.underlying49 Tryd.underlying5 Tryd.underlying9 h
theorem dig_fin : ∀ k : Fin 16, hexA.extract k.val (k.val + 1) = ⟨#[hexc k.val]⟩ := by decide +kernel
theorem ret_str {s t : ByteArray} (h : s = t) : Ending.returned (.string s) = .returned (.string t) := by rw [h]
theorem cat4 (a b c d : UInt8) : ((⟨#[a, b]⟩ : ByteArray) ++ ⟨#[c]⟩) ++ ⟨#[d]⟩ = ⟨#[a, b, c, d]⟩ := by apply ByteArray.ext; simp
set_option maxHeartbeats 1000000 in
theorem rsign (low : Nat) (g : List UInt8) (c : UInt8) (h10 : c.toNat ≠ 10) (h9 : c.toNat ≠ 9) (hg : gd g c = true → low ≤ c.toNat ∧ c.toNat ≤ 126) (hp : c.toNat < low ∨ 126 < c.toNat) : sign low g c = [92, 120, hexc (c.toNat / 16), hexc (c.toNat % 16)] := by
  unfold sign
  rw [if_neg h10, if_neg h9]
  cases h : gd g c
  · simp only [Bool.false_eq_true, if_false]; rw [if_pos hp]
  · have := hg h; omega
set_option maxHeartbeats 1000000 in
set_option maxHeartbeats 1000000 in
theorem wrapSmall (x : Int) (h0 : 0 ≤ x) (h1 : x ≤ 4611686018427387904) : IntKind.i64.wrap x = x := by
  simp only [IntKind.wrap, IntKind.signed, IntKind.bits]
  simp
  omega
theorem b_call {w W w' : World} (h : Below w.heap.size w W) (hb : Below W.heap.size W w') : Below w.heap.size w w' := h.trans (hb.mono h.size)
end Go.Proofs.YtbeohmcmphebhaaDoor
