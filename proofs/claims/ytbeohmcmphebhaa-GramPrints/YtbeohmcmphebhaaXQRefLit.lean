import Derived.Test.YtbeohmcmphebhaaXQSign
namespace Go.Proofs.Ytbeohmcmphebhaa
open Go.RowKit
/-- What is written behind k bytes. -/
def litTo (l : List UInt8) (k : Nat) : List UInt8 := 39 :: (l.take k).flatMap (sign 32 [39, 92])
theorem litTo_succ (s : ByteArray) (k : Nat) (h : k < s.size) : litTo s.data.toList (k + 1) = litTo s.data.toList k ++ sign 32 [39, 92] s[k] := by
  unfold litTo; rw [take_snoc s k h, flat_snoc]; rfl
theorem litTo_len (l : List UInt8) (k : Nat) : (litTo l k).length ≤ 4 * k + 1 := by
  have h1 := flat_len 32 [39, 92] (l.take k)
  have h2 : (l.take k).length ≤ k := by simp; omega
  unfold litTo; rw [List.length_cons]; omega
theorem litTo_all (l : List UInt8) (k : Nat) (h : l.length ≤ k) : litTo l k ++ [39] = lit l := by
  unfold litTo lit; rw [List.take_of_length_le h]; rfl
theorem own_base {w : World} {base base' : Nat} {v : Value} {l : List UInt8} (h : Holds w base v l) (hb : base' ≤ base) : Holds w base' v l := by
  obtain ⟨h1, h2⟩ := h
  refine ⟨h1, ?_⟩
  rcases h2 with h2 | ⟨g, cap, cur, hv, hg, r⟩
  · exact Or.inl h2
  · exact Or.inr ⟨g, cap, cur, hv, Nat.le_trans hb hg, r⟩
set_option maxHeartbeats 1000000 in
theorem lit_any (s : ByteArray) (w : World) (hs : s.size ≤ 10000000) :
    Calls Try.prog 50 #[.string s] w fun e w' => e = .returned (.string ⟨(lit s.data.toList).toArray⟩) ∧ Below w.heap.size w w' := by
  obtain ⟨i0, hi, hz0, hz1, hz2⟩ := info_parts Try.info5
  go_enter Try.func50, Try.ntmps50
  go_wp2_with fail
  go_loopw [3, 4, 8] (fun v _ i wx => ∃ k : Nat, i = .int .i64 k ∧ k ≤ s.size ∧ Holds wx w.heap.size v (litTo s.data.toList k) ∧ Below w.heap.size w wx) (fun _ _ i _ => s.size - (intOf i).toNat)
  case atStart => exact ⟨0, rfl, by omega, World.ownsRow_lit w #[.int .u8 39] 1 (Nat.le_refl _) (by unfold maxLen; omega) rfl, (Below.refl _ _).alloc (Nat.le_refl _) _⟩
  case round =>
    obtain ⟨k, rfl, hk, hown, hB⟩ := hrel
    have hlen := litTo_len s.data.toList k
    have hsz := hB.size
    by_cases hlt : (k : Int) < s.size
    · have hks : k < s.size := by omega
      have HS : Hid (litTo s.data.toList (k + 1) = litTo s.data.toList k ++ sign 32 [39, 92] s[k]) := litTo_succ s k hks
      generalize litTo s.data.toList k = L at *
      go_wp2_with fail
      refine (appendSign_any 32 ⟨#[39, 92]⟩ s[k] _ L w.heap.size _ hown (by omega) hsz).mono ?_
      rintro e w1 ⟨v', rfl, hown1, hgrow⟩
      have hB1 := hB.grown hgrow hsz (fun q hq => (World.ownsRow.lt hown _ hq).1)
      have HO : Hid (Holds w1 w.heap.size v' (L ++ sign 32 [39, 92] s[k])) := hown1
      clear hown hown1 hB hgrow
      go_wp2_with fail
      exact ⟨⟨k + 1, by go_num, by omega, by rw [HS.out]; exact HO.out, hB1⟩, by simp [intOf]; omega⟩
    · have hall : Hid (litTo s.data.toList k ++ [39] = lit s.data.toList) := litTo_all _ k (by rw [llen]; omega)
      generalize litTo s.data.toList k = L at *
      go_wp2_with (at_builtin; refine wpList_append_own _ rfl _ _ 61 rfl w.heap.size 5 i0 (.int .u8 0) 1 1 Try.underlying61 hi hz0 hz1 hz2 rfl (by decide) _ _ _ rfl (hown.alloc _) ⟨wr.heap.size, 0, none⟩ 1 1 [.int .u8 39] rfl rfl ?c1 ?c2 ?c3 ?c4 ?c5 ?_)
      case c2 => rfl
      case c3 => unfold maxLen; omega
      case c4 => omega
      case c5 => omega
      intro v' w2 hown2 hgrow _
      have hown3 : Holds w2 w.heap.size v' (L ++ [39]) := by unfold Holds; rw [bcs_app, List.length_append]; exact hown2
      have hB2 := (hB.alloc hsz _).grown hgrow (by simp; omega) (fun q hq => (World.ownsRow.lt hown _ hq).1)
      rw [hall.out] at hown3
      have hconv := hown3.conv
      clear hown hown2 hgrow hB hown3
      go_wp2_with fail
      go_ret
      exact ⟨rfl, hB2⟩
end Go.Proofs.Ytbeohmcmphebhaa
namespace Go.Proofs.Ytbeohmcmphebhaa
open Go.RowKit
theorem conv_one (c : UInt8) (w : World) : (convert 61 9 (.slice (some ⟨w.heap.size, 0, none⟩) 1 1)).run Try.prog (w.alloc (.cells #[.int .u8 (c.toNat : Int)] 5)) = .ok (.string ⟨#[c]⟩) (w.alloc (.cells #[.int .u8 (c.toNat : Int)] 5)) := by
  have h : (w.alloc (.cells #[.int .u8 (c.toNat : Int)] 5)).ownsRow w.heap.size 5 1 (.slice (some ⟨w.heap.size, 0, none⟩) 1 1) 1 (([c] : List UInt8).map fun b => Value.int .u8 (b.toNat : Int)) :=
    World.ownsRow_lit w #[.int .u8 (c.toNat : Int)] 1 (Nat.le_refl _) (by unfold maxLen; omega) rfl
  exact conv_own Try.underlying61 Try.underlying5 Try.underlying9 h
theorem dig_fin : ∀ k : Fin 16, hexA.extract k.val (k.val + 1) = ⟨#[hexc k.val]⟩ := by decide +kernel
theorem ret_str {s t : ByteArray} (h : s = t) : Ending.returned (.string s) = .returned (.string t) := by rw [h]
theorem cat4 (a b c d : UInt8) : ((⟨#[a, b]⟩ : ByteArray) ++ ⟨#[c]⟩) ++ ⟨#[d]⟩ = ⟨#[a, b, c, d]⟩ := by apply ByteArray.ext; simp
set_option maxHeartbeats 1000000 in
theorem digit_any (i : Int) (k : Nat) (h : i = k) (hk : k < 16) (w : World) :
    Calls Try.prog 72 #[.int .i64 i] w fun e w' => e = .returned (.string ⟨[hexc k].toArray⟩) ∧ w' = w := by
  subst h
  have HD : Hid ((⟨#[48, 49, 50, 51, 52, 53, 54, 55, 56, 57, 97, 98, 99, 100, 101, 102]⟩ : ByteArray).extract k (k + 1) = ⟨#[hexc k]⟩) := dig_fin ⟨k, hk⟩
  go_enter Try.func72, Try.ntmps72
  go_wp2_with fail
  rw [HD.out]
  go_ret
  exact ⟨rfl, rfl⟩
theorem rsign (low : Nat) (g : List UInt8) (c : UInt8) (h10 : c.toNat ≠ 10) (h9 : c.toNat ≠ 9) (hg : gd g c = true → low ≤ c.toNat ∧ c.toNat ≤ 126) (hp : c.toNat < low ∨ 126 < c.toNat) : sign low g c = [92, 120, hexc (c.toNat / 16), hexc (c.toNat % 16)] := by
  unfold sign
  rw [if_neg h10, if_neg h9]
  cases h : gd g c
  · simp only [Bool.false_eq_true, if_false]; rw [if_pos hp]
  · have := hg h; omega
set_option maxHeartbeats 1000000 in
theorem shown_any (low : Nat) (g : ByteArray) (c : UInt8) (w : World) (hg : gd g.data.toList c = true → low ≤ c.toNat ∧ c.toNat ≤ 126) :
    Calls Try.prog 57 #[.int .i64 (c.toNat : Int), .string g, .int .i64 (low : Int)] w fun e w' => e = .returned (.string ⟨(sign low g.data.toList c).toArray⟩) ∧ Below w.heap.size w w' := by
  have hcl := c.toNat_lt
  by_cases h10 : c.toNat = 10
  · have e : sign low g.data.toList c = [92, 110] := by unfold sign; rw [if_pos h10]
    rw [e]
    have hx : ((c.toNat : Int) == 10) = true := by simp; omega
    clear e h10 hg
    go_enter Try.func57, Try.ntmps57
    go_wp2_with fail
    go_ret
    exact ⟨rfl, Below.refl _ _⟩
  · have hx0 : ((c.toNat : Int) == 10) = false := by simp; omega
    by_cases h9 : c.toNat = 9
    · have e : sign low g.data.toList c = [92, 116] := by unfold sign; rw [if_neg h10, if_pos h9]
      rw [e]
      have hx : ((c.toNat : Int) == 9) = true := by simp; omega
      clear e h10 h9 hg
      go_enter Try.func57, Try.ntmps57
      go_wp2_with fail
      go_ret
      exact ⟨rfl, Below.refl _ _⟩
    · have hx1 : ((c.toNat : Int) == 9) = false := by simp; omega
      by_cases hp : c.toNat < low ∨ 126 < c.toNat
      · rw [rsign low _ c h10 h9 hg hp]
        have hor : decide (c.toNat < low) = true ∨ (decide (c.toNat < low) = false ∧ decide ((126 : Int) < (c.toNat : Int)) = true) := by simp; omega
        clear h10 h9 hp hg
        rcases hor with hy | ⟨hy, hz⟩
        all_goals
          go_enter Try.func57, Try.ntmps57
          go_wp2_with fail
          refine (digit_any _ (c.toNat / 16) (by omega) (by omega) _).mono ?_
          rintro e w1 ⟨rfl, rfl⟩
          go_wp2_with fail
          refine (digit_any _ (c.toNat % 16) (by omega) (by omega) _).mono ?_
          rintro e w1 ⟨rfl, rfl⟩
          go_wp2_with fail
          go_ret
          exact ⟨ret_str (cat4 _ _ _ _), Below.refl _ _⟩
      · have hy : decide (c.toNat < low) = false := by simp; omega
        have hz : decide ((126 : Int) < (c.toNat : Int)) = false := by simp; omega
        have hconv := conv_one c w
        cases h : gd g.data.toList c
        · have hgf := gd_false h
          have e : sign low g.data.toList c = [c] := by unfold sign; rw [if_neg h10, if_neg h9, h]; simp only [Bool.false_eq_true, if_false]; rw [if_neg hp]
          rw [e]
          clear e h10 h9 hp hg h
          go_enter Try.func57, Try.ntmps57
          go_wp2_with fail
          refine (Try.strings_Contains_one g c _).mono ?_
          rintro e w1 ⟨rfl, rfl⟩
          rw [hgf]
          have hB : Below w.heap.size w (w.alloc (.cells #[.int .u8 (c.toNat : Int)] 5)) := (Below.refl _ _).alloc (Nat.le_refl _) _
          generalize w.alloc (.cells #[.int .u8 (c.toNat : Int)] 5) = w2 at *
          have hconv2 := conv_one c w2
          go_wp2_with fail
          go_ret
          exact ⟨rfl, hB.alloc hB.size _⟩
        · have hgf := gd_true h
          have e : sign low g.data.toList c = [92, c] := by unfold sign; rw [if_neg h10, if_neg h9, h]; simp only [if_true]
          rw [e]
          clear e h10 h9 hp hg h
          go_enter Try.func57, Try.ntmps57
          go_wp2_with fail
          refine (Try.strings_Contains_one g c _).mono ?_
          rintro e w1 ⟨rfl, rfl⟩
          rw [hgf]
          have hB : Below w.heap.size w (w.alloc (.cells #[.int .u8 (c.toNat : Int)] 5)) := (Below.refl _ _).alloc (Nat.le_refl _) _
          generalize w.alloc (.cells #[.int .u8 (c.toNat : Int)] 5) = w2 at *
          have hconv2 := conv_one c w2
          go_wp2_with fail
          go_ret
          exact ⟨rfl, hB.alloc hB.size _⟩
set_option maxHeartbeats 1000000 in
theorem wrapSmall (x : Int) (h0 : 0 ≤ x) (h1 : x ≤ 4611686018427387904) : IntKind.i64.wrap x = x := by
  simp only [IntKind.wrap, IntKind.signed, IntKind.bits]
  simp
  omega
theorem b_call {w W w' : World} (h : Below w.heap.size w W) (hb : Below W.heap.size W w') : Below w.heap.size w w' := h.trans (hb.mono h.size)
end Go.Proofs.Ytbeohmcmphebhaa
namespace Go.Proofs.Ytbeohmcmphebhaa
open Go.RowKit
theorem cat_list (a b : List UInt8) : (⟨a.toArray⟩ : ByteArray) ++ ⟨b.toArray⟩ = ⟨(a ++ b).toArray⟩ := by apply ByteArray.ext; simp
theorem conv_num (n : Nat) (h : n < 256) (w : World) : (convert 61 9 (.slice (some ⟨w.heap.size, 0, none⟩) 1 1)).run Try.prog (w.alloc (.cells #[.int .u8 (n : Int)] 5)) = .ok (.string ⟨[UInt8.ofNat n].toArray⟩) (w.alloc (.cells #[.int .u8 (n : Int)] 5)) := by
  have e := conv_one (UInt8.ofNat n) w
  rw [show ((UInt8.ofNat n).toNat : Int) = (n : Int) from by simp; omega] at e
  exact e
set_option maxHeartbeats 1000000 in
theorem rlit_any (s : ByteArray) (w : World) (hs : s.size ≤ 10000000) :
    Calls Try.prog 41 #[.string s] w fun e w' => e = .returned (.string ⟨(lit s.data.toList).toArray⟩) ∧ Below w.heap.size w w' := by
  go_enter Try.func41, Try.ntmps41
  go_wp2_with fail
  go_loopw [3, 4, 7] (fun v _ i wx => ∃ k : Nat, i = .int .i64 k ∧ k ≤ s.size ∧ v = .string ⟨(litTo s.data.toList k).toArray⟩ ∧ Below w.heap.size w wx) (fun _ _ i _ => s.size - (intOf i).toNat)
  case atStart => exact ⟨0, rfl, by omega, rfl, Below.refl _ _⟩
  case round =>
    obtain ⟨k, rfl, hk, rfl, hB⟩ := hrel
    have hlen := litTo_len s.data.toList k
    have hsz := hB.size
    by_cases hlt : (k : Int) < s.size
    · have hks : k < s.size := by omega
      have hbk := s[k].toNat_lt
      have HS : Hid (litTo s.data.toList (k + 1) = litTo s.data.toList k ++ sign 32 [39, 92] s[k]) := litTo_succ s k hks
      have hsl := sign_len 32 [39, 92] s[k]
      generalize litTo s.data.toList k = L at *
      go_wp2_with fail
      refine (shown_any 32 ⟨#[39, 92]⟩ s[k] _ (fun h => gd_lit_vis s[k] h)).mono ?_
      rintro e w1 ⟨rfl, hb⟩
      have hB1 := b_call hB hb
      rw [show (⟨#[39, 92]⟩ : ByteArray).data.toList = [39, 92] from rfl]
      clear hB hb
      generalize sign 32 [39, 92] s[k] = G at *
      go_wp2_with fail
      rw [cat_list]
      exact ⟨⟨k + 1, by go_num, by omega, by rw [HS.out], hB1⟩, by simp [intOf]; omega⟩
    · have hall : Hid (litTo s.data.toList k ++ [39] = lit s.data.toList) := litTo_all _ k (by rw [llen]; omega)
      generalize litTo s.data.toList k = L at *
      go_wp2_with fail
      go_ret
      exact ⟨ret_str (by rw [← hall.out]; exact cat_list L [39]), hB⟩
end Go.Proofs.Ytbeohmcmphebhaa
