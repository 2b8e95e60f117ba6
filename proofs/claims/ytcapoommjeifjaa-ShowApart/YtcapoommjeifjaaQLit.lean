import Derived.Test.YtcapoommjeifjaaQSign
namespace Go.Proofs.Ytcapoommjeifjaa
open Go.RowKit
/-- What is written behind k bytes. -/
def litTo (l : List UInt8) (k : Nat) : List UInt8 := 39 :: (l.take k).flatMap (sign 32 [39, 92])
theorem litTo_succ (s : ByteArray) (k : Nat) (h : k < s.size) : litTo s.data.toList (k + 1) = litTo s.data.toList k ++ sign 32 [39, 92] s[k] := by
  unfold litTo; rw [take_snoc s k h, flat_snoc]; rfl
theorem litTo_len (l : List UInt8) (k : Nat) : (litTo l k).length ≤ 4 * k + 1 := by
  have h1 := flat_len 32 [39, 92] (l.take k)
  have h2 : (l.take k).length ≤ k := by simp; omega
  unfold litTo; rw [List.length_cons]; omega
theorem litTo_all (l : List UInt8) (k : Nat) (h : l.length ≤ k) : litTo l k ++ [39] = lit l := by
  unfold litTo lit; rw [List.take_of_length_le h]; rfl
theorem own_base {w : World} {base base' : Nat} {v : Value} {l : List UInt8} (h : Holds w base v l) (hb : base' ≤ base) : Holds w base' v l := by
  obtain ⟨h1, h2⟩ := h
  refine ⟨h1, ?_⟩
  rcases h2 with h2 | ⟨g, cap, cur, hv, hg, r⟩
  · exact Or.inl h2
  · exact Or.inr ⟨g, cap, cur, hv, Nat.le_trans hb hg, r⟩
set_option maxHeartbeats 1000000 in
theorem lit_any (s : ByteArray) (w : World) (hs : s.size ≤ 10000000) :
    Calls Try.prog 43 #[.string s] w fun e w' => e = .returned (.string ⟨(lit s.data.toList).toArray⟩) ∧ Below w.heap.size w w' := by
  obtain ⟨i0, hi, hz0, hz1, hz2⟩ := info_parts Try.info5
  go_enter Try.func43, Try.ntmps43
  go_wp2_with fail
  go_loopw [3, 4, 8] (fun v _ i wx => ∃ k : Nat, i = .int .i64 k ∧ k ≤ s.size ∧ Holds wx w.heap.size v (litTo s.data.toList k) ∧ Below w.heap.size w wx) (fun _ _ i _ => s.size - (intOf i).toNat)
  case atStart => exact ⟨0, rfl, by omega, World.ownsRow_lit w #[.int .u8 39] 1 (Nat.le_refl _) (by unfold maxLen; omega) rfl, (Below.refl _ _).alloc (Nat.le_refl _) _⟩
  case round =>
    obtain ⟨k, rfl, hk, hown, hB⟩ := hrel
    have hlen := litTo_len s.data.toList k
    have hsz := hB.size
    by_cases hlt : (k : Int) < s.size
    · have hks : k < s.size := by omega
      have HS : Hid (litTo s.data.toList (k + 1) = litTo s.data.toList k ++ sign 32 [39, 92] s[k]) := litTo_succ s k hks
      generalize litTo s.data.toList k = L at *
      go_wp2_with fail
      refine (appendSign_any 32 ⟨#[39, 92]⟩ s[k] _ L w.heap.size _ hown (by omega) hsz).mono ?_
      rintro e w1 ⟨v', rfl, hown1, hgrow⟩
      have hB1 := hB.grown hgrow hsz (fun q hq => (World.ownsRow.lt hown _ hq).1)
      have HO : Hid (Holds w1 w.heap.size v' (L ++ sign 32 [39, 92] s[k])) := hown1
      clear hown hown1 hB hgrow
      go_wp2_with fail
      exact ⟨⟨k + 1, by go_num, by omega, by rw [HS.out]; exact HO.out, hB1⟩, by simp [intOf]; omega⟩
    · have hall : Hid (litTo s.data.toList k ++ [39] = lit s.data.toList) := litTo_all _ k (by rw [llen]; omega)
      generalize litTo s.data.toList k = L at *
      go_wp2_with (at_builtin; refine wpList_append_own _ rfl _ _ 57 rfl w.heap.size 5 i0 (.int .u8 0) 1 1 Try.underlying57 hi hz0 hz1 hz2 rfl (by decide) _ _ _ rfl (hown.alloc _) ⟨wr.heap.size, 0, none⟩ 1 1 [.int .u8 39] rfl rfl ?c1 ?c2 ?c3 ?c4 ?c5 ?_)
      case c2 => rfl
      case c3 => unfold maxLen; omega
      case c4 => omega
      case c5 => omega
      intro v' w2 hown2 hgrow _
      have hown3 : Holds w2 w.heap.size v' (L ++ [39]) := by unfold Holds; rw [bcs_app, List.length_append]; exact hown2
      have hB2 := (hB.alloc hsz _).grown hgrow (by simp; omega) (fun q hq => (World.ownsRow.lt hown _ hq).1)
      rw [hall.out] at hown3
      have hconv := hown3.conv
      clear hown hown2 hgrow hB hown3
      go_wp2_with fail
      go_ret
      exact ⟨rfl, hB2⟩
end Go.Proofs.Ytcapoommjeifjaa
