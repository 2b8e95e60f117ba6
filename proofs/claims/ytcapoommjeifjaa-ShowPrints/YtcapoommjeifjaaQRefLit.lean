import Derived.Test.YtcapoommjeifjaaQRef
namespace Go.Proofs.Ytcapoommjeifjaa
open Go.RowKit
theorem cat_list (a b : List UInt8) : (⟨a.toArray⟩ : ByteArray) ++ ⟨b.toArray⟩ = ⟨(a ++ b).toArray⟩ := by apply ByteArray.ext; simp
theorem conv_num (n : Nat) (h : n < 256) (w : World) : (convert 57 9 (.slice (some ⟨w.heap.size, 0, none⟩) 1 1)).run Try.prog (w.alloc (.cells #[.int .u8 (n : Int)] 5)) = .ok (.string ⟨[UInt8.ofNat n].toArray⟩) (w.alloc (.cells #[.int .u8 (n : Int)] 5)) := by
  have e := conv_one (UInt8.ofNat n) w
  rw [show ((UInt8.ofNat n).toNat : Int) = (n : Int) from by simp; omega] at e
  exact e
set_option maxHeartbeats 1000000 in
theorem rlit_any (s : ByteArray) (w : World) (hs : s.size ≤ 10000000) :
    Calls Try.prog 32 #[.string s] w fun e w' => e = .returned (.string ⟨(lit s.data.toList).toArray⟩) ∧ Below w.heap.size w w' := by
  go_enter Try.func32, Try.ntmps32
  go_wp2_with fail
  go_loopw [3, 4, 7] (fun v _ i wx => ∃ k : Nat, i = .int .i64 k ∧ k ≤ s.size ∧ v = .string ⟨(litTo s.data.toList k).toArray⟩ ∧ Below w.heap.size w wx) (fun _ _ i _ => s.size - (intOf i).toNat)
  case atStart => exact ⟨0, rfl, by omega, rfl, Below.refl _ _⟩
  case round =>
    obtain ⟨k, rfl, hk, rfl, hB⟩ := hrel
    have hlen := litTo_len s.data.toList k
    have hsz := hB.size
    by_cases hlt : (k : Int) < s.size
    · have hks : k < s.size := by omega
      have hbk := s[k].toNat_lt
      have HS : Hid (litTo s.data.toList (k + 1) = litTo s.data.toList k ++ sign 32 [39, 92] s[k]) := litTo_succ s k hks
      have hsl := sign_len 32 [39, 92] s[k]
      generalize litTo s.data.toList k = L at *
      go_wp2_with fail
      refine (shown_any 32 ⟨#[39, 92]⟩ s[k] _ (fun h => gd_lit_vis s[k] h)).mono ?_
      rintro e w1 ⟨rfl, hb⟩
      have hB1 := b_call hB hb
      rw [show (⟨#[39, 92]⟩ : ByteArray).data.toList = [39, 92] from rfl]
      clear hB hb
      generalize sign 32 [39, 92] s[k] = G at *
      go_wp2_with fail
      rw [cat_list]
      exact ⟨⟨k + 1, by go_num, by omega, by rw [HS.out], hB1⟩, by simp [intOf]; omega⟩
    · have hall : Hid (litTo s.data.toList k ++ [39] = lit s.data.toList) := litTo_all _ k (by rw [llen]; omega)
      generalize litTo s.data.toList k = L at *
      go_wp2_with fail
      go_ret
      exact ⟨ret_str (by rw [← hall.out]; exact cat_list L [39]), hB⟩
end Go.Proofs.Ytcapoommjeifjaa
