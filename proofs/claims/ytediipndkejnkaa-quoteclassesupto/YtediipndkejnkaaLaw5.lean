import Derived.Test.YtediipndkejnkaaUnlit
namespace Go.Proofs.Ytediipndkejnkaa
open Go.RowKit
theorem mk_size (l : List UInt8) : (⟨l.toArray⟩ : ByteArray).size = l.length := by simp [ByteArray.size]
theorem mk_at (l : List UInt8) (k : Nat) (h : k < (⟨l.toArray⟩ : ByteArray).size) : (⟨l.toArray⟩ : ByteArray)[k] ∈ l := by
  have hl : k < l.length := by rw [mk_size] at h; exact h
  show l.toArray[k]'_ ∈ l
  simp
theorem app_list (t s : ByteArray) : (t ++ s).data.toList = t.data.toList ++ s.data.toList := by rw [ByteArray.data_append, Array.toList_append]
theorem app_size (t s : ByteArray) : (t ++ s).size = t.size + s.size := ByteArray.size_append
theorem litA (s more : ByteArray) : ∀ t : ByteArray, ⟨(lit s.data.toList).toArray⟩ = t → t.size ≤ 4 * s.size + 2 ∧ (∀ k (h : k < t.size), 32 ≤ t[k].toNat ∧ t[k].toNat ≤ 126) ∧ unlit [39, 34, 92] (t ++ more).data.toList = some (s.data.toList, t.size) := by
  rintro t rfl
  have hlen := lit_len s.data.toList
  rw [llen] at hlen
  refine ⟨by rw [mk_size]; exact hlen, fun k h => lit_vis s.data.toList _ (mk_at _ k h), ?_⟩
  rw [app_list, mk_size]
  exact unlit_back s.data.toList more.data.toList
theorem lit_quote : lit [39] = [39, 92, 39, 39] := by decide
theorem back_str (s : ByteArray) : (⟨s.data.toList.toArray⟩ : ByteArray) = s := by cases s; simp
set_option maxHeartbeats 1000000 in
theorem back_any (s more : ByteArray) (w : World) (hs : s.size + more.size ≤ 1048576) :
    Calls Try.prog 5 #[.string s, .string more] w fun e w' => e = .returned (.bool true) ∧ Below w.heap.size w w' := by
  go_enter Try.func5, Try.ntmps5
  go_wp2_with fail
  refine (lit_any s _ (by omega)).mono ?_
  rintro e w1 ⟨rfl, hB⟩
  have hA := litA s more
  generalize (⟨(lit s.data.toList).toArray⟩ : ByteArray) = t at *
  obtain ⟨hlen, hvis, hback⟩ := hA t rfl
  have HV : Hid (∀ k (h : k < t.size), 32 ≤ t[k].toNat ∧ t[k].toNat ≤ 126) := hvis
  have HBk : Hid (unlit [39, 34, 92] (t ++ more).data.toList = some (s.data.toList, t.size)) := hback
  clear hvis hback hA
  go_wp2_with fail
  go_loop [6, 14] (fun _ i => ∃ k : Nat, i = .int .i64 k ∧ k ≤ t.size) (fun _ i => t.size - (intOf i).toNat)
  case atStart => exact ⟨0, rfl, by omega⟩
  case round =>
    obtain ⟨k, rfl, hk⟩ := hrel
    by_cases hlt : (k : Int) < t.size
    · have hv := HV.out k (by omega)
      have hks : k < t.size := by omega
      have x1 : decide ((t[k].toNat : Int) < 32) = false := by simp; omega
      have x2 : decide ((126 : Int) < (t[k].toNat : Int)) = false := by simp; omega
      clear hv
      go_wp2_with fail
      go_round
      case rel => exact ⟨k + 1, by go_num, by omega⟩
      case measure => simp [intOf]; omega
    · go_wp2_with fail
      refine (unlit_any (t ++ more) _ (by rw [app_size]; omega)).mono ?_
      rintro e w2 ⟨rfl, hB2⟩
      rw [HBk.out]
      have hB3 := hB.trans (hB2.mono hB.size)
      clear hB hB2
      simp only [uT, uN, uE, back_str]
      go_wp2_with fail
      refine (lit_any ⟨#[39]⟩ _ (by decide)).mono ?_
      rintro e w4 ⟨rfl, hB4⟩
      have hB5 := hB3.trans (hB4.mono hB3.size)
      clear hB3 hB4
      rw [show lit (⟨#[39]⟩ : ByteArray).data.toList = [39, 92, 39, 39] from lit_quote]
      go_wp2_with fail
      go_ret
      exact ⟨rfl, hB5⟩
end Go.Proofs.Ytediipndkejnkaa
