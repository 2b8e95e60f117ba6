import Derived.Test.YtomeocofnbnegaaDoorSigns
import Derived.Test.YtomeocofnbnegaaDoorShelf
import Derived.WalkKit
import Derived.WalkSpells
import Derived.WalkLawsBesides
import Derived.Deep.RegionWith
import Derived.BigRegion
import Derived.Deep.RegionHeld3
namespace Go.Proofs.YtomeocofnbnegaaDoor
open Go.RowKit
theorem bcell {W w1 : World} (hb : Below W.heap.size W w1) : (∀ b o, b < W.heap.size → w1.cell? ⟨b, o, none⟩ = W.cell? ⟨b, o, none⟩) ∧ (∀ b o, b < W.heap.size → w1.frozen? ⟨b, o, none⟩ = W.frozen? ⟨b, o, none⟩) :=
  ⟨fun b o h => hb.cell (p := ⟨b, o, none⟩) h, fun b o h => hb.frozen (p := ⟨b, o, none⟩) h⟩
theorem get_list (s : ByteArray) (j : Nat) (h : j < s.data.toList.length) : s.data[j]! = s.data.toList[j] := by
  have h3 : j < s.data.size := by simpa using h
  rw [getElem!_pos s.data j h3]
  rfl
/-- What strings.LastIndex tells of line ends. -/
theorem last_tail (s : ByteArray) : ∃ A H, Tail s.data.toList A H ∧ Lib.lastIndexByte s 10 = (A.length : Int) - 1 := by
  have key : ∀ j (hj : j < s.data.toList.length), ((s.data[j]!).toNat : Int) ≠ 10 → s.data.toList[j] ≠ 10 := by
    intro j hj h e
    apply h
    rw [get_list s j hj, e]; rfl
  rcases Lib.lastIdx_spec s 10 s.size with ⟨h1, h2⟩ | ⟨i, h1, h2, h3, h4⟩
  · refine ⟨[], s.data.toList, ⟨rfl, ?_, .inl rfl⟩, by rw [show Lib.lastIndexByte s 10 = _ from h1]; rfl⟩
    intro b hb
    obtain ⟨j, hj, e⟩ := List.mem_iff_getElem.1 hb
    rw [← e]
    exact key j hj (h2 j hj)
  · have hl : i < s.data.toList.length := h1
    have hten : s.data.toList[i] = 10 := by
      rw [get_list s i hl] at h3
      apply UInt8.toNat_inj.1
      have : ((10 : UInt8).toNat : Int) = 10 := by decide
      omega
    refine ⟨s.data.toList.take (i + 1), s.data.toList.drop (i + 1), ⟨(List.take_append_drop _ _).symm, ?_, .inr ⟨s.data.toList.take i, ?_⟩⟩, ?_⟩
    · intro b hb
      obtain ⟨j, hj, e⟩ := List.mem_iff_getElem.1 hb
      rw [List.length_drop] at hj
      rw [← e, List.getElem_drop]
      exact key _ (by omega) (h4 _ (by omega) (by have : s.data.toList.length = s.size := rfl; omega))
    · rw [List.take_succ_eq_append_getElem hl, hten]
    · rw [show Lib.lastIndexByte s 10 = _ from h2, List.length_take]
      omega
theorem lastNl_any (s : ByteArray) (w : World) (hs : (s.size : Int) ≤ 1048576) :
    Calls Tryd.prog 9 #[.string s, .string ⟨#[10]⟩] w fun e w' => ∃ A H, Tail s.data.toList A H ∧ e = .returned (.int .i64 ((A.length : Int) - 1)) ∧ w' = w := by
  obtain ⟨A, H, h1, h2⟩ := last_tail s
  refine (Tryd.strings_LastIndex_one s ⟨#[10]⟩ rfl (by omega) w).mono ?_
  rintro e w' ⟨rfl, h⟩
  exact ⟨A, H, h1, by rw [← h2]; rfl, h⟩
theorem take_list (s : ByteArray) (i : Nat) : (s.extract 0 i).data.toList = s.data.toList.take i := by
  rw [ByteArray.data_extract, Array.toList_extract, List.extract_eq_take_drop]
  simp
theorem wrapSmall (x : Int) (h0 : 0 ≤ x) (h1 : x ≤ 9223372036854775807) : IntKind.i64.wrap x = x := by
  simp [IntKind.wrap, IntKind.bits, IntKind.signed]; omega
theorem b_call {w W w' : World} (h : Below w.heap.size w W) (hb : Below W.heap.size W w') : Below w.heap.size w w' := h.trans (hb.mono h.size)
theorem b_set2 {w w1 : World} (h : Below w.heap.size w w1) (a b : Value) : Below w.heap.size w ((w1.setCell ⟨w.heap.size, 0, none⟩ a).setCell ⟨w.heap.size, 1, none⟩ b) := (h.setCell (Nat.le_refl _) _).setCell (Nat.le_refl _) _
set_option maxRecDepth 20000 in
set_option maxHeartbeats 1000000 in
theorem where_ok (s : ByteArray) (at' : Nat) (w : World) (hs : (s.size : Int) ≤ 1048576) (hat : at' ≤ s.size) :
    Calls Tryd.prog 5 #[.string s, .int .i64 at'] w fun e w' => ∃ A H, Tail (s.data.toList.take at') A H ∧ e = .returned (.tuple #[.agg #[.int .i64 (1 + (List.count 10 (s.data.toList.take at') : Nat)), .int .i64 (1 + (nS H : Nat))], .int .i64 0]) ∧ Below w.heap.size w w' := by
  have g1 : decide ((at' : Int) < 0) = false := by simp
  have g2 : decide ((s.size : Int) < (at' : Int)) = false := by simp; omega
  have hat2 : (at' : Int) ≤ (s.size : Int) := by omega
  go_enter Tryd.func5, Tryd.ntmps5
  go_wp2_with fail
  obtain ⟨hd, HE⟩ : ∃ hd, Hid (s.extract 0 at' = hd) := ⟨_, rfl⟩
  have hz : hd.size = at' := by rw [← HE.out]; simp; omega
  have HX : Hid (s.data.toList.take at' = hd.data.toList) := by unfold Hid; rw [← HE.out]; exact (take_list s at').symm
  rw [HE.out]
  have hds : (hd.size : Int) ≤ 1048576 := by omega
  have HZ : Hid (hd.size = at') := hz
  clear hz
  refine (lastNl_any hd _ hds).mono ?_
  rintro e w1 ⟨A, H, hT, rfl, hw⟩
  subst hw
  have hAl : A.length ≤ hd.size := by have := congrArg List.length hT.eq; rw [List.length_append] at this; have h2 : hd.data.toList.length = hd.size := rfl; omega
  have HT : Hid (Tail hd.data.toList A H) := hT
  clear hT
  have hA0 : (0 : Int) ≤ (A.length : Int) := by omega
  have hA1 : (A.length : Int) ≤ (hd.size : Int) := by omega
  go_wp2_with fail
  have HS : Hid ((hd.extract A.length hd.size).data.toList = H) := by
    unfold Hid
    rw [ext_list, HT.out.eq, List.drop_left]
  have hes : ((hd.extract A.length hd.size).size : Int) ≤ 4611686018427387904 := by rw [ext_size]; omega
  have hcl : ((Lib.countByte hd.data.toList 10 : Nat) : Int) ≤ 1048576 := by
    have h1 : List.count 10 hd.data.toList ≤ hd.data.toList.length := List.count_le_length
    have h2 : hd.data.toList.length = hd.size := rfl
    unfold Lib.countByte; omega
  have hsl : ((nS H : Nat) : Int) ≤ 1048576 := by
    have h1 := nS_le H
    have h2 := congrArg List.length HT.out.eq
    rw [List.length_append] at h2
    have h3 : hd.data.toList.length = hd.size := rfl
    omega
  have hB0 : Below w.heap.size w (w.alloc (.cells #[.int .i64 0, .int .i64 0] 23)).drew := ((Below.refl _ _).alloc (Nat.le_refl _) _).drew
  go_region_held3 (fun w' => Below w.heap.size w w') (first | exact b_call (by assumption) hb | assumption | exact b_set2 (by assumption) _ _) (first
    | (go_at_call 10; refine (Tryd.strings_Count_one hd 10 _).mono ?_; rintro e w2 ⟨rfl, hw2⟩; subst hw2)
    | (go_at_call 11; refine (signs_any (hd.extract A.length hd.size) _ hes).mono ?_; rintro e w1 ⟨rfl, hb⟩; rw [HS.out]; obtain ⟨hc, hf⟩ := bcell hb; have hy1 : w.heap.size < w1.heap.size := (by have := hb.size; simp at this; omega)))
  have hBe : Below w.heap.size w ((w1.setCell ⟨w.heap.size, 0, none⟩ (.int .i64 (IntKind.i64.wrap (1 + (Lib.countByte hd.data.toList 10 : Nat))))).setCell ⟨w.heap.size, 1, none⟩ (.int .i64 (IntKind.i64.wrap (1 + (nS H : Nat))))) := by assumption
  rw [wrapSmall _ (by omega) (by omega), wrapSmall _ (by omega) (by omega)] at hBe ⊢
  go_wp2_with fail
  exact bodyPost_ret (v := .tuple #[.agg #[.int .i64 (1 + (Lib.countByte hd.data.toList 10 : Nat)), .int .i64 (1 + (nS H : Nat))], .int .i64 0]) (by simp [results, Tryd.results5, go_sem, hc]) rfl ⟨A, H, by rw [HX.out]; exact HT.out, by rw [HX.out]; rfl, hBe⟩
end Go.Proofs.YtomeocofnbnegaaDoor
