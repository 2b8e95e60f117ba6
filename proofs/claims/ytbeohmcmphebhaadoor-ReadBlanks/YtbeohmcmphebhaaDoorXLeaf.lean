import Derived.Test.YtbeohmcmphebhaaDoorXUMember
import Derived.Test.YtbeohmcmphebhaaDoorXUUnclass
import Derived.Test.YtbeohmcmphebhaaDoorXParts
namespace Go.Proofs.YtbeohmcmphebhaaDoor
open Go.RowKit
set_option linter.unusedVariables false
theorem idx_ge (l : List UInt8) (c : UInt8) : -1 ≤ Lib.indexByte l c := by
  induction l with
  | nil => simp [Lib.indexByte]
  | cons b l ih =>
    rw [Lib.indexByte]
    split
    · omega
    · split
      · omega
      · omega
theorem idx_behind : ∀ (l : List UInt8), (0 ≤ Lib.indexByte l 10 → behind10 l = l.drop ((Lib.indexByte l 10).toNat + 1)) ∧ (Lib.indexByte l 10 < 0 → behind10 l = [])
  | [] => ⟨fun h => by revert h; decide, fun _ => rfl⟩
  | c :: r => by
    have ih := idx_behind r
    unfold behind10 at ih ⊢
    by_cases hc : c = 10
    · subst hc
      have : Lib.indexByte (10 :: r) 10 = 0 := by simp [Lib.indexByte]
      rw [this]
      exact ⟨fun _ => by simp, fun h => by omega⟩
    · have hne : (c != 10) = true := by simpa using hc
      rw [List.dropWhile_cons, hne]
      simp only [if_true]
      have hi : Lib.indexByte (c :: r) 10 = if Lib.indexByte r 10 < 0 then -1 else Lib.indexByte r 10 + 1 := by
        rw [Lib.indexByte]
        have : (c == 10) = false := by simpa using hc
        have hg := idx_ge r 10
        rw [this]
        simp only [Bool.false_eq_true, if_false]
        generalize Lib.indexByte r 10 = q at *
        by_cases h : q < 0
        · have h1 : q = -1 := by omega
          subst h1; rfl
        · have h1 : ¬ q = -1 := by omega
          simp [h, h1]
      rw [hi]
      split
      · rename_i h; exact ⟨fun h' => by omega, fun _ => ih.2 h⟩
      · rename_i h
        refine ⟨fun _ => ?_, fun h' => by omega⟩
        rw [ih.1 (by omega), show (Lib.indexByte r 10 + 1).toNat + 1 = ((Lib.indexByte r 10).toNat + 1) + 1 from by omega, List.drop_succ_cons]
set_option maxHeartbeats 1000000 in
theorem cut92 (s : ByteArray) (w : World) (hs : s.size ≤ 2000000) :
    Calls Tryd.prog 100 #[.string s, .string ⟨#[10]⟩] w fun e w' => ∃ a b, e = .returned (.tuple #[.string a, .string ⟨(behind10 s.data.toList).toArray⟩, .bool b]) ∧ Below w.heap.size w w' := by
  have hi := Tryd.stringslite_Index_one s 10 w
  have hb := idx_behind s.data.toList
  have hlt := idx_lt s.data.toList 10
  rw [llen] at hlt
  generalize Lib.indexByte s.data.toList 10 = i at *
  by_cases h0 : 0 ≤ i
  · obtain ⟨k, rfl⟩ : ∃ k : Nat, i = k := ⟨i.toNat, by omega⟩
    have HB : Hid (behind10 s.data.toList = (s.extract (k + 1) s.size).data.toList) := (hb.1 h0).trans (by rw [cut_list]; simp)
    clear hb
    go_enter Tryd.func100, Tryd.ntmps100
    have hk1 : (k : Int) + 1 ≤ s.size := by omega
    have hk2 : (0 : Int) ≤ (k : Int) + 1 := by omega
    go_wp2_with (go_at_call 106; refine hi.mono ?_; rintro e w1 ⟨rfl, rfl⟩)
    go_region
    go_wp2_with fail
    go_ret3
    exact ⟨s.extract 0 k, true, by rw [HB.out, ba_of_list]; rfl, (Below.refl _ _).drew⟩
  · have hneg : i < 0 := by omega
    have HB := hb.2 hneg
    rw [HB]
    clear hb HB
    go_enter Tryd.func100, Tryd.ntmps100
    go_wp2_with (go_at_call 106; refine hi.mono ?_; rintro e w1 ⟨rfl, rfl⟩)
    go_ret3
    exact ⟨_, _, rfl, Below.refl _ _⟩

theorem cut69 (s : ByteArray) (w : World) (hs : s.size ≤ 2000000) :
    Calls Tryd.prog 89 #[.string s, .string ⟨#[10]⟩] w fun e w' => ∃ a b, e = .returned (.tuple #[.string a, .string ⟨(behind10 s.data.toList).toArray⟩, .bool b]) ∧ Below w.heap.size w w' := by
  have hc := cut92 s w hs
  go_enter Tryd.func89, Tryd.ntmps89
  go_wp2_with (go_at_call 100; refine hc.mono ?_; rintro e w1 ⟨a, b, rfl, hb⟩)
  go_ret3
  exact ⟨_, _, rfl, hb⟩
/-- A text that came of trimming, and what is left of it behind remarks. -/
def skipD (u : List UInt8) : List UInt8 := if u.headD 0 = 35 then skip (behind10 u) else u
theorem skip_D (l : List UInt8) : skip l = skipD (l.dropWhile isBl) := by
  unfold skipD
  by_cases h : (l.dropWhile isBl).headD 0 = 35
  · rw [if_pos h, skip_yes l h]
  · rw [if_neg h, skip_no l h]
theorem bl_contains (x : UInt8) : (⟨#[32, 9, 10, 13]⟩ : ByteArray).data.toList.contains x = isBl x := by
  rw [Bool.eq_iff_iff]; simp [isBl, or_assoc]
theorem bl_ascii (j : Nat) (b : UInt8) (h : (⟨#[32, 9, 10, 13]⟩ : ByteArray).data.toList[j]? = some b) : b.toNat < 128 := by
  have := List.mem_of_getElem? h
  simp at this
  rcases this with rfl | rfl | rfl | rfl <;> decide
theorem trimB (s : ByteArray) (w : World) (hs : s.size ≤ 2000000) :
    Calls Tryd.prog 88 #[.string s, .string ⟨#[32, 9, 10, 13]⟩] w fun e w' => e = .returned (.string ⟨(s.data.toList.dropWhile isBl).toArray⟩) ∧ Below w.heap.size w w' :=
  trimLeft_any s ⟨#[32, 9, 10, 13]⟩ isBl bl_contains w (by unfold maxLen; omega) (by decide) (by decide) bl_ascii
theorem pre35 (l : List UInt8) : Lib.hasPrefix l [35] = decide (l.headD 0 = 35) := by
  cases l with
  | nil => rfl
  | cons c r => rw [Bool.eq_iff_iff]; simp [Lib.hasPrefix, List.isPrefixOf]; exact ⟨fun h => h.symm, fun h => h.symm⟩
set_option maxHeartbeats 1000000 in
theorem behindBlanks_any (s : ByteArray) (w : World) (hs : s.size ≤ 2000000) :
    Calls Tryd.prog 70 #[.string s] w fun e w' => e = .returned (.string ⟨(skip s.data.toList).toArray⟩) ∧ Below w.heap.size w w' := by
  have ht := trimB s w hs
  have HT : Hid (skip s.data.toList = skipD (s.data.toList.dropWhile isBl)) := skip_D _
  have hln : (⟨(s.data.toList.dropWhile isBl).toArray⟩ : ByteArray).size ≤ s.size := by rw [mk_size]; exact dropWhile_len _ _
  have hsk : ∀ k : Nat, True := fun _ => trivial
  generalize skip s.data.toList = R at *
  obtain ⟨u0, hu0⟩ : ∃ u0 : ByteArray, u0 = ⟨(s.data.toList.dropWhile isBl).toArray⟩ := ⟨_, rfl⟩
  have HT0 : Hid (R = skipD u0.data.toList) := by rw [hu0]; exact HT
  rw [← hu0] at ht hln
  clear hu0 HT
  go_enter Tryd.func70, Tryd.ntmps70
  go_wp2_with (go_at_call 88; refine ht.mono ?_; rintro e w1 ⟨rfl, hb1⟩)
  go_loopw [0] (fun v wx => ∃ u : ByteArray, v = .string u ∧ u.size ≤ s.size ∧ Hid (R = skipD u.data.toList) ∧ Below w.heap.size w wx) (fun v _ => szOf v)
  case atStart => exact ⟨u0, rfl, hln, HT0, hb1⟩
  case round =>
    clear ht HT0 hb1 hln
    obtain ⟨u, rfl, hu, HU, hB⟩ := hrel
    have hpf := Tryd.strings_HasPrefix u ⟨#[35]⟩ wr
    rw [show (⟨#[35]⟩ : ByteArray).data.toList = [35] from rfl, pre35] at hpf
    by_cases h35 : u.data.toList.headD 0 = 35
    · rw [decide_eq_true h35] at hpf
      have hct := cut69 u wr (by omega)
      have hne : u.data.toList ≠ [] := by intro h; rw [h] at h35; cases h35
      have hl1 := behind10_len _ hne
      obtain ⟨b, hb⟩ : ∃ b : ByteArray, b = ⟨(behind10 u.data.toList).toArray⟩ := ⟨_, rfl⟩
      have hbs : b.size < u.size := by rw [hb, mk_size]; exact Nat.lt_of_lt_of_eq hl1 (llen u)
      have hbl : b.data.toList = behind10 u.data.toList := by rw [hb]
      rw [← hb] at hct
      have htt : ∀ W, _ := fun W => trimB b W (by omega)
      obtain ⟨c, hc⟩ : ∃ c : ByteArray, c = ⟨(b.data.toList.dropWhile isBl).toArray⟩ := ⟨_, rfl⟩
      have hcs : c.size ≤ b.size := by rw [hc, mk_size]; exact dropWhile_len _ _
      have HC : Hid (R = skipD c.data.toList) := by
        have h1 := HU.out
        unfold skipD at h1
        rw [if_pos h35, ← hbl, skip_D] at h1
        rw [h1, hc]; exact rfl
      rw [← hc] at htt
      clear hc hb hbl hne hl1 h35 HU
      go_wp2_with (first
        | (go_at_call 34; refine hpf.mono ?_; rintro e w1 ⟨rfl, rfl⟩)
        | (go_at_call 89; refine hct.mono ?_; rintro e w2 ⟨a, bb, rfl, hb2⟩)
        | (go_at_call 88; refine (htt _).mono ?_; rintro e w3 ⟨rfl, hb3⟩))
      go_roundw
      case rel => exact ⟨c, rfl, by omega, HC, (hB.trans (hb2.mono hB.size)).trans (hb3.mono (Nat.le_trans hB.size hb2.size))⟩
      case measure => simp [szOf]; omega
    · rw [decide_eq_false h35] at hpf
      have HR : Hid (u.data.toList = R) := by
        have h1 := HU.out
        unfold skipD at h1
        rw [if_neg h35] at h1
        exact h1.symm
      clear HU h35
      go_wp2_with (go_at_call 34; refine hpf.mono ?_; rintro e w1 ⟨rfl, rfl⟩)
      go_ret
      exact ⟨ret_strl HR.out, hB⟩
end Go.Proofs.YtbeohmcmphebhaaDoor
