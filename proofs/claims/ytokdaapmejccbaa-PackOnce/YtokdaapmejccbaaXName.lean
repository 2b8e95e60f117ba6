import Derived.Test.YtokdaapmejccbaaXEq
import Derived.WalkSpells
import Derived.WalkLawsBesides
import Derived.Laws.IdiomStrings
namespace Go.Proofs.Ytokdaapmejccbaa
open Go.RowKit
def isL (x : Int) : Bool := decide (97 ≤ x) && decide (x ≤ 122) || decide (65 ≤ x) && decide (x ≤ 90)
def isD (x : Int) : Bool := decide (48 ≤ x) && decide (x ≤ 57)
theorem ret_bool {a b : Bool} (h : a = b) : Ending.returned (.bool a) = .returned (.bool b) := by rw [h]
set_option linter.unusedSimpArgs false
set_option maxHeartbeats 400000 in
theorem letter20 (x : Int) (w : World) : Calls Try.prog 113 #[.int .u8 x] w fun e w' => e = .returned (.bool (isL x)) ∧ w' = w := by
  go_enter Try.func113, Try.ntmps113
  go_wp2
  all_goals (go_ret; refine ⟨ret_bool ?_, rfl⟩; simp only [isL]; rw [Bool.eq_iff_iff]; simp only [Bool.or_eq_true, Bool.and_eq_true, decide_eq_true_eq, Bool.false_eq_true, true_iff, false_iff]; omega)
set_option maxHeartbeats 400000 in
theorem letter22 (x : Int) (w : World) : Calls Try.prog 124 #[.int .u8 x] w fun e w' => e = .returned (.bool (isL x)) ∧ w' = w := by
  go_enter Try.func124, Try.ntmps124
  go_wp2
  all_goals (go_ret; refine ⟨ret_bool ?_, rfl⟩; simp only [isL]; rw [Bool.eq_iff_iff]; simp only [Bool.or_eq_true, Bool.and_eq_true, decide_eq_true_eq, Bool.false_eq_true, true_iff, false_iff]; omega)
set_option maxHeartbeats 400000 in
theorem digit21 (x : Int) (w : World) : Calls Try.prog 114 #[.int .u8 x] w fun e w' => e = .returned (.bool (isD x)) ∧ w' = w := by
  go_enter Try.func114, Try.ntmps114
  go_wp2
  all_goals (go_ret; refine ⟨ret_bool ?_, rfl⟩; simp only [isD]; rw [Bool.eq_iff_iff]; simp only [Bool.or_eq_true, Bool.and_eq_true, decide_eq_true_eq, Bool.false_eq_true, true_iff, false_iff]; omega)
set_option maxHeartbeats 400000 in
theorem digit23 (x : Int) (w : World) : Calls Try.prog 125 #[.int .u8 x] w fun e w' => e = .returned (.bool (isD x)) ∧ w' = w := by
  go_enter Try.func125, Try.ntmps125
  go_wp2
  all_goals (go_ret; refine ⟨ret_bool ?_, rfl⟩; simp only [isD]; rw [Bool.eq_iff_iff]; simp only [Bool.or_eq_true, Bool.and_eq_true, decide_eq_true_eq, Bool.false_eq_true, true_iff, false_iff]; omega)
/-- A letter or a digit. -/
def okc (c : UInt8) : Bool := isL (c.toNat : Int) || isD (c.toNat : Int)
/-- A letter, then letters and digits; or nothing. -/
def part : List UInt8 → Bool
  | [] => true
  | c :: r => isL (c.toNat : Int) && r.all okc
def isName (l : List UInt8) : Bool := part l && decide (1 ≤ l.length) && decide (l.length ≤ 8)
theorem part_snoc (l : List UInt8) (c : UInt8) : part (l ++ [c]) = (part l && (isL (c.toNat : Int) || (decide (l ≠ []) && isD (c.toNat : Int)))) := by
  cases l with
  | nil => simp [part]
  | cons a r => simp [part, okc, Bool.and_assoc]
theorem part_prefix (l r : List UInt8) (h : part (l ++ r) = true) : part l = true := by
  cases l with
  | nil => rfl
  | cons a l =>
    simp only [List.cons_append, part, List.all_append, Bool.and_eq_true] at h ⊢
    exact ⟨h.1, h.2.1⟩
theorem take_snoc (s : ByteArray) (k : Nat) (h : k < s.size) : s.data.toList.take (k + 1) = s.data.toList.take k ++ [s[k]] := by
  rw [List.take_succ_eq_append_getElem (by simpa using h)]; rfl
theorem llen (s : ByteArray) : s.data.toList.length = s.size := rfl
theorem nonempty (s : ByteArray) (h : s.size ≠ 0) : s.toList.isEmpty = false := by
  rw [ByteArray.toList_eq]
  obtain ⟨⟨l⟩⟩ := s
  cases l with
  | nil => exact absurd rfl h
  | cons a l => rfl
theorem empty_of (s : ByteArray) (h : s.size = 0) : s = ⟨#[]⟩ := by
  obtain ⟨⟨l⟩⟩ := s
  simp [ByteArray.size] at h
  simp [h]
theorem isName_bad (s : ByteArray) (k : Nat) (h : k < s.size) (hb : (isL (s[k].toNat : Int) || (decide (k ≠ 0) && isD (s[k].toNat : Int))) = false) : isName s.data.toList = false := by
  rw [Bool.eq_false_iff]; intro hn
  unfold isName at hn
  simp only [Bool.and_eq_true] at hn
  have h1 : part (s.data.toList.take (k + 1)) = true := part_prefix _ (s.data.toList.drop (k + 1)) (by rw [List.take_append_drop]; exact hn.1.1)
  rw [take_snoc s k h, part_snoc] at h1
  have h2 : (s.data.toList.take k = []) ↔ k = 0 := by
    constructor
    · intro e; have := congrArg List.length e; rw [List.length_take, llen, List.length_nil] at this; omega
    · rintro rfl; rfl
  simp only [ne_eq, h2] at h1
  simp only [ne_eq] at hb
  rw [hb] at h1
  simp at h1
theorem part_step (s : ByteArray) (k : Nat) (h : k < s.size) (hp : part (s.data.toList.take k) = true) (hb : (isL (s[k].toNat : Int) || (decide (k ≠ 0) && isD (s[k].toNat : Int))) = true) : part (s.data.toList.take (k + 1)) = true := by
  rw [take_snoc s k h, part_snoc, hp]
  have h2 : (s.data.toList.take k = []) ↔ k = 0 := by
    constructor
    · intro e; have := congrArg List.length e; rw [List.length_take, llen, List.length_nil] at this; omega
    · rintro rfl; rfl
  simp only [ne_eq, h2, Bool.true_and]
  simpa using hb
theorem isName_all (s : ByteArray) (k : Nat) (hk : s.size ≤ k) (hp : part (s.data.toList.take k) = true) : isName s.data.toList = (decide (1 ≤ (s.size : Int)) && decide ((s.size : Int) ≤ 8)) := by
  rw [List.take_of_length_le (by rw [llen]; exact hk)] at hp
  unfold isName
  rw [hp, llen, Bool.true_and, Bool.eq_iff_iff]
  simp
  omega
set_option maxHeartbeats 1000000 in
theorem rname_any (s : ByteArray) (w : World) (hs : s.size ≤ 140737488355328) :
    Calls Try.prog 97 #[.string s] w fun e w' => e = .returned (.bool (isName s.data.toList)) ∧ w' = w := by
  go_enter Try.func97, Try.ntmps97
  go_wp2_with fail
  go_loopw [3, 6] (fun _ i wx => ∃ k : Nat, i = .int .i64 k ∧ k ≤ s.size ∧ Hid (part (s.data.toList.take k) = true) ∧ wx = w) (fun _ i _ => s.size - (intOf i).toNat)
  case atStart => exact ⟨0, rfl, by omega, rfl, rfl⟩
  case round =>
    obtain ⟨k, rfl, hk, HP, rfl⟩ := hrel
    by_cases hlt : (k : Int) < s.size
    · have hks : k < s.size := by omega
      have hbad := isName_bad s k hks
      have hstep := part_step s k hks HP.out
      cases hL : isL (s[k].toNat : Int) with
      | true =>
        have HN : Hid (part (s.data.toList.take (k + 1)) = true) := hstep (by rw [hL]; rfl)
        have HL : Hid (isL (s[k].toNat : Int) = true) := hL
        clear hbad hstep hL
        go_wp2_with (go_at_call 124; refine (letter22 _ _).mono ?_; rintro e w1 ⟨rfl, rfl⟩; rw [HL.out])
        exact ⟨⟨k + 1, by go_num, by omega, HN, by first | exact rfl | trivial⟩, by simp [intOf]; omega⟩
      | false =>
        have HL : Hid (isL (s[k].toNat : Int) = false) := hL
        by_cases h0 : k = 0
        · have HN : Hid (isName s.data.toList = false) := hbad (by rw [hL]; subst h0; rfl)
          have hz : ((k : Int) == 0) = true := by simp; omega
          clear hbad hstep hL h0
          go_wp2_with (go_at_call 124; refine (letter22 _ _).mono ?_; rintro e w1 ⟨rfl, rfl⟩; rw [HL.out])
          go_ret
          exact ⟨ret_bool (by rw [HN.out]), rfl⟩
        · have hz : ((k : Int) == 0) = false := by simp; omega
          cases hD : isD (s[k].toNat : Int) with
          | true =>
            have HN : Hid (part (s.data.toList.take (k + 1)) = true) := hstep (by rw [hL, hD]; simp [h0])
            have HD : Hid (isD (s[k].toNat : Int) = true) := hD
            clear hbad hstep hL h0 hD
            go_wp2_with (first | (go_at_call 124; refine (letter22 _ _).mono ?_; rintro e w1 ⟨rfl, rfl⟩; rw [HL.out]) | (go_at_call 125; refine (digit23 _ _).mono ?_; rintro e w1 ⟨rfl, rfl⟩; rw [HD.out]))
            exact ⟨⟨k + 1, by go_num, by omega, HN, by first | exact rfl | trivial⟩, by simp [intOf]; omega⟩
          | false =>
            have HN : Hid (isName s.data.toList = false) := hbad (by rw [hL, hD]; simp)
            have HD : Hid (isD (s[k].toNat : Int) = false) := hD
            clear hbad hstep hL h0 hD
            go_wp2_with (first | (go_at_call 124; refine (letter22 _ _).mono ?_; rintro e w1 ⟨rfl, rfl⟩; rw [HL.out]) | (go_at_call 125; refine (digit23 _ _).mono ?_; rintro e w1 ⟨rfl, rfl⟩; rw [HD.out]))
            go_ret
            exact ⟨ret_bool (by rw [HN.out]), rfl⟩
    · have HN : Hid (isName s.data.toList = (decide (1 ≤ (s.size : Int)) && decide ((s.size : Int) ≤ 8))) := isName_all s k (by omega) HP.out
      by_cases h1 : (1 : Int) ≤ s.size
      · go_wp2_with fail
        go_ret
        exact ⟨ret_bool (by rw [HN.out]; simp; try omega), rfl⟩
      · go_wp2_with fail
        go_ret
        exact ⟨ret_bool (by rw [HN.out]; simp; try omega), rfl⟩
theorem isName_long (s : ByteArray) (h : 8 < s.size) : isName s.data.toList = false := by
  unfold isName; rw [llen, decide_eq_false (by omega : ¬ s.size ≤ 8)]; simp
theorem isName_whole (s : ByteArray) (k : Nat) (h0 : s.size ≠ 0) (h8 : ¬ 8 < s.size) (hk : s.size ≤ k) (hp : part (s.data.toList.take k) = true) : isName s.data.toList = true := by
  rw [isName_all s k hk hp]; simp; omega
set_option maxHeartbeats 1000000 in
theorem name_any (s : ByteArray) (w : World) :
    Calls Try.prog 85 #[.string s] w fun e w' => e = .returned (.bool (isName s.data.toList)) ∧ w' = w := by
  by_cases h0 : s.size = 0
  · obtain rfl := empty_of s h0
    go_enter Try.func85, Try.ntmps85
    go_wp2_with fail
    go_ret
    exact ⟨rfl, rfl⟩
  · have he := nonempty s h0
    by_cases h8 : 8 < s.size
    · have HN : Hid (isName s.data.toList = false) := isName_long s h8
      have hd : decide ((8 : Int) < s.size) = true := by simp; omega
      go_enter Try.func85, Try.ntmps85
      go_wp2_with fail
      go_ret
      exact ⟨ret_bool (by rw [HN.out]), rfl⟩
    · have hd : decide ((8 : Int) < s.size) = false := by simp; omega
      have hw := isName_whole s
      have hs8 : s.size ≤ 8 := by omega
      have hp0 : 0 < s.size := by omega
      cases hL0 : isL (s[0].toNat : Int) with
      | false =>
        have HN : Hid (isName s.data.toList = false) := isName_bad s 0 hp0 (by rw [hL0]; rfl)
        have HL : Hid (isL (s[0].toNat : Int) = false) := hL0
        clear hL0 hw
        go_enter Try.func85, Try.ntmps85
        go_wp2_with (go_at_call 113; refine (letter20 _ _).mono ?_; rintro e w1 ⟨rfl, rfl⟩; rw [HL.out])
        go_ret
        exact ⟨ret_bool (by rw [HN.out]), rfl⟩
      | true =>
        have HL0 : Hid (isL (s[0].toNat : Int) = true) := hL0
        have HW : Hid (∀ k, s.size ≤ k → part (s.data.toList.take k) = true → isName s.data.toList = true) := fun k => hw k h0 h8
        clear hL0 hw h0 h8
        go_enter Try.func85, Try.ntmps85
        go_wp2_with (go_at_call 113; refine (letter20 _ _).mono ?_; rintro e w1 ⟨rfl, rfl⟩; rw [HL0.out])
        go_loopw [3, 19] (fun _ i wx => ∃ k : Nat, i = .int .i64 k ∧ k ≤ s.size ∧ Hid (part (s.data.toList.take k) = true) ∧ wx = w1) (fun _ i _ => s.size - (intOf i).toNat)
        case atStart => exact ⟨0, rfl, by omega, rfl, rfl⟩
        case round =>
          obtain ⟨k, rfl, hk, HP, rfl⟩ := hrel
          by_cases hlt : (k : Int) < s.size
          · have hks : k < s.size := by omega
            have hbad := isName_bad s k hks
            have hstep := part_step s k hks HP.out
            cases hL : isL (s[k].toNat : Int) with
            | true =>
              have HN : Hid (part (s.data.toList.take (k + 1)) = true) := hstep (by rw [hL]; rfl)
              have HL : Hid (isL (s[k].toNat : Int) = true) := hL
              clear hbad hstep hL
              go_wp2_with (go_at_call 113; refine (letter20 _ _).mono ?_; rintro e w1 ⟨rfl, rfl⟩; rw [HL.out])
              exact ⟨⟨k + 1, by go_num, by omega, HN, by first | exact rfl | trivial⟩, by simp [intOf]; omega⟩
            | false =>
              have HL : Hid (isL (s[k].toNat : Int) = false) := hL
              have h0 : k ≠ 0 := by
                rintro rfl
                rw [HL0.out] at hL; cases hL
              cases hD : isD (s[k].toNat : Int) with
              | true =>
                have HN : Hid (part (s.data.toList.take (k + 1)) = true) := hstep (by rw [hL, hD]; simp [h0])
                have HD : Hid (isD (s[k].toNat : Int) = true) := hD
                clear hbad hstep hL h0 hD
                go_wp2_with (first | (go_at_call 113; refine (letter20 _ _).mono ?_; rintro e w1 ⟨rfl, rfl⟩; rw [HL.out]) | (go_at_call 114; refine (digit21 _ _).mono ?_; rintro e w1 ⟨rfl, rfl⟩; rw [HD.out]))
                exact ⟨⟨k + 1, by go_num, by omega, HN, by first | exact rfl | trivial⟩, by simp [intOf]; omega⟩
              | false =>
                have HN : Hid (isName s.data.toList = false) := hbad (by rw [hL, hD]; simp)
                have HD : Hid (isD (s[k].toNat : Int) = false) := hD
                clear hbad hstep hL h0 hD
                go_wp2_with (first | (go_at_call 113; refine (letter20 _ _).mono ?_; rintro e w1 ⟨rfl, rfl⟩; rw [HL.out]) | (go_at_call 114; refine (digit21 _ _).mono ?_; rintro e w1 ⟨rfl, rfl⟩; rw [HD.out]))
                go_ret
                exact ⟨ret_bool (by rw [HN.out]), rfl⟩
          · have HN : Hid (isName s.data.toList = true) := HW.out k (by omega) HP.out
            go_wp2_with fail
            go_ret
            exact ⟨ret_bool (by rw [HN.out]), rfl⟩
end Go.Proofs.Ytokdaapmejccbaa
