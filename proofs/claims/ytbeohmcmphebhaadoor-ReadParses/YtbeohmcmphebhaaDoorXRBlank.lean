import Derived.Test.YtbeohmcmphebhaaDoorXTokW
import Derived.Lib.BufferMore
import Derived.Lib.BufferWrite
namespace Go.Proofs.YtbeohmcmphebhaaDoor
open Go.RowKit
set_option linter.unusedVariables false
theorem tcells_eq (n : Nat) (t : Tk) : tcells n t = #[.int .u8 (t.k.toNat : Int), .int .i64 ((n : Int) - t.s.length), .int .i64 ((n : Int) - t.r.length), .int .i64 t.e.k, .int .u64 (wd t.e.S 0), .int .u64 (wd t.e.S 1), .int .u64 (wd t.e.S 2), .int .u64 (wd t.e.S 3), .string t.e.t, .slice t.e.a t.e.kids.length t.e.c] := rfl
theorem suf_drop' {l T : List UInt8} (h : l <:+ T) : l = T.drop (T.length - l.length) := by
  obtain ⟨p, rfl⟩ := h
  simp
theorem box_set {W : World} {B : Nat} {t : TypeId} {cs : Array Value} (h : BoxN W B t cs) (i : Nat) (v : Value) : BoxN (W.setCell ⟨B, i, none⟩ v) B t (cs.setIfInBounds i v) := Go.Lib.heap_setCell_same (w := W) (b := B) (i := i) h v
end Go.Proofs.YtbeohmcmphebhaaDoor
namespace Go.Proofs.YtbeohmcmphebhaaDoor
open Go.RowKit
set_option linter.unusedVariables false
theorem skip_cons (c : UInt8) (l : List UInt8) (hb : isBl c = false) (h35 : c ≠ 35) : skip (c :: l) = c :: l := by
  have hd : (c :: l).dropWhile isBl = c :: l := by rw [List.dropWhile_cons, hb]; rfl
  rw [skip_no _ (by rw [hd]; exact h35), hd]
theorem skip_blank (c : UInt8) (l : List UInt8) (hb : isBl c = true) : skip (c :: l) = skip l := by
  rw [skip_D, skip_D, List.dropWhile_cons, hb]; rfl
theorem bl5_fin : ∀ k : Fin 256, decide (0 ≤ Lib.indexByte [32, 9, 10, 13, 35] (UInt8.ofNat k.val)) = (isBl (UInt8.ofNat k.val) || (UInt8.ofNat k.val == 35)) := by decide +kernel
theorem bl5_is (c : UInt8) : decide (0 ≤ Lib.indexByte [32, 9, 10, 13, 35] c) = (isBl c || (c == 35)) := by
  have := bl5_fin ⟨c.toNat, c.toNat_lt⟩
  simpa using this
theorem skip35 (r : List UInt8) : skip (35 :: r) = skip ((35 :: r).dropWhile (· != 10)) := by
  have hd : (35 :: r).dropWhile isBl = 35 :: r := by rw [List.dropWhile_cons]; rfl
  rw [skip_yes (35 :: r) (by rw [hd]; rfl), hd]
  unfold behind10
  cases h : (35 :: r).dropWhile (· != 10) with
  | nil => rfl
  | cons a q =>
    have ha : a = 10 := by
      have := List.head?_dropWhile_not (· != 10) (35 :: r)
      rw [h] at this
      simpa using this
    subst ha
    rw [skip_blank 10 q rfl]; rfl
theorem skip_idem (l : List UInt8) (c : UInt8) (r : List UInt8) (hl : l = c :: r) (h : (isBl c || (c == 35)) = false) : skip l = l := by
  rw [Bool.or_eq_false_iff] at h
  rw [hl, skip_cons c r h.1 (by simpa using h.2)]
theorem drop_get (T : ByteArray) (i : Nat) (h : i < T.size) : T.data.toList.drop i = T[i] :: T.data.toList.drop (i + 1) := by
  have h' : i < T.data.toList.length := by rw [llen]; exact h
  rw [List.drop_eq_getElem_cons h']
  rfl
set_option maxRecDepth 20000 in
set_option maxHeartbeats 4000000 in
theorem rblank_any (T : ByteArray) (i : Nat) (w : World) (hT : T.size ≤ 2000000) (hi : i ≤ T.size) :
    Calls Tryd.prog 28 #[.string T, .int .i64 i] w fun e w' => (∃ k : Nat, e = .returned (.int .i64 k) ∧ i ≤ k ∧ k ≤ T.size ∧ T.data.toList.drop k = skip (T.data.toList.drop i)) ∧ w' = w := by
  have hix : ∀ (c : UInt8) (W : World), Calls Tryd.prog 35 #[.string ⟨#[32, 9, 10, 13, 35]⟩, .int .u8 (c.toNat : Int)] W fun e w' => e = .returned (.int .i64 (Lib.indexByte [32, 9, 10, 13, 35] c)) ∧ w' = W := fun c W => by
    have := Tryd.strings_IndexByte ⟨#[32, 9, 10, 13, 35]⟩ (c.toNat : Int) W
    simpa using this
  have HS : Hid (skip (T.data.toList.drop i) = skip (T.data.toList.drop i)) := rfl
  generalize hR : skip (T.data.toList.drop i) = R at *
  go_enter Tryd.func28, Tryd.ntmps28
  go_wp2_with fail
  go_loopw [1] (fun p wr => ∃ k : Nat, p = .int .i64 k ∧ i ≤ k ∧ k ≤ T.size ∧ Hid (skip (T.data.toList.drop k) = R) ∧ wr = w) (fun p _ => T.size - (intOf p).toNat)
  case atStart => exact ⟨i, rfl, Nat.le_refl _, hi, hR, rfl⟩
  case round =>
    clear hR HS
    obtain ⟨k, rfl, hik, hk, HR, rfl⟩ := hrel
    by_cases hend : k = T.size
    · have g1 : decide ((k : Int) < (T.size : Int)) = false := decide_eq_false (by omega)
      have g1' : decide (k < T.size) = false := decide_eq_false (by omega)
      have hD : T.data.toList.drop k = R := by
        have := HR.out
        rw [hend, ← llen, List.drop_length] at this
        rw [hend, ← llen, List.drop_length, ← this]; rfl
      clear hend
      go_wp2_with fail
      go_ret
      exact ⟨⟨k, rfl, hik, hk, hD⟩, rfl⟩
    · have hkl : k < T.size := by omega
      clear hend
      have g1 : decide ((k : Int) < (T.size : Int)) = true := decide_eq_true (by omega)
      have hki : (k : Int) < T.size := by omega
      have hdg := drop_get T k hkl
      have hx := hix T[k]
      have hgd := bl5_is T[k]
      generalize Lib.indexByte [32, 9, 10, 13, 35] T[k] = q at *
      cases hb : (isBl T[k] || (T[k] == 35)) with
      | false =>
        rw [hb] at hgd
        have hD : T.data.toList.drop k = R := by rw [← HR.out]; exact (skip_idem _ _ _ hdg hb).symm
        clear hb hdg HR
        go_wp2_with (go_at_call 35; refine (hx _).mono ?_; rintro e w2 ⟨rfl, rfl⟩)
        go_ret
        exact ⟨⟨k, rfl, hik, hk, hD⟩, rfl⟩
      | true =>
        rw [hb] at hgd
        by_cases h35 : T[k] = 35
        · have g35 : ((T[k].toNat : Int) == 35) = true := by rw [h35]; rfl
          have HD : Hid (skip ((T.data.toList.drop k).dropWhile (· != 10)) = R) := by
            rw [Hid, ← HR.out, hdg, h35, skip35]
          have hne : T[k] ≠ 10 := by rw [h35]; decide
          clear hb hdg HR h35
          go_wp2_with (go_at_call 35; refine (hx _).mono ?_; rintro e w2 ⟨rfl, rfl⟩)
          obtain ⟨wo, rfl⟩ : ∃ wo : World, wo = w2 := ⟨_, rfl⟩
          go_loopw [1] (fun p wr => ∃ j : Nat, p = .int .i64 j ∧ k ≤ j ∧ j ≤ T.size ∧ Hid (skip ((T.data.toList.drop j).dropWhile (· != 10)) = R) ∧ wr = wo) (fun p _ => T.size - (intOf p).toNat)
          case atStart => exact ⟨k, rfl, Nat.le_refl _, hk, HD, rfl⟩
          case round =>
            clear HD hx hix hgd
            obtain ⟨j, rfl, hkj, hj, HR, rfl⟩ := hrel
            by_cases hend : j = T.size
            · have g2 : decide ((j : Int) < (T.size : Int)) = false := decide_eq_false (by omega)
              have g2' : decide (j < T.size) = false := decide_eq_false (by omega)
              have HN : Hid (skip (T.data.toList.drop j) = R) := by
                have := HR.out
                rw [hend, ← llen, List.drop_length] at this
                rw [Hid, hend, ← llen, List.drop_length]; exact this
              go_wp2_with fail
              go_roundw
              case measure => simp [intOf]; omega
              case rel => exact ⟨j, rfl, by omega, hj, HN, by first | rfl | trivial⟩
            · have hjl : j < T.size := by omega
              have g2 : decide ((j : Int) < (T.size : Int)) = true := decide_eq_true (by omega)
              have hji : (j : Int) < T.size := by omega
              have hdj := drop_get T j hjl
              clear hend
              by_cases h10 : T[j] = 10
              · have hjk : j ≠ k := by rintro rfl; exact hne h10
                have g10 : ((T[j].toNat : Int) != 10) = false := by rw [h10]; rfl
                have HN : Hid (skip (T.data.toList.drop j) = R) := by
                  have := HR.out
                  rw [hdj, List.dropWhile_cons, h10] at this
                  rw [Hid, hdj, h10]; exact this
                clear h10 HR hdj
                go_wp2_with fail
                go_roundw
                case measure => simp [intOf]; omega
                case rel => exact ⟨j, rfl, by omega, hj, HN, by first | rfl | trivial⟩
              · have g10 : ((T[j].toNat : Int) != 10) = true := by
                  rw [bne_iff_ne]; intro e; exact h10 (UInt8.toNat_inj.1 (by show T[j].toNat = 10; omega))
                have HN : Hid (skip ((T.data.toList.drop (j + 1)).dropWhile (· != 10)) = R) := by
                  have := HR.out
                  rw [hdj, List.dropWhile_cons, if_pos (by simpa using h10)] at this
                  exact this
                clear h10 HR hdj
                go_wp2_with fail
                go_roundw
                case measure => simp [intOf]; omega
                case rel => exact ⟨j + 1, by go_num, by omega, by omega, HN, by first | rfl | trivial⟩
        · have hbl : isBl T[k] = true := by simpa [h35] using hb
          have g35 : ((T[k].toNat : Int) == 35) = false := by
            rw [beq_eq_false_iff_ne]; intro e; exact h35 (UInt8.toNat_inj.1 (by show T[k].toNat = 35; omega))
          have HN : Hid (skip (T.data.toList.drop (k + 1)) = R) := by
            rw [Hid, ← HR.out, hdg, skip_blank _ _ hbl]
          clear hb hdg HR h35 hbl
          go_wp2_with (go_at_call 35; refine (hx _).mono ?_; rintro e w2 ⟨rfl, rfl⟩)
          go_roundw
          case measure => simp [intOf]; omega
          case rel => exact ⟨k + 1, by go_num, by omega, by omega, HN, by first | rfl | trivial⟩
end Go.Proofs.YtbeohmcmphebhaaDoor
