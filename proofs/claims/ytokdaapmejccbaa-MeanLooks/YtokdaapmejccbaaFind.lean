import Derived.Test.YtokdaapmejccbaaGr
namespace Go.Proofs.Ytokdaapmejccbaa
open Go.RowKit
set_option linter.unusedVariables false
theorem toList_ne {a b : ByteArray} (h : ¬ a = b) : (a.toList == b.toList) = false := by
  rw [beq_eq_false_iff_ne]
  intro e
  rw [ByteArray.toList_eq, ByteArray.toList_eq] at e
  exact h (Go.WideShapes.bytes_inj e)
set_option maxRecDepth 20000 in
set_option maxHeartbeats 2000000 in
theorem find_any (g : Gr) (s : ByteArray) (w : World) (hin : g.In w.heap.size w) :
    Calls Try.prog 75 #[g.val, .string s] w fun r W' => r = .returned (.int .i64 (fnd g.rules s)) ∧ Below w.heap.size w W' := by
  have hlen := hin.len
  have hA := (Below.refl w.heap.size w).alloc (Nat.le_refl _) (.cells #[.slice g.a g.rules.length g.c] 24)
  have HI : Hid (g.In w.heap.size w) := hin
  have HF : Hid (fndF 0 (g.rules.drop 0) s = fnd g.rules s) := rfl
  generalize fnd g.rules s = R at *
  rw [gval_eq]
  clear hin
  go_enter Try.func75, Try.ntmps75
  go_wp2_with fail
  go_loopw [10] (fun p wr => ∃ i : Nat, p = .int .i64 i ∧ i ≤ g.rules.length ∧ Hid (fndF i (g.rules.drop i) s = R) ∧ Hid (Below w.heap.size w wr)) (fun p _ => g.rules.length - (intOf p).toNat)
  case atStart => exact ⟨0, rfl, Nat.zero_le _, HF, hA⟩
  case round =>
    clear hA HF
    obtain ⟨i, rfl, hi, HR, HB⟩ := hrel
    by_cases hend : i = g.rules.length
    · have hR : (-1 : Int) = R := by
        have := HR.out
        rw [hend, List.drop_length, fndF] at this
        exact this
      have g1 : decide (i < g.rules.length) = false := by simp; omega
      subst hR
      clear hend
      go_wp2_with fail
      go_ret
      exact ⟨rfl, HB.out⟩
    · have hlt : i < g.rules.length := by omega
      clear hend
      obtain ⟨x, hx⟩ : ∃ x, g.rules[i]? = some x := ⟨_, List.getElem?_eq_getElem hlt⟩
      obtain ⟨b, o, ha, hb, c0, c1, c2, c3, c4, c5, c6, c7⟩ := rcells ((HI.out.below HB.out).rule i x hx)
      have HD : Hid (fndF i (x :: g.rules.drop (i + 1)) s = R) := by rw [← drop_at _ _ _ hx]; exact HR.out
      have HA : Hid (Below w.heap.size w (wr.alloc (.cells (rcell x).toArray 76))) := HB.out.alloc HB.out.size _
      rw [rcell_eq] at HA
      rw [ha]
      clear hx HR HB
      by_cases hs : x.1 = s
      · have hR : (i : Int) = R := by have := HD.out; rw [fndF, if_pos hs] at this; exact this
        have g2 : (x.1.toList == s.toList) = true := by rw [hs]; simp
        subst hR
        clear hs
        go_wp2_with fail
        go_ret
        exact ⟨rfl, HA.out⟩
      · have HR2 : Hid (fndF (i + 1) (g.rules.drop (i + 1)) s = R) := by have := HD.out; rw [fndF, if_neg hs] at this; exact this
        have g2 : (x.1.toList == s.toList) = false := toList_ne hs
        clear hs
        go_wp2_with fail
        exact ⟨⟨i + 1, by go_num, by omega, HR2, HA⟩, by simp [intOf]; omega⟩
set_option maxRecDepth 20000 in
set_option maxHeartbeats 2000000 in
theorem rfind_any (g : Gr) (s : ByteArray) (w : World) (hin : g.In w.heap.size w) :
    Calls Try.prog 78 #[g.val, .string s] w fun r W' => r = .returned (.int .i64 (fnd g.rules s)) ∧ Below w.heap.size w W' := by
  have hlen := hin.len
  have hA := (Below.refl w.heap.size w).alloc (Nat.le_refl _) (.cells #[.slice g.a g.rules.length g.c] 24)
  have bG := BoxN.new w 24 #[.slice g.a g.rules.length g.c]
  have HI : Hid (g.In w.heap.size w) := hin
  have HF : Hid (fndF 0 (g.rules.drop 0) s = fnd g.rules s) := rfl
  generalize fnd g.rules s = R at *
  rw [gval_eq]
  clear hin
  go_enter Try.func78, Try.ntmps78
  go_wp2_with fail
  go_loopw [9] (fun p wr => ∃ i : Nat, p = .int .i64 i ∧ i ≤ g.rules.length ∧ Hid (fndF i (g.rules.drop i) s = R) ∧ Hid (Below w.heap.size w wr) ∧ BoxN wr w.heap.size 24 #[.slice g.a g.rules.length g.c]) (fun p _ => g.rules.length - (intOf p).toNat)
  case atStart => exact ⟨0, rfl, Nat.zero_le _, HF, hA, bG⟩
  case round =>
    clear hA HF bG
    obtain ⟨i, rfl, hi, HR, HB, bG⟩ := hrel
    have cG := bG.cell 0
    simp only [List.getElem?_toArray, List.getElem?_cons_zero] at cG
    by_cases hend : i = g.rules.length
    · have hR : (-1 : Int) = R := by
        have := HR.out
        rw [hend, List.drop_length, fndF] at this
        exact this
      have g1 : decide (i < g.rules.length) = false := by simp; omega
      subst hR
      clear hend
      go_wp2_with fail
      go_ret
      exact ⟨rfl, HB.out⟩
    · have hlt : i < g.rules.length := by omega
      clear hend
      obtain ⟨x, hx⟩ : ∃ x, g.rules[i]? = some x := ⟨_, List.getElem?_eq_getElem hlt⟩
      obtain ⟨b, o, ha, hb, c0, c1, c2, c3, c4, c5, c6, c7⟩ := rcells ((HI.out.below HB.out).rule i x hx)
      have HD : Hid (fndF i (x :: g.rules.drop (i + 1)) s = R) := by rw [← drop_at _ _ _ hx]; exact HR.out
      have HA : Hid (Below w.heap.size w wr) := HB.out
      rw [ha] at cG bG ⊢
      clear hx HR HB
      by_cases hs : x.1 = s
      · have hR : (i : Int) = R := by have := HD.out; rw [fndF, if_pos hs] at this; exact this
        have g2 : (x.1.toList == s.toList) = true := by rw [hs]; simp
        subst hR
        clear hs
        go_wp2_with fail
        go_ret
        exact ⟨rfl, HA.out⟩
      · have HR2 : Hid (fndF (i + 1) (g.rules.drop (i + 1)) s = R) := by have := HD.out; rw [fndF, if_neg hs] at this; exact this
        have g2 : (x.1.toList == s.toList) = false := toList_ne hs
        clear hs
        go_wp2_with fail
        exact ⟨⟨i + 1, by go_num, by omega, HR2, HA, bG⟩, by simp [intOf]; omega⟩
end Go.Proofs.Ytokdaapmejccbaa
