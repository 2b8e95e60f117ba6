import Derived.Test.YthcnificamidhaaMays
import Derived.Test.YthcnificamidhaaRGram
import Derived.WalkKit
import Derived.Below
import Derived.Deep.QuietTactic
import Derived.BigQuiet
import Derived.BigRegion
namespace Go.Proofs.Ythcnificamidhaa
open Go.RowKit
set_option linter.unusedVariables false
set_option linter.unusedSimpArgs false
theorem bit1 (f : Fa) : decide (0 < bits .and .i64 (encF f) 1) = f.1 := by obtain ⟨a, b, c⟩ := f; cases a <;> cases b <;> cases c <;> rfl
theorem bit2 (f : Fa) : decide (0 < bits .and .i64 (encF f) 2) = f.2.1 := by obtain ⟨a, b, c⟩ := f; cases a <;> cases b <;> cases c <;> rfl
theorem bit4 (f : Fa) : decide (0 < bits .and .i64 (encF f) 4) = f.2.2 := by obtain ⟨a, b, c⟩ := f; cases a <;> cases b <;> cases c <;> rfl
set_option maxRecDepth 20000 in
set_option maxHeartbeats 8000000 in
theorem wellFacts_any (g : Gr) (w : World) (hin : g.In w.heap.size w) :
    Calls Try.prog 3 #[g.val] w fun r W' => r = .returned (.bool true) ∧ Below w.heap.size w W' := by
  have hA := (Below.refl w.heap.size w).alloc (Nat.le_refl _) (.cells #[.slice g.a g.rules.length g.c] 24)
  have bG := BoxN.new w 24 #[.slice g.a g.rules.length g.c]
  have HN : Hid (∀ {W}, Below (w.alloc (.cells #[.slice g.a g.rules.length g.c] 24)).heap.size (w.alloc (.cells #[.slice g.a g.rules.length g.c] 24)) W → Below w.heap.size w W ∧ BoxN W w.heap.size 24 #[.slice g.a g.rules.length g.c]) := fun h => ⟨hA.trans (h.mono hA.size), bG.below h (by simp)⟩
  have HS : Hid (∀ {W W2 : World}, Below w.heap.size w W ∧ BoxN W w.heap.size 24 #[.slice g.a g.rules.length g.c] → Below W.heap.size W W2 → Below w.heap.size w W2 ∧ BoxN W2 w.heap.size 24 #[.slice g.a g.rules.length g.c]) := fun h hb => ⟨h.1.trans (hb.mono h.1.size), h.2.below hb h.2.lt⟩
  have h6 := facts_any g _ (hin.grow hA)
  have h7 : ∀ W, Below w.heap.size w W → _ := fun W h => rgram_any g W (hin.grow h)
  have H8 : Hid (gcheck g.rules = 0 → ∀ W, Below w.heap.size w W → Calls Try.prog 8 #[g.val] W (MaysR g W)) := fun h0 W h => mays_any g (gcheck_ok h0) W (hin.grow h)
  have HL : Hid (gcheck g.rules = 0 → g.rules.length ≤ 10) := fun h0 => (gcheck_ok h0).most
  unfold FactsR at h6
  rw [gval_eq] at h6 h7 H8 ⊢
  generalize gcheck g.rules = C at *
  clear hA bG hin
  by_cases h0 : C = 0
  · subst h0
    have h8 := H8.out rfl
    have h10 := HL.out rfl
    simp only [↓reduceIte] at h6
    clear H8 HL
    go_enter Try.func3, Try.ntmps3
    go_wp2_with (first
      | (go_at_call 6; refine h6.mono ?_; rintro e W1 ⟨v, rfl, ⟨B1, m1, rfl, hB1, hF1, hL1⟩, hb1⟩; have k1 := HN.out hb1; have c1 := k1.2.cell 0; simp only [List.getElem?_toArray, List.getElem?_cons_zero] at c1; have H1 : Hid (Fx W1 B1 m1 ∧ Least fLe g.rules.length (mst g.rules) m1) := ⟨hF1, hL1⟩; clear hb1 h6 hF1 hL1 hB1)
      | (go_at_call 7; refine (h7 _ k1.1).mono ?_; rintro e W2 ⟨rfl, hb2⟩; have k2 := HS.out k1 hb2; have c2 := k2.2.cell 0; simp only [List.getElem?_toArray, List.getElem?_cons_zero] at c2; have H2 : Hid (Fx W2 B1 m1) := H1.out.1.below hb2 H1.out.1.lt; clear hb2 h7 c1)
      | (go_at_call 8; refine (h8 _ k2.1).mono ?_; rintro e W3 ⟨B2, cp2, m2, rfl, hB2, hI2, hL2, hb3⟩; have k3 := HS.out k2 hb3; obtain rfl : m1 = m2 := H1.out.2.uniq fLat hL2; have H3 : Hid (Fx W3 B1 m1 ∧ Ix W3 B2 m1 ∧ Below w.heap.size w W3 ∧ m1.length = g.rules.length) := ⟨H2.out.below hb3 H2.out.lt, hI2, k3.1, hL2.pre.len⟩; clear hb3 h8 c2 hB2 hI2 hL2 H1 H2 k1 k2 k3 HS HN))
    go_loopw [39] (fun p wr => ∃ i : Nat, p = .int .i64 i ∧ i ≤ g.rules.length ∧ Hid (Fx wr B1 m1 ∧ Ix wr B2 m1 ∧ Below w.heap.size w wr ∧ m1.length = g.rules.length)) (fun p _ => g.rules.length - (intOf p).toNat)
    case atStart => exact ⟨0, rfl, Nat.zero_le _, H3⟩
    case round =>
      clear H3
      obtain ⟨i, rfl, hi, HQ⟩ := hrel
      by_cases hend : i = g.rules.length
      · have g1 : decide (i < g.rules.length) = false := by simp; omega
        clear hend
        go_wp2_with fail
        first
          | (go_ret
             exact ⟨rfl, HQ.out.2.2.1⟩)
          | exact ⟨rfl, HQ.out.2.2.1⟩
      · have hlt : i < g.rules.length := by omega
        obtain ⟨f, hf⟩ : ∃ f, m1[i]? = some f := ⟨_, List.getElem?_eq_getElem (by rw [HQ.out.2.2.2]; exact hlt)⟩
        obtain ⟨q0, q1, q2⟩ := HQ.out.1.fat i f hf
        simp only [Nat.zero_add] at q0 q1 q2
        have hA := (Below.refl _ wr).alloc (Nat.le_refl _) (.cells #[.bool f.1, .bool f.2.1, .bool f.2.2] 33)
        have H4 : Hid (Fx (wr.alloc (.cells #[.bool f.1, .bool f.2.1, .bool f.2.2] 33)) B1 m1 ∧ Ix (wr.alloc (.cells #[.bool f.1, .bool f.2.1, .bool f.2.2] 33)) B2 m1 ∧ Below w.heap.size w (wr.alloc (.cells #[.bool f.1, .bool f.2.1, .bool f.2.2] 33)) ∧ m1.length = g.rules.length) := ⟨HQ.out.1.below hA HQ.out.1.lt, HQ.out.2.1.below hA HQ.out.2.1.lt, HQ.out.2.2.1.trans (hA.mono HQ.out.2.2.1.size), HQ.out.2.2.2⟩
        have p0 := H4.out.2.1.fi i f hf
        rw [Nat.zero_add] at p0
        have n0 : (wr.alloc (.cells #[.bool f.1, .bool f.2.1, .bool f.2.2] 33)).cell? ⟨wr.heap.size, 0, none⟩ = some (.bool f.1) := (BoxN.new wr 33 _).cell 0
        have n1 : (wr.alloc (.cells #[.bool f.1, .bool f.2.1, .bool f.2.2] 33)).cell? ⟨wr.heap.size, 1, none⟩ = some (.bool f.2.1) := (BoxN.new wr 33 _).cell 1
        have n2 : (wr.alloc (.cells #[.bool f.1, .bool f.2.1, .bool f.2.2] 33)).cell? ⟨wr.heap.size, 2, none⟩ = some (.bool f.2.2) := (BoxN.new wr 33 _).cell 2
        have b1 := bit1 f
        have b2 := bit2 f
        have b4 := bit4 f
        have he : ∀ W, _ := fun W => eq_fa3 f.1 f.2.1 f.2.2 f.1 f.2.1 f.2.2 W
        simp only [beq_self_eq_true, Bool.and_self] at he
        have i0 : (0 : Int) ≤ (i : Int) := by omega
        have i1 : (i : Int) < (g.rules.length : Int) := by omega
        clear hend HQ hf hA
        go_wp2_with fail
        clear q0 q1 q2
        generalize wr.alloc (.cells #[.bool f.1, .bool f.2.1, .bool f.2.2] 33) = w4 at *
        go_quiet (fail)
        have H5 : Hid (Fx (w4.drewN nq) B1 m1 ∧ Ix (w4.drewN nq) B2 m1 ∧ Below w.heap.size w (w4.drewN nq) ∧ m1.length = g.rules.length) := by
          have hd : Below w4.heap.size w4 (w4.drewN nq) := ⟨rfl, rfl, rfl, Nat.le_refl _, fun _ _ => rfl⟩
          exact ⟨H4.out.1.below hd H4.out.1.lt, H4.out.2.1.below hd H4.out.2.1.lt, H4.out.2.2.1.trans (hd.mono H4.out.2.2.1.size), H4.out.2.2.2⟩
        clear H4
        go_wp2_with fail
        exact ⟨⟨i + 1, by go_num, by omega, H5⟩, by simp [intOf]; omega⟩
  · have g1 : (C != 0) = true := by simpa using h0
    have hCC : (C == C) = true := by simp
    simp only [h0, ↓reduceIte] at h6
    clear H8 HL
    go_enter Try.func3, Try.ntmps3
    go_wp2_with (first
      | (go_at_call 6; refine h6.mono ?_; rintro e W1 ⟨v, rfl, rfl, hb1⟩; have k1 := HN.out hb1; have c1 := k1.2.cell 0; simp only [List.getElem?_toArray, List.getElem?_cons_zero] at c1; clear hb1 h6)
      | (go_at_call 7; refine (h7 _ k1.1).mono ?_; rintro e W2 ⟨rfl, hb2⟩; have k2 := HS.out k1 hb2; clear hb2 h7 c1))
    first
      | (go_ret
         exact ⟨rfl, k2.1⟩)
      | exact ⟨rfl, k2.1⟩
end Go.Proofs.Ythcnificamidhaa
