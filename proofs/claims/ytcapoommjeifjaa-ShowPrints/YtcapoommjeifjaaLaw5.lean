import Derived.Test.YtcapoommjeifjaaRPr
import Derived.Test.YtcapoommjeifjaaPrint
import Derived.Test.YtcapoommjeifjaaRexpr
namespace Go.Proofs.Ytcapoommjeifjaa
open Go.RowKit
set_option linter.unusedVariables false
set_option maxRecDepth 20000 in
set_option maxHeartbeats 4000000 in
theorem prints_any (e : Ex) (w : World) (hin : e.In w.heap.size w) :
    Calls Try.prog 5 #[e.val] w fun r W' => r = .returned (.bool true) ∧ Below w.heap.size w W' := by
  have hA := (Below.refl w.heap.size w).alloc (Nat.le_refl _) (.cells e.cells 27)
  have bE := BoxN.new w 27 e.cells
  have hpr := print_any e (w.alloc (.cells e.cells 27)) (hin.grow hA)
  have HE : Hid (∀ {W1 : World}, Below (w.alloc (.cells e.cells 27)).heap.size (w.alloc (.cells e.cells 27)) W1 → BoxN W1 w.heap.size 27 e.cells ∧ Below w.heap.size w W1) := fun hb => ⟨bE.below hb (by simp), hA.trans (hb.mono (by simp))⟩
  have HN : Hid (∀ {W1 W2 : World}, BoxN W1 w.heap.size 27 e.cells ∧ Below w.heap.size w W1 → Below W1.heap.size W1 W2 → BoxN W2 w.heap.size 27 e.cells ∧ Below w.heap.size w W2) := fun h hb => ⟨h.1.below hb h.1.lt, h.2.trans (hb.mono h.2.size)⟩
  have hrx : ∀ W, Below w.heap.size w W → _ := fun W h => rexpr_any e W (hin.grow h)
  rw [val_eq] at hpr hrx ⊢
  rw [cells_eq] at hpr
  clear hA bE
  by_cases h0 : check e = 0
  · have hp2 : prR e = e.pr := by unfold prR; rw [if_pos h0]
    have h60 := ((check_zero e).1 h0).1
    have hrp : ∀ W, Below w.heap.size w W → _ := fun W h => rprint_any e.size e (Nat.le_refl _) (by omega) (okA_check e h0) W (hin.grow h)
    rw [val_eq] at hrp
    rw [hp2] at hpr
    simp only [h0] at hpr hrx
    clear hp2 h0 h60
    unfold tba at hrp
    generalize (⟨e.pr.toArray⟩ : ByteArray) = T at *
    go_enter Try.func5, Try.ntmps5
    go_wp2_with (first
      | (go_at_call 17; refine hpr.mono ?_; rintro r W1 ⟨rfl, hb1⟩; rw [← cells_eq] at hb1; have k1 := HE.out hb1; have cE1 := k1.1.cell; rw [cells_eq] at cE1; clear hb1 HE hpr)
      | (go_at_call 11; refine (hrx _ k1.2).mono ?_; rintro r W3 ⟨rfl, hb3⟩; have k3 := HN.out k1 hb3; have cE3 := k3.1.cell; rw [cells_eq] at cE3; clear hb3 cE1)
      | (go_at_call 18; refine (hrp _ k3.2).mono ?_; rintro r W4 ⟨rfl, hb4⟩; have k4 := HN.out k3 hb4; clear hb4 cE3))
    go_ret
    exact ⟨by simp, k4.2⟩
  · have g : (check e != 0) = true := by simpa using h0
    have hp2 : prR e = [] := by unfold prR; rw [if_neg h0]
    rw [hp2] at hpr
    have hcc : (check e == check e) = true := by simp
    go_enter Try.func5, Try.ntmps5
    go_wp2_with (first
      | (go_at_call 17; refine hpr.mono ?_; rintro r W1 ⟨rfl, hb1⟩; rw [← cells_eq] at hb1; have k1 := HE.out hb1; have cE1 := k1.1.cell; rw [cells_eq] at cE1; clear hb1 HE hpr)
      | (go_at_call 11; refine (hrx _ k1.2).mono ?_; rintro r W3 ⟨rfl, hb3⟩; have k3 := HN.out k1 hb3; clear hb3 cE1))
    go_ret
    exact ⟨by simp, k3.2⟩
end Go.Proofs.Ytcapoommjeifjaa
