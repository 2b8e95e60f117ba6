import Derived.Test.YtcapoommjeifjaaPrint
import Derived.Test.YtcapoommjeifjaaRsame
import Derived.Test.YtcapoommjeifjaaApartD
import Derived.Test.YtcapoommjeifjaaParts
namespace Go.Proofs.Ytcapoommjeifjaa
open Go.RowKit
open Ex.In (InL)
open Ex.nodes (nodesL)
set_option linter.unusedVariables false
/-- The expression that the law itself makes: the name a. -/
def nameA : Ex := .mk 4 0#256 ⟨#[97]⟩ none 0 []
theorem nameA_check : check nameA = 0 := by
  unfold check nameA
  simp [Ex.nodes, nodesL, chk, formOk, textOk, setOk, kidsOk, Ex.k, Ex.t, Ex.S, Ex.kids, noS_zero]
  try decide
theorem nameA_pr : prR nameA = [97] := by
  unfold prR
  rw [if_pos nameA_check, pr_eq]
  simp [nameA, Ex.k, Ex.t]
theorem nameA_in (n : Nat) (w : World) : nameA.In n w := by
  unfold nameA
  rw [Ex.In, InL]
  have h : (⟨#[97]⟩ : ByteArray).size = 1 := rfl
  simp [h]
theorem nameA_val : nameA.val = .agg #[.int .i64 4, .int .u64 0, .int .u64 0, .int .u64 0, .int .u64 0, .string ⟨#[97]⟩, .slice none 0 0] := by
  simp [val_eq, nameA, Ex.k, Ex.S, Ex.t, Ex.a, Ex.c, Ex.kids, wd_zero]
/-- Both arguments lie where they were laid. -/
def Held (a b : Ex) (w W : World) : Prop := BoxN W w.heap.size 27 a.cells ∧ BoxN W (w.heap.size + 1) 27 b.cells ∧ Below w.heap.size w W
set_option maxRecDepth 20000 in
set_option maxHeartbeats 4000000 in
theorem apart_any (a b : Ex) (w : World) (hia : a.In w.heap.size w) (hib : b.In w.heap.size w) :
    Calls Try.prog 7 #[a.val, b.val] w fun r W' => r = .returned (.bool true) ∧ Below w.heap.size w W' := by
  have hA := ((Below.refl w.heap.size w).alloc (Nat.le_refl _) (.cells a.cells 27)).alloc (by simp) (.cells b.cells 27)
  have bA := (BoxN.new w 27 a.cells).alloc (.cells b.cells 27)
  have bB := BoxN.new (w.alloc (.cells a.cells 27)) 27 b.cells
  have hno := print_any nameA ((w.alloc (.cells a.cells 27)).alloc (.cells b.cells 27)) (nameA_in _ _)
  have hsz : (w.alloc (.cells a.cells 27)).heap.size = w.heap.size + 1 := by simp
  rw [hsz] at bB
  rw [nameA_pr, nameA_check, nameA_val] at hno
  have HE : Hid (∀ {W1 : World}, Below ((w.alloc (.cells a.cells 27)).alloc (.cells b.cells 27)).heap.size ((w.alloc (.cells a.cells 27)).alloc (.cells b.cells 27)) W1 → Held a b w W1) := fun hb => ⟨bA.below hb (by simp; omega), bB.below hb (by simp), hA.trans (hb.mono (by simp; omega))⟩
  have HN : Hid (∀ {W1 W2 : World}, Held a b w W1 → Below W1.heap.size W1 W2 → Held a b w W2) := fun h hb => ⟨h.1.below hb h.1.lt, h.2.1.below hb h.2.1.lt, h.2.2.trans (hb.mono h.2.2.size)⟩
  have hpa : ∀ W, Below w.heap.size w W → _ := fun W h => print_any a W (hia.grow h)
  have hpb : ∀ W, Below w.heap.size w W → _ := fun W h => print_any b W (hib.grow h)
  have hsm : ∀ W, Below w.heap.size w W → _ := fun W h => same_any a b W (hia.grow h) (hib.grow h)
  rw [val_eq, val_eq] at hsm ⊢
  rw [val_eq] at hpa hpb
  rw [cells_eq, cells_eq] at hno
  clear hA bA bB hsz hia hib
  have hok : Hid (check a = 0 → check b = 0 → decide (a.pr = b.pr) = a.same b) := fun h1 h2 => pr_same a b (okA_check a h1) (okA_check b h2)
  by_cases h0 : check a = 0
  · by_cases h1 : check b = 0
    · have hp1 : prR a = a.pr := by unfold prR; rw [if_pos h0]
      have hp2 : prR b = b.pr := by unfold prR; rw [if_pos h1]
      have hq := hok.out h0 h1
      rw [hp1, h0] at hpa
      rw [hp2, h1] at hpb
      clear h0 h1 hp1 hp2 hok
      generalize a.pr = P at *
      generalize b.pr = Q at *
      generalize a.same b = R at *
      have g : (P == Q) = R := by rw [← hq, Bool.eq_iff_iff, beq_iff_eq, decide_eq_true_eq]
      clear hq
      go_enter Try.func7, Try.ntmps7
      go_wp2_with (first
        | (go_at_call 17; refine hno.mono ?_; rintro r W1 ⟨rfl, hb1⟩; simp only [← cells_eq] at hb1; have k1 := HE.out hb1; have cA1 := k1.1.cell; have cB1 := k1.2.1.cell; rw [cells_eq] at cA1 cB1; clear hb1 HE hno)
        | (go_at_call 17; refine (hpa _ k1.2.2).mono ?_; rintro r W2 ⟨rfl, hb2⟩; have k2 := HN.out k1 hb2; have cA2 := k2.1.cell; have cB2 := k2.2.1.cell; rw [cells_eq] at cA2 cB2; clear hb2 hpa cA1 cB1)
        | (go_at_call 17; refine (hpb _ k2.2.2).mono ?_; rintro r W3 ⟨rfl, hb3⟩; have k3 := HN.out k2 hb3; have cA3 := k3.1.cell; have cB3 := k3.2.1.cell; rw [cells_eq] at cA3 cB3; clear hb3 hpb cA2 cB2)
        | (go_at_call 19; refine (hsm _ k3.2.2).mono ?_; rintro r W4 ⟨rfl, hb4⟩; have k4 := HN.out k3 hb4; clear hb4 hsm cA3 cB3))
      go_ret
      exact ⟨by simp, k4.2.2⟩
    · rw [h0] at hpa
      have g : (check b != 0) = true := by simpa using h1
      clear hok
      go_enter Try.func7, Try.ntmps7
      go_wp2_with (first
        | (go_at_call 17; refine hno.mono ?_; rintro r W1 ⟨rfl, hb1⟩; simp only [← cells_eq] at hb1; have k1 := HE.out hb1; have cA1 := k1.1.cell; have cB1 := k1.2.1.cell; rw [cells_eq] at cA1 cB1; clear hb1 HE hno)
        | (go_at_call 17; refine (hpa _ k1.2.2).mono ?_; rintro r W2 ⟨rfl, hb2⟩; have k2 := HN.out k1 hb2; have cA2 := k2.1.cell; have cB2 := k2.2.1.cell; rw [cells_eq] at cA2 cB2; clear hb2 hpa cA1 cB1)
        | (go_at_call 17; refine (hpb _ k2.2.2).mono ?_; rintro r W3 ⟨rfl, hb3⟩; have k3 := HN.out k2 hb3; clear hb3 hpb cA2 cB2))
      go_ret
      exact ⟨by simp, k3.2.2⟩
  · have g : (check a != 0) = true := by simpa using h0
    clear hok
    go_enter Try.func7, Try.ntmps7
    go_wp2_with (first
      | (go_at_call 17; refine hno.mono ?_; rintro r W1 ⟨rfl, hb1⟩; simp only [← cells_eq] at hb1; have k1 := HE.out hb1; have cA1 := k1.1.cell; have cB1 := k1.2.1.cell; rw [cells_eq] at cA1 cB1; clear hb1 HE hno)
      | (go_at_call 17; refine (hpa _ k1.2.2).mono ?_; rintro r W2 ⟨rfl, hb2⟩; have k2 := HN.out k1 hb2; have cA2 := k2.1.cell; have cB2 := k2.2.1.cell; rw [cells_eq] at cA2 cB2; clear hb2 hpa cA1 cB1)
      | (go_at_call 17; refine (hpb _ k2.2.2).mono ?_; rintro r W3 ⟨rfl, hb3⟩; have k3 := HN.out k2 hb3; clear hb3 hpb cA2 cB2))
    go_ret
    exact ⟨by simp, k3.2.2⟩
end Go.Proofs.Ytcapoommjeifjaa
