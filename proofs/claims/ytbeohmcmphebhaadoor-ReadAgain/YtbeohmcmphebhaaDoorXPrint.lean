import Derived.Test.YtbeohmcmphebhaaDoorXExpr
import Derived.Test.YtbeohmcmphebhaaDoorXParts
namespace Go.Proofs.YtbeohmcmphebhaaDoor
open Go.RowKit
set_option linter.unusedVariables false
/-- What Print tells. -/
def prR (e : Ex) : List UInt8 := if check e = 0 then e.pr else []
set_option maxRecDepth 20000 in
set_option maxHeartbeats 4000000 in
theorem print_any (e : Ex) (w : World) (hin : e.In w.heap.size w) :
    Calls Tryd.prog 11 #[e.val] w fun r W' => r = .returned (.tuple #[.string ⟨(prR e).toArray⟩, .int .i64 (check e)]) ∧ Below w.heap.size w W' := by
  have hA := (Below.refl w.heap.size w).alloc (Nat.le_refl _) (.cells e.cells 27)
  have bE := BoxN.new w 27 e.cells
  have hck := check_any e (w.alloc (.cells e.cells 27)) (hin.grow hA)
  have HE : Hid (∀ {W1 : World}, Below (w.alloc (.cells e.cells 27)).heap.size (w.alloc (.cells e.cells 27)) W1 → BoxN W1 w.heap.size 27 e.cells ∧ Below w.heap.size w W1) := fun hb => ⟨bE.below hb (by simp), hA.trans (hb.mono (by simp))⟩
  rw [val_eq] at hck ⊢
  rw [cells_eq] at hck
  clear hA bE
  by_cases h0 : check e = 0
  · have hpr : prR e = e.pr := by unfold prR; rw [if_pos h0]
    have h60 := ((check_zero e).1 h0).1
    have hex := expr_any e.size e (Nat.le_refl _) (okA_check e h0)
    rw [h0] at hck ⊢
    rw [hpr]
    have HX : Hid (∀ W1, Below w.heap.size w W1 → Calls Tryd.prog 20 #[.slice none 0 0, e.val] W1 fun r w' => ∃ v', r = .returned v' ∧ Holds w' W1.heap.size v' e.pr ∧ Below W1.heap.size W1 w') := fun W1 h1 => by
      have hnil : Holds W1 W1.heap.size (.slice none 0 0) [] := World.ownsRow_nil _ _ _ _
      refine (hex W1 (.slice none 0 0) [] W1.heap.size (hin.grow h1) hnil (Nat.le_refl _) (by rw [List.length_nil]; omega)).mono fun r w' ⟨v', h2, h3⟩ => ⟨v', h2, h3.own, h3.low hnil (Nat.le_refl _)⟩
    generalize e.pr = T at *
    clear hpr h0 hex h60
    go_enter Tryd.func11, Tryd.ntmps11
    go_wp2_with (first
      | (go_at_call 12; refine hck.mono ?_; rintro r W1 ⟨rfl, hb1⟩; rw [← cells_eq] at hb1; have k1 := HE.out hb1; have cE1 := k1.1.cell; rw [cells_eq] at cE1; have hx1 := HX.out W1 k1.2; rw [val_eq] at hx1; clear hb1 HE hck HX)
      | (go_at_call 20; refine hx1.mono ?_; clear hx1; rintro r w2 ⟨v2, rfl, hH2, hb2⟩; have hcv := hH2.conv))
    exact bodyPost_ret (v := .tuple #[.string ⟨T.toArray⟩, .int .i64 0]) (by simp [results, Tryd.results11, go_sem]) rfl ⟨rfl, k1.2.trans (hb2.mono k1.2.size)⟩
  · have hpr : prR e = [] := by unfold prR; rw [if_neg h0]
    rw [hpr]
    have g : (check e != 0) = true := by simpa using h0
    go_enter Tryd.func11, Tryd.ntmps11
    go_wp2_with (go_at_call 12; refine hck.mono ?_; rintro r W1 ⟨rfl, hb1⟩; rw [← cells_eq] at hb1; have k1 := HE.out hb1; clear hb1 HE hck)
    exact bodyPost_ret (v := .tuple #[.string ⟨#[]⟩, .int .i64 (check e)]) (by simp [results, Tryd.results11, go_sem]) rfl ⟨rfl, k1.2⟩
end Go.Proofs.YtbeohmcmphebhaaDoor
