import Derived.Test.YtbeohmcmphebhaaXFull
import Derived.Test.YtbeohmcmphebhaaXGChkA
import Derived.Test.YtbeohmcmphebhaaXEq
import Derived.Test.YtbeohmcmphebhaaXRrefs
import Derived.Test.YtbeohmcmphebhaaXQRefClass
import Derived.Test.YtbeohmcmphebhaaXShelfB
import Derived.Test.YtbeohmcmphebhaaXSet
import Derived.Test.YtbeohmcmphebhaaXExpr
import Derived.Deep.QuietTactic
import Derived.BigQuiet
import Derived.BigRegion
import Derived.Deep.RegionHeld3
namespace Go.Proofs.Ytbeohmcmphebhaa
open Go.RowKit
set_option linter.unusedVariables false
set_option linter.unusedSimpArgs false
/-- Which brackets the reference asks for. -/
def leastOf (k : Int) : Int := if k = 6 then 1 else if k = 5 ∨ 10 ≤ k then 2 else 3
def tba (l : List UInt8) : ByteArray := ⟨l.toArray⟩
theorem tba_list (l : List UInt8) : (tba l).data.toList = l := rfl
theorem tba_size (l : List UInt8) : (tba l).size = l.length := by simp [tba, ByteArray.size]
theorem tba_app (a b : List UInt8) : tba a ++ tba b = tba (a ++ b) := cat_list a b
def sts (l : List (List UInt8)) : List ByteArray := l.map tba
theorem sts_len (l : List (List UInt8)) : (sts l).length = l.length := by simp [sts]
/-- What the reference's Print does with an expression. -/
def RpC (x : Ex) : Prop := ∀ (w : World), x.In w.heap.size w → Calls Try.prog 28 #[x.val] w fun r w' => r = .returned (.string (tba x.pr)) ∧ Below w.heap.size w w'
theorem Ss.join {w : World} {N : Nat} {v : Value} {l : List (List UInt8)} (h : Ss w N v (sts l)) (sep : ByteArray) (hl : l.length ≤ 100) (hlen : (Lib.join l sep.data.toList).length ≤ 10000000) :
    Calls Try.prog 42 #[v, .string sep] w fun e w' => e = .returned (.string (tba (Lib.join l sep.data.toList))) ∧ Below w.heap.size w w' := by
  have hm : (sts l).map (·.data.toList) = l := by unfold sts; rw [List.map_map]; exact (List.map_congr_left (fun x _ => rfl)).trans (List.map_id l)
  rcases h.2 with ⟨rfl, h0⟩ | ⟨g, cap, cur, rfl, _, hg, hc, _⟩
  · have : l = [] := List.eq_nil_of_length_eq_zero (by rw [sts_len] at h0; exact h0)
    subst this
    exact (Try.strings_Join_none none 0 sep w).mono fun e w' ⟨h1, h2⟩ => ⟨h1, by rw [h2]; exact Below.refl _ _⟩
  · have := Try.strings_Join g 0 cap (sts l) sep w (fun j x hx => by
      have h1 := h.cells j (List.getElem?_eq_some_iff.1 hx).1
      rw [h1]
      simp [List.getD, hx]) (Array.getElem?_eq_some_iff.1 hg).1 (by rw [sts_len]; omega) hc (by rw [hm]; omega)
    rw [hm] at this
    exact this
set_option maxRecDepth 20000 in
set_option maxHeartbeats 8000000 in
theorem rp_1 (e : Ex) (hlen0 : e.kids.length = 0) (hk : e.k = 1) (w : World) (hin : e.In w.heap.size w) :
    Calls Try.prog 28 #[e.val] w fun r w' => r = .returned (.string (tba e.pr)) ∧ Below w.heap.size w w' := by
  have hpr : e.pr = [40, 41] := by rw [pr_eq, if_pos hk]
  rw [hpr]
  have hB := (Below.refl w.heap.size w).alloc (Nat.le_refl _) (.cells e.cells 46)
  have bE := BoxN.new w 46 e.cells
  have HB : Hid (Below w.heap.size w (w.alloc (.cells e.cells 46)) ∧ BoxN (w.alloc (.cells e.cells 46)) w.heap.size 46 e.cells ∧ e.In w.heap.size (w.alloc (.cells e.cells 46))) := ⟨hB, bE, hin.below hB⟩
  have hsz1 : (w.alloc (.cells e.cells 46)).heap.size = w.heap.size + 1 := by simp
  have g1 : (e.k == 1) = true := by simp [hk]
  have gl : decide ((0 : Int) < (e.kids.length : Int)) = false := by rw [hlen0]; rfl
  have gl2 : decide (0 < e.kids.length) = false := by rw [hlen0]; rfl
  rw [val_eq]
  clear hk hpr hlen0 hB bE hin
  go_enter Try.func28, Try.ntmps28
  go_wp2_with fail
  go_loopw [14] (fun q wr => q = .int .i64 0 ∧ wr = w.alloc (.cells e.cells 46)) (fun _ _ => 0)
  case atStart => exact ⟨rfl, by rw [cells_eq]⟩
  case round =>
    obtain ⟨rfl, hwr⟩ := hrel
    rw [cells_eq] at hwr
    subst hwr
    go_wp2_with fail
    go_ret
    rw [← cells_eq]
    exact ⟨rfl, HB.out.1⟩
set_option maxRecDepth 20000 in
set_option maxHeartbeats 8000000 in
theorem rp_3 (e : Ex) (hlen0 : e.kids.length = 0) (ht : e.t.size ≤ 12) (hk : e.k = 3) (w : World) (hin : e.In w.heap.size w) :
    Calls Try.prog 28 #[e.val] w fun r w' => r = .returned (.string (tba e.pr)) ∧ Below w.heap.size w w' := by
  have hpr : e.pr = lit e.t.data.toList := by rw [pr_eq, if_neg (by omega), if_neg (by omega), if_pos hk]
  rw [hpr]
  have hB := (Below.refl w.heap.size w).alloc (Nat.le_refl _) (.cells e.cells 46)
  have bE := BoxN.new w 46 e.cells
  have HB : Hid (Below w.heap.size w (w.alloc (.cells e.cells 46)) ∧ BoxN (w.alloc (.cells e.cells 46)) w.heap.size 46 e.cells ∧ e.In w.heap.size (w.alloc (.cells e.cells 46))) := ⟨hB, bE, hin.below hB⟩
  have hsz1 : (w.alloc (.cells e.cells 46)).heap.size = w.heap.size + 1 := by simp
  have hlit := rlit_any e.t (w.alloc (.cells e.cells 46)) (by omega)
  rw [cells_eq] at hlit
  generalize lit e.t.data.toList = L at *
  have g1 : (e.k == 1) = false := by simp [hk]
  have g2 : (e.k == 2) = false := by simp [hk]
  have g3 : (e.k == 3) = true := by simp [hk]
  have gl : decide ((0 : Int) < (e.kids.length : Int)) = false := by rw [hlen0]; rfl
  have gl2 : decide (0 < e.kids.length) = false := by rw [hlen0]; rfl
  rw [val_eq]
  clear hk hpr hlen0 hB bE hin
  go_enter Try.func28, Try.ntmps28
  go_wp2_with fail
  go_loopw [14] (fun q wr => q = .int .i64 0 ∧ wr = w.alloc (.cells e.cells 46)) (fun _ _ => 0)
  case atStart => exact ⟨rfl, by rw [cells_eq]⟩
  case round =>
    obtain ⟨rfl, hwr⟩ := hrel
    rw [cells_eq] at hwr
    subst hwr
    go_wp2_with (go_at_call 41; refine hlit.mono ?_; rintro r w2 ⟨rfl, hb2⟩; rw [← cells_eq] at hb2)
    go_ret
    exact ⟨rfl, HB.out.1.trans (hb2.mono HB.out.1.size)⟩
set_option maxRecDepth 20000 in
set_option maxHeartbeats 8000000 in
theorem rp_4 (e : Ex) (hlen0 : e.kids.length = 0) (hk : e.k = 4) (w : World) (hin : e.In w.heap.size w) :
    Calls Try.prog 28 #[e.val] w fun r w' => r = .returned (.string (tba e.pr)) ∧ Below w.heap.size w w' := by
  have hpr : e.pr = e.t.data.toList := by rw [pr_eq, if_neg (by omega), if_neg (by omega), if_neg (by omega), if_pos hk]
  rw [hpr]
  have hB := (Below.refl w.heap.size w).alloc (Nat.le_refl _) (.cells e.cells 46)
  have bE := BoxN.new w 46 e.cells
  have HB : Hid (Below w.heap.size w (w.alloc (.cells e.cells 46)) ∧ BoxN (w.alloc (.cells e.cells 46)) w.heap.size 46 e.cells ∧ e.In w.heap.size (w.alloc (.cells e.cells 46))) := ⟨hB, bE, hin.below hB⟩
  have hsz1 : (w.alloc (.cells e.cells 46)).heap.size = w.heap.size + 1 := by simp
  have g1 : (e.k == 1) = false := by simp [hk]
  have g2 : (e.k == 2) = false := by simp [hk]
  have g3 : (e.k == 3) = false := by simp [hk]
  have g4 : (e.k == 4) = true := by simp [hk]
  have gl : decide ((0 : Int) < (e.kids.length : Int)) = false := by rw [hlen0]; rfl
  have gl2 : decide (0 < e.kids.length) = false := by rw [hlen0]; rfl
  rw [val_eq]
  clear hk hpr hlen0 hB bE hin
  go_enter Try.func28, Try.ntmps28
  go_wp2_with fail
  go_loopw [14] (fun q wr => q = .int .i64 0 ∧ wr = w.alloc (.cells e.cells 46)) (fun _ _ => 0)
  case atStart => exact ⟨rfl, by rw [cells_eq]⟩
  case round =>
    obtain ⟨rfl, hwr⟩ := hrel
    rw [cells_eq] at hwr
    subst hwr
    go_wp2_with fail
    go_ret
    rw [← cells_eq]
    exact ⟨rfl, HB.out.1⟩
attribute [local go_sem] eq_arr in
set_option maxRecDepth 20000 in
set_option maxHeartbeats 8000000 in
theorem rp_2 (e : Ex) (hlen0 : e.kids.length = 0) (hk : e.k = 2) (w : World) (hin : e.In w.heap.size w) :
    Calls Try.prog 28 #[e.val] w fun r w' => r = .returned (.string (tba e.pr)) ∧ Below w.heap.size w w' := by
  have hpr : e.pr = (if isFull e.S then [46] else cls e.S) := by rw [pr_eq, if_neg (by omega), if_pos hk]
  rw [hpr]
  have hB := (Below.refl w.heap.size w).alloc (Nat.le_refl _) (.cells e.cells 46)
  have bE := BoxN.new w 46 e.cells
  have HB : Hid (Below w.heap.size w (w.alloc (.cells e.cells 46)) ∧ BoxN (w.alloc (.cells e.cells 46)) w.heap.size 46 e.cells ∧ e.In w.heap.size (w.alloc (.cells e.cells 46))) := ⟨hB, bE, hin.below hB⟩
  have hsz1 : (w.alloc (.cells e.cells 46)).heap.size = w.heap.size + 1 := by simp
  have hft := full_test e.S
  have hfull := full_any
  have hcl := rclass_any e.S
  generalize BitVec.allOnes 256 = F at *
  obtain ⟨fl, hfl⟩ : ∃ fl, isFull e.S = fl := ⟨_, rfl⟩
  rw [hfl] at hft ⊢
  clear hfl
  generalize cls e.S = cS at *
  have g1 : (e.k == 1) = false := by simp [hk]
  have g2 : (e.k == 2) = true := by simp [hk]
  have gl : decide ((0 : Int) < (e.kids.length : Int)) = false := by rw [hlen0]; rfl
  have gl2 : decide (0 < e.kids.length) = false := by rw [hlen0]; rfl
  rw [val_eq]
  clear hk hpr hlen0 hB bE hin
  go_enter Try.func28, Try.ntmps28
  go_wp2_with fail
  go_loopw [14] (fun q wr => q = .int .i64 0 ∧ wr = w.alloc (.cells e.cells 46)) (fun _ _ => 0)
  case atStart => exact ⟨rfl, by rw [cells_eq]⟩
  case round =>
    obtain ⟨rfl, hwr⟩ := hrel
    rw [cells_eq] at hwr
    subst hwr
    go_wp2_with fail
    rw [← cells_eq]
    have hK : KeepE w w.heap.size e (w.alloc (.cells e.cells 46)) := keepE_of HB.out.1 HB.out.2.1
    generalize w.alloc (.cells e.cells 46) = w1 at *
    unfold KeepE at hK
    go_region_held3 (fun w' => Below w.heap.size w w' ∧ BoxN w' w.heap.size 46 e.cells ∧ w'.cell? ⟨w.heap.size, 0, none⟩ = some (.int .i64 e.k) ∧ w'.cell? ⟨w.heap.size, 1, none⟩ = some (.int .u64 (wd e.S 0)) ∧ w'.cell? ⟨w.heap.size, 2, none⟩ = some (.int .u64 (wd e.S 1)) ∧ w'.cell? ⟨w.heap.size, 3, none⟩ = some (.int .u64 (wd e.S 2)) ∧ w'.cell? ⟨w.heap.size, 4, none⟩ = some (.int .u64 (wd e.S 3)) ∧ w'.cell? ⟨w.heap.size, 5, none⟩ = some (.string e.t) ∧ w'.cell? ⟨w.heap.size, 6, none⟩ = some (.slice e.a e.kids.length e.c)) (first | exact keepE_call (w := w) (N := w.heap.size) (e := e) (by assumption) hb | exact keepE_drew (w := w) (N := w.heap.size) (e := e) hK) (first
      | (go_at_call 39; refine (hfull _).mono ?_; rintro r w5 ⟨rfl, hb⟩))
    all_goals (have hK2 : KeepE w w.heap.size e w5 := by assumption)
    all_goals clear hK
    all_goals (have cE := hK2.2.1.cell; rw [cells_eq] at cE)
    cases fl
    · go_wp2_with (go_at_call 40; refine (hcl _).mono ?_; rintro r w6 ⟨rfl, hb6⟩)
      go_ret
      exact ⟨rfl, hK2.1.trans (hb6.mono hK2.1.size)⟩
    · go_wp2_with fail
      go_ret
      exact ⟨rfl, hK2.1⟩
end Go.Proofs.Ytbeohmcmphebhaa
