import Derived.Test.YtbeohmcmphebhaaRGram
import Derived.Deep.RegionHeld3
namespace Go.Proofs.Ytbeohmcmphebhaa
open Go.RowKit
set_option linter.unusedVariables false
def KeepG (w : World) (N : Nat) (g : Gr) (w' : World) : Prop := Below w.heap.size w w' ∧ BoxN w' N 24 #[.slice g.a g.rules.length g.c] ∧ w'.cell? ⟨N, 0, none⟩ = some (.slice g.a g.rules.length g.c)
theorem keepG_of {w w' : World} {N : Nat} {g : Gr} (hB : Below w.heap.size w w') (hE : BoxN w' N 24 #[.slice g.a g.rules.length g.c]) : KeepG w N g w' := ⟨hB, hE, hE.cell 0⟩
theorem keepG_call {w W w' : World} {N : Nat} {g : Gr} (h : KeepG w N g W) (hb : Below W.heap.size W w') : KeepG w N g w' := keepG_of (h.1.trans (hb.mono h.1.size)) (h.2.1.below hb h.2.1.lt)
theorem keepG_drew {w w' : World} {N : Nat} {g : Gr} (h : KeepG w N g w') : KeepG w N g w'.drew := keepG_of h.1.drew h.2.1
set_option maxRecDepth 20000 in
set_option maxHeartbeats 4000000 in
theorem gramChecks_any (g : Gr) (s : ByteArray) (w : World) (hin : g.In w.heap.size w) :
    Calls Try.prog 3 #[g.val, .string s] w fun r W' => r = .returned (.bool true) ∧ Below w.heap.size w W' := by
  have hA := (Below.refl w.heap.size w).alloc (Nat.le_refl _) (.cells #[.slice g.a g.rules.length g.c] 24)
  have hK : KeepG w w.heap.size g (w.alloc (.cells #[.slice g.a g.rules.length g.c] 24)) := keepG_of hA (BoxN.new w 24 _)
  have h7 : ∀ W, KeepG w w.heap.size g W → _ := fun W h => gcheck_any g W (hin.grow h.1)
  have h8 : ∀ W, KeepG w w.heap.size g W → _ := fun W h => rgram_any g W (hin.grow h.1)
  have h9 : ∀ W, KeepG w w.heap.size g W → _ := fun W h => find_any g s W (hin.grow h.1)
  have h10 : ∀ W, KeepG w w.heap.size g W → _ := fun W h => rfind_any g s W (hin.grow h.1)
  generalize gcheck g.rules = C at *
  generalize fnd g.rules s = F at *
  have hCC : (C == C) = true := by simp
  have hFF : (F == F) = true := by simp
  rw [gval_eq] at h7 h8 h9 h10 ⊢
  clear hA
  go_enter Try.func3, Try.ntmps3
  go_wp2_with fail
  generalize w.alloc (.cells #[.slice g.a g.rules.length g.c] 24) = w1 at *
  unfold KeepG at hK
  go_region_held3 (fun w' => Below w.heap.size w w' ∧ BoxN w' w.heap.size 24 #[.slice g.a g.rules.length g.c] ∧ w'.cell? ⟨w.heap.size, 0, none⟩ = some (.slice g.a g.rules.length g.c))
    (first | exact keepG_call (w := w) (N := w.heap.size) (g := g) (by assumption) hb | exact keepG_drew (w := w) (N := w.heap.size) (g := g) hK) (first
    | (go_at_call 7; refine (h7 _ (by assumption)).mono ?_; rintro e w5 ⟨rfl, hb⟩)
    | (go_at_call 8; refine (h8 _ (by assumption)).mono ?_; rintro e w5 ⟨rfl, hb⟩)
    | (go_at_call 9; refine (h9 _ (by assumption)).mono ?_; rintro e w5 ⟨rfl, hb⟩)
    | (go_at_call 10; refine (h10 _ (by assumption)).mono ?_; rintro e w5 ⟨rfl, hb⟩))
  have hK2 : KeepG w w.heap.size g w5 := by assumption
  clear hK
  go_wp2_with fail
  go_ret
  exact ⟨rfl, hK2.1⟩
end Go.Proofs.Ytbeohmcmphebhaa
