import Derived.Test.YtokdaapmejccbaaXOneG
import Derived.WalkKit
import Derived.Below
import Derived.Deep.QuietTactic
import Derived.BigQuiet
import Derived.BigRegion
namespace Go.Proofs.Ytokdaapmejccbaa
open Go.RowKit
set_option linter.unusedVariables false
set_option linter.unusedSimpArgs false
/-- The grammar's box, and what lies below. -/
structure Gbx (g : Gr) (w W : World) : Prop where
  bel : Below w.heap.size w W
  box : BoxN W w.heap.size 24 #[.slice g.a g.rules.length g.c]
theorem Gbx.step {g : Gr} {w W W' : World} (h : Gbx g w W) (hb : Below W.heap.size W W') : Gbx g w W' := ⟨h.bel.trans (hb.mono h.bel.size), h.box.below hb h.box.lt⟩
theorem Gbx.new (g : Gr) (w : World) : Gbx g w (w.alloc (.cells #[.slice g.a g.rules.length g.c] 24)) := ⟨(Below.refl _ w).alloc (Nat.le_refl _) _, BoxN.new w 24 _⟩
theorem Gbx.cell {g : Gr} {w W : World} (h : Gbx g w W) : W.cell? ⟨w.heap.size, 0, none⟩ = some (.slice g.a g.rules.length g.c) := h.box.cell 0
set_option maxRecDepth 20000 in
set_option maxHeartbeats 4000000 in
theorem meanLooks_any (g : Gr) (T : ByteArray) (w : World) (hin : g.In w.heap.size w) :
    Calls Try.prog 3 #[g.val, .string T] w fun r W' => r = .returned (.bool true) ∧ Below w.heap.size w W' := by
  obtain ⟨n, e, h9⟩ := w9_ex g
  have hb := Gbx.new g w
  have HG : Hid (∀ W, Gbx g w W → (Calls Try.prog 14 #[g.val, .string T] W fun r W' => r = .returned (.int .i64 (lkE T e)) ∧ Below W.heap.size W W') ∧ Calls Try.prog 15 #[g.val, .string T] W fun r W' => r = .returned (.int .i64 (lkE T e)) ∧ Below W.heap.size W W') := fun W h => ⟨look_any g T h9 W (hin.grow h.bel), rlook_any g T h9 W (hin.grow h.bel)⟩
  generalize lkE T e = k at *
  rw [gval_eq] at HG ⊢
  clear hin h9
  go_enter Try.func3, Try.ntmps3
  go_wp2_with fail
  generalize w.alloc (.cells #[.slice g.a g.rules.length g.c] 24) = w1 at *
  have HB : Hid (Gbx g w w1) := hb
  clear hb
  refine wp_region_all (Gbx g w) _ (by kernel_rfl) (by kernel_rfl) (HB.out.step (Below.refl _ w1).drew) ?_
  repeat (first
    | go_big_quiet_skip
    | (go_big_quiet_want
       apply Exists.intro
       refine ⟨fun W hW => ?_, ?_⟩
       · have c0 := hW.cell
         unfold Oper.quietAt
         go_simp
         first
           | with_reducible exact rfl
           | with_reducible exact ⟨rfl, rfl⟩
           | (go_at_call 14
              refine (HG.out W hW).1.mono ?_
              rintro e W1 ⟨rfl, hb⟩
              exact ⟨rfl, hW.step hb⟩)
           | (go_at_call 15
              refine (HG.out W hW).2.mono ?_
              rintro e W1 ⟨rfl, hb⟩
              exact ⟨rfl, hW.step hb⟩)
       go_big_quiet_on
       simp only [Act.put, List.setIfInBounds_toArray, List.set_cons_zero, List.set_cons_succ]))
  refine wpQuiet_nil ?_
  intro W hW
  have g1 : (k == k) = true := by simp
  go_simp
  go_wp2_with fail
  go_ret
  exact ⟨rfl, hW.bel⟩
end Go.Proofs.Ytokdaapmejccbaa
