import Derived.Test.YtokdaapmejccbaaGrow
import Derived.WalkKit
import Derived.Below
namespace Go.Proofs.Ytokdaapmejccbaa
open Go.RowKit
set_option linter.unusedVariables false
set_option linter.unusedSimpArgs false
/-- What Facts answers. -/
def FactsR (all : List (ByteArray × Ex)) (n : Nat) (W : World) (v : Value) : Prop :=
  if gcheck all = 0 then ∃ B m, v = .slice (some ⟨B, 0, none⟩) all.length all.length ∧ n ≤ B ∧ Fx W B m ∧ Least fLe all.length (mst all) m else v = .slice none 0 0
set_option maxRecDepth 20000 in
set_option maxHeartbeats 4000000 in
theorem facts_any (g : Gr) (w : World) (hin : g.In w.heap.size w) :
    Calls Try.prog 24 #[g.val] w fun r W' => ∃ v, r = .returned (.tuple #[v, .int .i64 (gcheck g.rules)]) ∧ FactsR g.rules w.heap.size W' v ∧ Below w.heap.size w W' := by
  have hA := (Below.refl w.heap.size w).alloc (Nat.le_refl _) (.cells #[.slice g.a g.rules.length g.c] 24)
  have bG := BoxN.new w 24 #[.slice g.a g.rules.length g.c]
  have hck := gcheck_any g _ (hin.grow hA)
  have HN : Hid (∀ {W}, Below (w.alloc (.cells #[.slice g.a g.rules.length g.c] 24)).heap.size (w.alloc (.cells #[.slice g.a g.rules.length g.c] 24)) W → Below w.heap.size w W ∧ BoxN W w.heap.size 24 #[.slice g.a g.rules.length g.c]) := fun h => ⟨hA.trans (h.mono hA.size), bG.below h (by simp)⟩
  have HI : Hid (g.In w.heap.size w) := hin
  have HG : Hid (gcheck g.rules = 0 → GOk g.rules) := gcheck_ok
  rw [gval_eq] at hck ⊢
  unfold FactsR
  generalize gcheck g.rules = C at *
  clear hA bG hin
  by_cases h0 : C = 0
  · subst h0
    simp only [↓reduceIte]
    have hok := HG.out rfl
    have hgr : ∀ W, Below w.heap.size w W → _ := fun W h => grow_any g hok W (HI.out.grow h)
    rw [gval_eq] at hgr
    clear HG
    go_enter Try.func24, Try.ntmps24
    go_wp2_with (first
      | (go_at_call 31; refine hck.mono ?_; rintro e W1 ⟨rfl, hb1⟩; have k1 := HN.out hb1; have c1 := k1.2.cell 0; simp only [List.getElem?_toArray, List.getElem?_cons_zero] at c1; clear hb1 hck)
      | (go_at_call 50; refine (hgr _ k1.1).mono ?_; rintro e W2 ⟨B, m, rfl, hB, hF, hL, hb2⟩))
    refine bodyPost_ret (by simp [results, Try.results24, go_sem]) rfl ⟨_, rfl, ⟨_, _, rfl, Nat.le_trans k1.1.size hB, hF, hL⟩, k1.1.trans (hb2.mono k1.1.size)⟩
  · simp only [h0, ↓reduceIte]
    have g1 : (C != 0) = true := by simpa using h0
    go_enter Try.func24, Try.ntmps24
    go_wp2_with (go_at_call 31; refine hck.mono ?_; rintro e W1 ⟨rfl, hb1⟩; have k1 := HN.out hb1; clear hb1 hck)
    refine bodyPost_ret (by simp [results, Try.results24, go_sem]) rfl ⟨_, rfl, rfl, k1.1⟩
end Go.Proofs.Ytokdaapmejccbaa
