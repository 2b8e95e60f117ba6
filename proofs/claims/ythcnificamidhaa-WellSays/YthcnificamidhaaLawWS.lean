import Derived.Test.YthcnificamidhaaRWell
import Derived.WalkKit
import Derived.Below
import Derived.Deep.QuietTactic
namespace Go.Proofs.Ythcnificamidhaa
open Go.RowKit
set_option linter.unusedVariables false
set_option linter.unusedSimpArgs false
theorem wellN_fun {g : Gr} {lf : List Fa} {n e n' e' : Int} (h : WellN g lf n e) (h' : WellN g lf n' e') : n = n' ∧ e = e' := by
  unfold WellN at h h'
  cases hf : fiF (fun r : ByteArray × Ex => r.2.lp (mbF g lf)) 0 g.rules with
  | some i =>
    rw [hf] at h h'
    exact ⟨h.1.trans h'.1.symm, h.2.trans h'.2.symm⟩
  | none =>
    rw [hf] at h h'
    obtain ⟨lb, hL, h1⟩ := h
    obtain ⟨lb', hL', h1'⟩ := h'
    obtain rfl := hL.uniq bLat hL'
    cases hb : fiF (fun x => x == false) 0 lb with
    | some i =>
      rw [hb] at h1 h1'
      exact ⟨h1.1.trans h1'.1.symm, h1.2.trans h1'.2.symm⟩
    | none =>
      rw [hb] at h1 h1'
      exact ⟨h1.1.trans h1'.1.symm, h1.2.trans h1'.2.symm⟩
/-- What both tell of a grammar. -/
def WlR (g : Gr) (w : World) (n e : Int) (r : Ending) (W' : World) : Prop := r = .returned (.tuple #[.int .i64 n, .int .i64 e]) ∧ Below w.heap.size w W'
theorem wellBoth (g : Gr) (w : World) (hin : g.In w.heap.size w) : ∃ P : World → Int → Int → Prop, (∀ W W2 n e n' e', P W n e → P W2 n' e' → n = n' ∧ e = e') ∧
    (∀ W, Below w.heap.size w W → Calls Try.prog 9 #[g.val] W fun r W' => ∃ n e : Int, P W n e ∧ r = .returned (.tuple #[.int .i64 n, .int .i64 e]) ∧ Below W.heap.size W W') ∧
    (∀ W, Below w.heap.size w W → Calls Try.prog 10 #[g.val] W fun r W' => ∃ n e : Int, P W n e ∧ r = .returned (.tuple #[.int .i64 n, .int .i64 e]) ∧ Below W.heap.size W W') := by
  by_cases h0 : gcheck g.rules = 0
  · refine ⟨fun _ n e => ∃ lf, Least fLe g.rules.length (mst g.rules) lf ∧ WellN g lf n e, ?_, fun W hb => ?_, fun W hb => ?_⟩
    · rintro W W2 n e n' e' ⟨lf, hL, h1⟩ ⟨lf', hL', h1'⟩
      obtain rfl := hL.uniq fLat hL'
      exact wellN_fun h1 h1'
    · refine (well_ok g h0 W (hin.grow hb)).mono ?_
      rintro r W' ⟨lf, hL, n, e, hN, hr, hB⟩
      exact ⟨n, e, ⟨lf, hL, hN⟩, hr, hB⟩
    · refine (rwell_any g h0 W (hin.grow hb)).mono ?_
      rintro r W' ⟨lf, hL, n, e, hN, hr, hB⟩
      exact ⟨n, e, ⟨lf, hL, hN⟩, hr, hB⟩
  · refine ⟨fun _ n e => n = 0 ∧ e = gcheck g.rules, ?_, fun W hb => ?_, fun W hb => ?_⟩
    · rintro W W2 n e n' e' ⟨rfl, rfl⟩ ⟨rfl, rfl⟩
      exact ⟨rfl, rfl⟩
    · refine (well_no g h0 W (hin.grow hb)).mono ?_
      rintro r W' ⟨hr, hB⟩
      exact ⟨0, _, ⟨rfl, rfl⟩, hr, hB⟩
    · refine (rwell_no g h0 W (hin.grow hb)).mono ?_
      rintro r W' ⟨hr, hB⟩
      exact ⟨0, _, ⟨rfl, rfl⟩, hr, hB⟩
set_option maxRecDepth 20000 in
set_option maxHeartbeats 8000000 in
theorem wellSays_any (g : Gr) (w : World) (hin : g.In w.heap.size w) :
    Calls Try.prog 4 #[g.val] w fun r W' => r = .returned (.bool true) ∧ Below w.heap.size w W' := by
  have hA := (Below.refl w.heap.size w).alloc (Nat.le_refl _) (.cells #[.slice g.a g.rules.length g.c] 24)
  obtain ⟨P, HP, h9, h10⟩ := wellBoth g w hin
  have bG := BoxN.new w 24 #[.slice g.a g.rules.length g.c]
  have HN : Hid (∀ {W}, Below (w.alloc (.cells #[.slice g.a g.rules.length g.c] 24)).heap.size (w.alloc (.cells #[.slice g.a g.rules.length g.c] 24)) W → Below w.heap.size w W ∧ BoxN W w.heap.size 24 #[.slice g.a g.rules.length g.c]) := fun h => ⟨hA.trans (h.mono hA.size), bG.below h (by simp)⟩
  have HS : Hid (∀ {W W2 : World}, Below w.heap.size w W ∧ BoxN W w.heap.size 24 #[.slice g.a g.rules.length g.c] → Below W.heap.size W W2 → Below w.heap.size w W2 ∧ BoxN W2 w.heap.size 24 #[.slice g.a g.rules.length g.c]) := fun h hb => ⟨h.1.trans (hb.mono h.1.size), h.2.below hb h.2.lt⟩
  have h9' := h9 _ hA
  rw [gval_eq] at h9' h10 ⊢
  go_enter Try.func4, Try.ntmps4
  go_wp2_with (first
    | (go_at_call 9; refine h9'.mono ?_; rintro e W1 ⟨n1, e1, hP1, rfl, hb1⟩; have k1 := HN.out hb1; have c1 := k1.2.cell 0; simp only [List.getElem?_toArray, List.getElem?_cons_zero] at c1; clear hb1 h9')
    | (go_at_call 10; refine (h10 _ k1.1).mono ?_; rintro e W2 ⟨n2, e2, hP2, rfl, hb2⟩; have k2 := HS.out k1 hb2; obtain ⟨rfl, rfl⟩ := HP _ _ _ _ _ _ hP1 hP2; clear hb2 c1))
  have hn : (n1 == n1) = true := by simp
  have he : (e1 == e1) = true := by simp
  first
    | (go_ret
       exact ⟨rfl, k2.1⟩)
    | exact ⟨rfl, k2.1⟩
end Go.Proofs.Ythcnificamidhaa
