/-
  For every grammar g: with a literal ahead of each Body no rule of it is refused for coming to itself: WellGuards returns true, without conditions.
-/
import Derived.Test.YthcnificamidhaaLawWG
import Derived.Test.YthcnificamidhaaRows
import Derived.Test.YthcnificamidhaaOpenG
import Derived.WalkKit
import Derived.ProofKit
import Derived.OpenShut
import Derived.ShutString
import Derived.ChangeOld
import Derived.Below
import Derived.Carry
import Derived.SizedLaws
namespace Go.Proofs.Ythcnificamidhaa
open Go.ChangeShapes Go.WideShapes Go.ChangeAt Go.RowKit
open Go.ChangeMaps (open_string shut_string)
set_option linter.unusedVariables false

set_option maxRecDepth 20000 in
/-- A grammar that came in has no more rules than lie in 2^47 bytes. -/
theorem gr_len {H : Type} {enc : TypeId × Value → H} {w : World} {g : Gr} {d : DataW H} {ps : List MemPlace}
    (hd : DataW.Trod enc Try.prog w 0 (fun _ => true) true 24 g.val d ps) (hwt : ∀ n ∈ d.weights Try.prog 24, n ≤ reachBytes) : g.rules.length * 96 ≤ 140737488355328 := by
  rw [gval_eq] at hd
  obtain ⟨fuel, hf⟩ := hd
  obtain ⟨xs, n, hn, hx, hlen, hxs, hf⟩ := DataW.trod_struct Try.underlying24 hf
  obtain ⟨x0, rfl⟩ := list1 xs hxs
  have f3 : DataW.trod enc Try.prog w 0 (fun _ => true) true n 22 [.slice g.a g.rules.length g.c] = some x0 := by have := hf 0 _ rfl; simpa [Try.cells22, Value.cells] using this
  have hd' : d = .agg [x0.1] := by simpa using congrArg Prod.fst hx
  subst hd'
  clear hf hlen hxs hx
  rcases DataW.trod_slice Try.underlying22 f3 with ⟨h3, rfl⟩ | ⟨a, len, cap, elems, rest, n', rfl, h3, rfl, hb, hl, hm, hlen, hel, _, _⟩
  · simp at h3
    rw [h3.2.1]; decide
  · simp at h3
    have h1 := hwt ((elems.length + rest.length) * 96) (by simp [DataW.weights, Try.underlying24, Try.underlying22, DataW.weightsEach, Try.bytes47])
    have := reach47
    have h5 : g.rules.length ≤ elems.length + rest.length := by omega
    have := Nat.mul_le_mul_right 96 h5
    omega
theorem wellGuards_own : ownKnob Try.prog.godebug = none := by kernel_rfl

set_option maxRecDepth 100000 in
theorem wellGuards_lifted (os : Os) (started : os.Started) (H : Type) (enc : TypeId × Value → H) :
    ReturnsInHanded {} Try.checked os 5 .any (Rows.wellGuardsSpec.pre6 enc Try.prog Try.f5 Rows.wellGuardsRow.domain false) (Rows.wellGuardsSpec.post enc Try.prog Try.f5 false true false false) := by
  refine returnsInHanded_of_change_sized (C := Try.checked) wellGuards_own started (by kernel_rfl) Try.func5
    (ChangeSpec.witness6 (enc := enc) (C := Try.checked) false ⟨#[], #[.agg #[.slice none 0 0]], []⟩ 8 (by kernel_rfl) (by kernel_rfl) (by kernel_rfl) (by kernel_rfl)) ?_
  intro W base args ds gs before hval0 hW _ hwt _
  have hval : ∀ (j : Nat) t v, Try.f5.params[j]? = some t → args[j]? = some v → Value.okWide Try.prog W .any base t v := hval0
  have hW' := hW
  have hltW := hW'.lt
  obtain ⟨p, q, hA0, hV, rfl, hfz, hnd⟩ := hW
  have hA : DataW.TrodAll enc Try.prog W 0 (fun _ => true) true Try.f5.params.toList args.toList ds p := hA0
  rw [Try.params5] at hA hval
  obtain ⟨v0, vs0, d0, ds0, p0, q0, hargs, rfl, rfl, h0, r0⟩ := trodAll_cons hA
  obtain ⟨rfl, rfl, rfl⟩ := trodAll_nil r0
  obtain rfl : args = #[v0] := by cases args; simp_all
  obtain ⟨rfl, rfl⟩ := trodVars_none hV
  have hw0 : ∀ m ∈ d0.weights Try.prog 24, m ≤ reachBytes := fun m hm => by have := List.all_eq_true.1 hwt _ (DataW.weights_mem_each (j := 0) (t := 24) (d := d0) (by kernel_rfl) rfl m hm); simpa using this
  have hlt0 : ∀ x ∈ p0, x.block < W.heap.size := fun x hx => hltW x (by simp [hx])
  have hk0 := h0
  obtain ⟨g0, rfl, hin0⟩ := open_gr (hval 0 24 v0 rfl rfl) h0 hw0
  have hlen0 := gr_len h0 hw0
  clear hA0 hval0
  refine (wellGuards_any g0 W hin0 hlen0).mono fun e W' ⟨he, bel⟩ => ?_
  subst he
  exact ⟨_, rfl, _, _, _, [], _, [], hW', trodAll_mk1 (shut_bool Try.underlying4 _), (trodAll_cons_mk (Below.trod Try.laidOut (by kernel_rfl) (of_decide_eq_true (by kernel_rfl)) hk0 bel hlt0) trodAll_mk0), rfl, bel.frame _, fun h => by cases h⟩

theorem wellGuards_over : Rows.wellGuardsRow.holds Try.pinned (OpenSpec.ofChange Rows.wellGuardsSpec) :=
  OpenClaim.holds_of_wide 5 Try.f5 rfl rfl rfl rfl rfl rfl rfl ⟨rfl, rfl, rfl, rfl, rfl⟩ rfl rfl rfl rfl rfl (by kernel_rfl) Try.func5 (by kernel_rfl)
    (of_decide_eq_true (by kernel_rfl)) (by unfold Func.isWrapper; first | (rw [if_pos (by decide +kernel)]; kernel_rfl) | (rw [if_neg (by decide +kernel)]; exact ⟨rfl, rfl⟩))
    (fun os started H enc _ => wellGuards_lifted os started H enc)

theorem wellGuards_holds : Rows.WellGuardsSaid := wellGuards_over
end Go.Proofs.Ythcnificamidhaa
