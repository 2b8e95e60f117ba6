/-
  NARROWER THAN 'FOR EVERY INPUT', by the rows' own cells (each row's printed sentence says how): WellFacts: loops · WellSays: loops · WellGuards: loops.
  DERIVED. THE GIVEN ROWS OF THIS SEAT. 3 by the template 'for every input the law returns true; each argument reads behind the call as it read before'; 0 by the template 'total and deterministic' (their statements: YthcnificamidhaaTotals.lean).
  GIVEN WITH THE SEED: the statements are not yours to turn. If you find one false, say at which input.
  Laid BY PROGRAM, IN A SANDBOX (cutbox-rows.mjs): the forced cells as the released guide's own fill.sh prints them over the translation 0daa0155fa90eefc… (all of the seat's roots in one cut). By AI agents, Wed Nov 11 2026. No macro, syntax, notation, axiom, sorry.
-/
import Derived.Test.YthcnificamidhaaChecked
import GoSem.Claim
import GoSem.ClaimJoined
import GoSem.ClaimMapViews
import Derived.JoinedTies
import Derived.KernelRfl
namespace Go.Proofs.Ythcnificamidhaa
/- THE CELL 'sum', in the pinned program and in every row, IS THE sha256 OF THE DUMP (.gsa) THAT YthcnificamidhaaProg.lean LOADS. Nothing in Lean hashes anything: it is a label: what it is worth is what the hold of that sum in a sandbox is worth. -/
noncomputable def Try.pinned : Pinned := { name := "ythcnificamidhaa", sum := "0daa0155fa90eefc16a68d3ac6c8eafe818340874685275625318ad0dd436062", checked := Try.checked }
namespace Rows
def none {H : Type} : Left H := { results := [], args := [] }

/-- 'chafflaw.WellFacts': WHATEVER THE INPUT: true; the input reads as it did. -/
def wellFactsSpec : ChangeSpec := { name := "wellFacts", fn := fun _ => fun
  | [d] => { results := [.lit (.bool true)], args := [d] }
  | _ => none }
def wellFactsRow : OpenClaim := { program := "ythcnificamidhaa", sum := "0daa0155fa90eefc16a68d3ac6c8eafe818340874685275625318ad0dd436062", func := "chaffcutter/chafflaw.WellFacts", spec := "wellFacts", unfollowed := true, recurses := true, loops := true, apart := false }
def WellFactsSaid : Prop := wellFactsRow.holds Try.pinned (OpenSpec.ofChange wellFactsSpec)

/-- ITS FALSE NEIGHBOUR: 'it returns false'. Refute it at one input. -/
def wellFactsWrong : ChangeSpec := { name := "wellFacts", fn := fun _ => fun
  | [d] => { results := [.lit (.bool false)], args := [d] }
  | _ => none }
def WellFactsWrongFalsely : Prop := wellFactsRow.holds Try.pinned (OpenSpec.ofChange wellFactsWrong)

/-- 'chafflaw.WellSays': WHATEVER THE INPUT: true; the input reads as it did. -/
def wellSaysSpec : ChangeSpec := { name := "wellSays", fn := fun _ => fun
  | [d] => { results := [.lit (.bool true)], args := [d] }
  | _ => none }
def wellSaysRow : OpenClaim := { program := "ythcnificamidhaa", sum := "0daa0155fa90eefc16a68d3ac6c8eafe818340874685275625318ad0dd436062", func := "chaffcutter/chafflaw.WellSays", spec := "wellSays", unfollowed := true, recurses := true, loops := true, apart := false }
def WellSaysSaid : Prop := wellSaysRow.holds Try.pinned (OpenSpec.ofChange wellSaysSpec)

/-- ITS FALSE NEIGHBOUR: 'it returns false'. Refute it at one input. -/
def wellSaysWrong : ChangeSpec := { name := "wellSays", fn := fun _ => fun
  | [d] => { results := [.lit (.bool false)], args := [d] }
  | _ => none }
def WellSaysWrongFalsely : Prop := wellSaysRow.holds Try.pinned (OpenSpec.ofChange wellSaysWrong)

/-- 'chaffkeep.WellGuards': WHATEVER THE INPUT: true; the input reads as it did. -/
def wellGuardsSpec : ChangeSpec := { name := "wellGuards", fn := fun _ => fun
  | [d] => { results := [.lit (.bool true)], args := [d] }
  | _ => none }
def wellGuardsRow : OpenClaim := { program := "ythcnificamidhaa", sum := "0daa0155fa90eefc16a68d3ac6c8eafe818340874685275625318ad0dd436062", func := "chaffcutter/chaffkeep.WellGuards", spec := "wellGuards", unfollowed := true, recurses := true, loops := true, apart := false }
def WellGuardsSaid : Prop := wellGuardsRow.holds Try.pinned (OpenSpec.ofChange wellGuardsSpec)

/-- ITS FALSE NEIGHBOUR: 'it returns false'. Refute it at one input. -/
def wellGuardsWrong : ChangeSpec := { name := "wellGuards", fn := fun _ => fun
  | [d] => { results := [.lit (.bool false)], args := [d] }
  | _ => none }
def WellGuardsWrongFalsely : Prop := wellGuardsRow.holds Try.pinned (OpenSpec.ofChange wellGuardsWrong)

/- THE SECOND FORM. 'bulk': how many values and letters a reading holds, each counted each time it is reached (what is shared counts as often as it is met; a slice's spare places count too). A statement '..UptoSaid' is the law's where the arguments, and the package variables that the reading takes, are together of bulk at most 1048576: NARROWER than '..Said'. Prove '..Said' where nothing that the law and all that it calls make is longer than what came in: it says more and counts as full. Else prove '..UptoSaid'. A law counts once. -/
mutual
def uptoBulk {H : Type} : DataW H → Nat
  | .lit (.string bytes) => bytes.length + 1
  | .lit _ => 1
  | .nil => 1
  | .ptr d => uptoBulk d + 1
  | .slice elems spare => uptoBulkAll elems + uptoBulkAll spare + 1
  | .agg parts => uptoBulkAll parts + 1
  | .iface _ d => uptoBulk d + 1
  | .map entries => uptoBulkEntries entries + 1
  | .held _ => 1
def uptoBulkAll {H : Type} : List (DataW H) → Nat
  | [] => 0
  | d :: r => uptoBulk d + uptoBulkAll r
def uptoBulkEntries {H : Type} : List (Lit × DataW H) → Nat
  | [] => 0
  | x :: r => uptoBulkEntry x + uptoBulkEntries r
def uptoBulkEntry {H : Type} : Lit × DataW H → Nat
  | (.string bytes, d) => bytes.length + uptoBulk d + 1
  | (_, d) => uptoBulk d + 1
 end
def uptoSmall : (H : Type) → List (DataW H) → Bool := fun _ ds => decide (uptoBulkAll ds ≤ 1048576)
def OpenSpec.upto (s : _root_.Go.ChangeSpec) : _root_.Go.OpenSpec := { _root_.Go.OpenSpec.ofChange s with cond := some uptoSmall }

/-- 'chafflaw.WellFacts', WHERE WHAT IT READS IS OF BULK AT MOST 1048576: true; the input reads as it did. -/
def wellFactsUptoRow : OpenClaim := { program := "ythcnificamidhaa", sum := "0daa0155fa90eefc16a68d3ac6c8eafe818340874685275625318ad0dd436062", func := "chaffcutter/chafflaw.WellFacts", spec := "wellFacts", unfollowed := true, recurses := true, loops := true, apart := false, narrowed := true }
def WellFactsUptoSaid : Prop := wellFactsUptoRow.holds Try.pinned (OpenSpec.upto wellFactsSpec)

/-- 'chafflaw.WellSays', WHERE WHAT IT READS IS OF BULK AT MOST 1048576: true; the input reads as it did. -/
def wellSaysUptoRow : OpenClaim := { program := "ythcnificamidhaa", sum := "0daa0155fa90eefc16a68d3ac6c8eafe818340874685275625318ad0dd436062", func := "chaffcutter/chafflaw.WellSays", spec := "wellSays", unfollowed := true, recurses := true, loops := true, apart := false, narrowed := true }
def WellSaysUptoSaid : Prop := wellSaysUptoRow.holds Try.pinned (OpenSpec.upto wellSaysSpec)

/-- 'chaffkeep.WellGuards', WHERE WHAT IT READS IS OF BULK AT MOST 1048576: true; the input reads as it did. -/
def wellGuardsUptoRow : OpenClaim := { program := "ythcnificamidhaa", sum := "0daa0155fa90eefc16a68d3ac6c8eafe818340874685275625318ad0dd436062", func := "chaffcutter/chaffkeep.WellGuards", spec := "wellGuards", unfollowed := true, recurses := true, loops := true, apart := false, narrowed := true }
def WellGuardsUptoSaid : Prop := wellGuardsUptoRow.holds Try.pinned (OpenSpec.upto wellGuardsSpec)

end Rows
end Go.Proofs.Ythcnificamidhaa
