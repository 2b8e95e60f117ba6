/-
  NARROWER THAN 'FOR EVERY INPUT', by the rows' own cells (each row's printed sentence says how): GramChecks: loops · GramNodes: loops · GramPrints: loops · GramReaches: loops.
  DERIVED. THE GIVEN ROWS OF THIS SEAT. 4 by the template 'for every input the law returns true; each argument reads behind the call as it read before'; 0 by the template 'total and deterministic' (their statements: YtbeohmcmphebhaaTotals.lean).
  GIVEN WITH THE SEED: the statements are not yours to turn. If you find one false, say at which input.
  Laid BY PROGRAM, IN A SANDBOX (cutbox-rows.mjs): the forced cells as the released guide's own fill.sh prints them over the translation 142b5e68e9dbad99… (all of the seat's roots in one cut). By AI agents, Wed Nov 11 2026. No macro, syntax, notation, axiom, sorry.
-/
import Derived.Test.YtbeohmcmphebhaaChecked
import GoSem.Claim
import GoSem.ClaimJoined
import GoSem.ClaimMapViews
import Derived.JoinedTies
import Derived.KernelRfl
namespace Go.Proofs.Ytbeohmcmphebhaa
/- THE CELL 'sum', in the pinned program and in every row, IS THE sha256 OF THE DUMP (.gsa) THAT YtbeohmcmphebhaaProg.lean LOADS. Nothing in Lean hashes anything: it is a label: what it is worth is what the hold of that sum in a sandbox is worth. -/
noncomputable def Try.pinned : Pinned := { name := "ytbeohmcmphebhaa", sum := "142b5e68e9dbad994f592325b0dfc75ae6c7401272470905f2957cd5bbccafc8", checked := Try.checked }
namespace Rows
def none {H : Type} : Left H := { results := [], args := [] }

/-- 'chafflaw.GramChecks': WHATEVER THE INPUT: true; the input reads as it did. -/
def gramChecksSpec : ChangeSpec := { name := "gramChecks", fn := fun _ => fun
  | [d1, d2] => { results := [.lit (.bool true)], args := [d1, d2] }
  | _ => none }
def gramChecksRow : OpenClaim := { program := "ytbeohmcmphebhaa", sum := "142b5e68e9dbad994f592325b0dfc75ae6c7401272470905f2957cd5bbccafc8", func := "chaffcutter/chafflaw.GramChecks", spec := "gramChecks", unfollowed := true, recurses := true, loops := true, apart := false }
def GramChecksSaid : Prop := gramChecksRow.holds Try.pinned (OpenSpec.ofChange gramChecksSpec)

/-- ITS FALSE NEIGHBOUR: 'it returns false'. Refute it at one input. -/
def gramChecksWrong : ChangeSpec := { name := "gramChecks", fn := fun _ => fun
  | [d1, d2] => { results := [.lit (.bool false)], args := [d1, d2] }
  | _ => none }
def GramChecksWrongFalsely : Prop := gramChecksRow.holds Try.pinned (OpenSpec.ofChange gramChecksWrong)

/-- 'chafflaw.GramNodes': WHATEVER THE INPUT: true; the input reads as it did. -/
def gramNodesSpec : ChangeSpec := { name := "gramNodes", fn := fun _ => fun
  | [d] => { results := [.lit (.bool true)], args := [d] }
  | _ => none }
def gramNodesRow : OpenClaim := { program := "ytbeohmcmphebhaa", sum := "142b5e68e9dbad994f592325b0dfc75ae6c7401272470905f2957cd5bbccafc8", func := "chaffcutter/chafflaw.GramNodes", spec := "gramNodes", unfollowed := true, recurses := true, loops := true, apart := false }
def GramNodesSaid : Prop := gramNodesRow.holds Try.pinned (OpenSpec.ofChange gramNodesSpec)

/-- ITS FALSE NEIGHBOUR: 'it returns false'. Refute it at one input. -/
def gramNodesWrong : ChangeSpec := { name := "gramNodes", fn := fun _ => fun
  | [d] => { results := [.lit (.bool false)], args := [d] }
  | _ => none }
def GramNodesWrongFalsely : Prop := gramNodesRow.holds Try.pinned (OpenSpec.ofChange gramNodesWrong)

/-- 'chafflaw.GramPrints': WHATEVER THE INPUT: true; the input reads as it did. -/
def gramPrintsSpec : ChangeSpec := { name := "gramPrints", fn := fun _ => fun
  | [d] => { results := [.lit (.bool true)], args := [d] }
  | _ => none }
def gramPrintsRow : OpenClaim := { program := "ytbeohmcmphebhaa", sum := "142b5e68e9dbad994f592325b0dfc75ae6c7401272470905f2957cd5bbccafc8", func := "chaffcutter/chafflaw.GramPrints", spec := "gramPrints", inPlace := ["internal/bytealg.IndexByteString", "internal/bytealg.IndexString", "internal/abi.NoEscape", "internal/bytealg.MakeNoZero"], unfollowed := true, recurses := true, named := ["internal/bytealg.MaxLen"], loops := true, apart := false }
def GramPrintsSaid : Prop := gramPrintsRow.holds Try.pinned (OpenSpec.ofChange gramPrintsSpec)

/-- ITS FALSE NEIGHBOUR: 'it returns false'. Refute it at one input. -/
def gramPrintsWrong : ChangeSpec := { name := "gramPrints", fn := fun _ => fun
  | [d] => { results := [.lit (.bool false)], args := [d] }
  | _ => none }
def GramPrintsWrongFalsely : Prop := gramPrintsRow.holds Try.pinned (OpenSpec.ofChange gramPrintsWrong)

/-- 'chaffkeep.GramReaches': WHATEVER THE INPUT: true; the input reads as it did. -/
def gramReachesSpec : ChangeSpec := { name := "gramReaches", fn := fun _ => fun
  | [d] => { results := [.lit (.bool true)], args := [d] }
  | _ => none }
def gramReachesRow : OpenClaim := { program := "ytbeohmcmphebhaa", sum := "142b5e68e9dbad994f592325b0dfc75ae6c7401272470905f2957cd5bbccafc8", func := "chaffcutter/chaffkeep.GramReaches", spec := "gramReaches", unfollowed := true, recurses := true, loops := true, apart := false }
def GramReachesSaid : Prop := gramReachesRow.holds Try.pinned (OpenSpec.ofChange gramReachesSpec)

/-- ITS FALSE NEIGHBOUR: 'it returns false'. Refute it at one input. -/
def gramReachesWrong : ChangeSpec := { name := "gramReaches", fn := fun _ => fun
  | [d] => { results := [.lit (.bool false)], args := [d] }
  | _ => none }
def GramReachesWrongFalsely : Prop := gramReachesRow.holds Try.pinned (OpenSpec.ofChange gramReachesWrong)

/- THE SECOND FORM. 'bulk': how many values and letters a reading holds, each counted each time it is reached (what is shared counts as often as it is met; a slice's spare places count too). A statement '..UptoSaid' is the law's where the arguments, and the package variables that the reading takes, are together of bulk at most 1048576: NARROWER than '..Said'. Prove '..Said' where nothing that the law and all that it calls make is longer than what came in: it says more and counts as full. Else prove '..UptoSaid'. A law counts once. -/
mutual
def uptoBulk {H : Type} : DataW H → Nat
  | .lit (.string bytes) => bytes.length + 1
  | .lit _ => 1
  | .nil => 1
  | .ptr d => uptoBulk d + 1
  | .slice elems spare => uptoBulkAll elems + uptoBulkAll spare + 1
  | .agg parts => uptoBulkAll parts + 1
  | .iface _ d => uptoBulk d + 1
  | .map entries => uptoBulkEntries entries + 1
  | .held _ => 1
def uptoBulkAll {H : Type} : List (DataW H) → Nat
  | [] => 0
  | d :: r => uptoBulk d + uptoBulkAll r
def uptoBulkEntries {H : Type} : List (Lit × DataW H) → Nat
  | [] => 0
  | x :: r => uptoBulkEntry x + uptoBulkEntries r
def uptoBulkEntry {H : Type} : Lit × DataW H → Nat
  | (.string bytes, d) => bytes.length + uptoBulk d + 1
  | (_, d) => uptoBulk d + 1
 end
def uptoSmall : (H : Type) → List (DataW H) → Bool := fun _ ds => decide (uptoBulkAll ds ≤ 1048576)
def OpenSpec.upto (s : _root_.Go.ChangeSpec) : _root_.Go.OpenSpec := { _root_.Go.OpenSpec.ofChange s with cond := some uptoSmall }

/-- 'chafflaw.GramChecks', WHERE WHAT IT READS IS OF BULK AT MOST 1048576: true; the input reads as it did. -/
def gramChecksUptoRow : OpenClaim := { program := "ytbeohmcmphebhaa", sum := "142b5e68e9dbad994f592325b0dfc75ae6c7401272470905f2957cd5bbccafc8", func := "chaffcutter/chafflaw.GramChecks", spec := "gramChecks", unfollowed := true, recurses := true, loops := true, apart := false, narrowed := true }
def GramChecksUptoSaid : Prop := gramChecksUptoRow.holds Try.pinned (OpenSpec.upto gramChecksSpec)

/-- 'chafflaw.GramNodes', WHERE WHAT IT READS IS OF BULK AT MOST 1048576: true; the input reads as it did. -/
def gramNodesUptoRow : OpenClaim := { program := "ytbeohmcmphebhaa", sum := "142b5e68e9dbad994f592325b0dfc75ae6c7401272470905f2957cd5bbccafc8", func := "chaffcutter/chafflaw.GramNodes", spec := "gramNodes", unfollowed := true, recurses := true, loops := true, apart := false, narrowed := true }
def GramNodesUptoSaid : Prop := gramNodesUptoRow.holds Try.pinned (OpenSpec.upto gramNodesSpec)

/-- 'chafflaw.GramPrints', WHERE WHAT IT READS IS OF BULK AT MOST 1048576: true; the input reads as it did. -/
def gramPrintsUptoRow : OpenClaim := { program := "ytbeohmcmphebhaa", sum := "142b5e68e9dbad994f592325b0dfc75ae6c7401272470905f2957cd5bbccafc8", func := "chaffcutter/chafflaw.GramPrints", spec := "gramPrints", inPlace := ["internal/bytealg.IndexByteString", "internal/bytealg.IndexString", "internal/abi.NoEscape", "internal/bytealg.MakeNoZero"], unfollowed := true, recurses := true, named := ["internal/bytealg.MaxLen"], loops := true, apart := false, narrowed := true }
def GramPrintsUptoSaid : Prop := gramPrintsUptoRow.holds Try.pinned (OpenSpec.upto gramPrintsSpec)

/-- 'chaffkeep.GramReaches', WHERE WHAT IT READS IS OF BULK AT MOST 1048576: true; the input reads as it did. -/
def gramReachesUptoRow : OpenClaim := { program := "ytbeohmcmphebhaa", sum := "142b5e68e9dbad994f592325b0dfc75ae6c7401272470905f2957cd5bbccafc8", func := "chaffcutter/chaffkeep.GramReaches", spec := "gramReaches", unfollowed := true, recurses := true, loops := true, apart := false, narrowed := true }
def GramReachesUptoSaid : Prop := gramReachesUptoRow.holds Try.pinned (OpenSpec.upto gramReachesSpec)

end Rows
end Go.Proofs.Ytbeohmcmphebhaa
