/-
  NARROWER THAN 'FOR EVERY INPUT', by the rows' own cells (each row's printed sentence says how): MeanLooks: loops · MeanRuns: loops · PackRuns: loops · PackAts: loops · WellTold: loops · WellEnds: loops · WellNames: loops · MeanMore: loops · MeanSame: loops · PackOnce: loops · PackMisses: loops.
  DERIVED. THE GIVEN ROWS OF THIS SEAT. 11 by the template 'for every input the law returns true; each argument reads behind the call as it read before'; 0 by the template 'total and deterministic' (their statements: YtokdaapmejccbaaTotals.lean).
  GIVEN WITH THE SEED: the statements are not yours to turn. If you find one false, say at which input.
  Laid BY PROGRAM, IN A SANDBOX (cutbox-rows.mjs): the forced cells as the released guide's own fill.sh prints them over the translation a5fb8374495e7805… (all of the seat's roots in one cut). By AI agents, Wed Nov 11 2026. No macro, syntax, notation, axiom, sorry.
-/
import Derived.Test.YtokdaapmejccbaaChecked
import GoSem.Claim
import GoSem.ClaimJoined
import GoSem.ClaimMapViews
import Derived.JoinedTies
import Derived.KernelRfl
namespace Go.Proofs.Ytokdaapmejccbaa
/- THE CELL 'sum', in the pinned program and in every row, IS THE sha256 OF THE DUMP (.gsa) THAT YtokdaapmejccbaaProg.lean LOADS. Nothing in Lean hashes anything: it is a label: what it is worth is what the hold of that sum in a sandbox is worth. -/
noncomputable def Try.pinned : Pinned := { name := "ytokdaapmejccbaa", sum := "a5fb8374495e7805239a6b299a2826338a5ce92a280b5089166672fa6af60504", checked := Try.checked }
namespace Rows
def none {H : Type} : Left H := { results := [], args := [] }

/-- 'chafflaw.MeanLooks': WHATEVER THE INPUT: true; the input reads as it did. -/
def meanLooksSpec : ChangeSpec := { name := "meanLooks", fn := fun _ => fun
  | [d1, d2] => { results := [.lit (.bool true)], args := [d1, d2] }
  | _ => none }
def meanLooksRow : OpenClaim := { program := "ytokdaapmejccbaa", sum := "a5fb8374495e7805239a6b299a2826338a5ce92a280b5089166672fa6af60504", func := "chaffcutter/chafflaw.MeanLooks", spec := "meanLooks", unfollowed := true, recurses := true, loops := true, plainKeys := false, apart := false }
def MeanLooksSaid : Prop := meanLooksRow.holds Try.pinned (OpenSpec.ofChange meanLooksSpec)

/-- ITS FALSE NEIGHBOUR: 'it returns false'. Refute it at one input. -/
def meanLooksWrong : ChangeSpec := { name := "meanLooks", fn := fun _ => fun
  | [d1, d2] => { results := [.lit (.bool false)], args := [d1, d2] }
  | _ => none }
def MeanLooksWrongFalsely : Prop := meanLooksRow.holds Try.pinned (OpenSpec.ofChange meanLooksWrong)

/-- 'chafflaw.MeanRuns': WHATEVER THE INPUT: true; the input reads as it did. -/
def meanRunsSpec : ChangeSpec := { name := "meanRuns", fn := fun _ => fun
  | [d1, d2, d3] => { results := [.lit (.bool true)], args := [d1, d2, d3] }
  | _ => none }
def meanRunsRow : OpenClaim := { program := "ytokdaapmejccbaa", sum := "a5fb8374495e7805239a6b299a2826338a5ce92a280b5089166672fa6af60504", func := "chaffcutter/chafflaw.MeanRuns", spec := "meanRuns", unfollowed := true, recurses := true, loops := true, plainKeys := false, apart := false }
def MeanRunsSaid : Prop := meanRunsRow.holds Try.pinned (OpenSpec.ofChange meanRunsSpec)

/-- ITS FALSE NEIGHBOUR: 'it returns false'. Refute it at one input. -/
def meanRunsWrong : ChangeSpec := { name := "meanRuns", fn := fun _ => fun
  | [d1, d2, d3] => { results := [.lit (.bool false)], args := [d1, d2, d3] }
  | _ => none }
def MeanRunsWrongFalsely : Prop := meanRunsRow.holds Try.pinned (OpenSpec.ofChange meanRunsWrong)

/-- 'chafflaw.PackRuns': WHATEVER THE INPUT: true; the input reads as it did. -/
def packRunsSpec : ChangeSpec := { name := "packRuns", fn := fun _ => fun
  | [d1, d2] => { results := [.lit (.bool true)], args := [d1, d2] }
  | _ => none }
def packRunsRow : OpenClaim := { program := "ytokdaapmejccbaa", sum := "a5fb8374495e7805239a6b299a2826338a5ce92a280b5089166672fa6af60504", func := "chaffcutter/chafflaw.PackRuns", spec := "packRuns", unfollowed := true, recurses := true, loops := true, plainKeys := false, apart := false }
def PackRunsSaid : Prop := packRunsRow.holds Try.pinned (OpenSpec.ofChange packRunsSpec)

/-- ITS FALSE NEIGHBOUR: 'it returns false'. Refute it at one input. -/
def packRunsWrong : ChangeSpec := { name := "packRuns", fn := fun _ => fun
  | [d1, d2] => { results := [.lit (.bool false)], args := [d1, d2] }
  | _ => none }
def PackRunsWrongFalsely : Prop := packRunsRow.holds Try.pinned (OpenSpec.ofChange packRunsWrong)

/-- 'chafflaw.PackAts': WHATEVER THE INPUT: true; the input reads as it did. -/
def packAtsSpec : ChangeSpec := { name := "packAts", fn := fun _ => fun
  | [d1, d2, d3, d4] => { results := [.lit (.bool true)], args := [d1, d2, d3, d4] }
  | _ => none }
def packAtsRow : OpenClaim := { program := "ytokdaapmejccbaa", sum := "a5fb8374495e7805239a6b299a2826338a5ce92a280b5089166672fa6af60504", func := "chaffcutter/chafflaw.PackAts", spec := "packAts", unfollowed := true, recurses := true, loops := true, plainKeys := false, apart := false }
def PackAtsSaid : Prop := packAtsRow.holds Try.pinned (OpenSpec.ofChange packAtsSpec)

/-- ITS FALSE NEIGHBOUR: 'it returns false'. Refute it at one input. -/
def packAtsWrong : ChangeSpec := { name := "packAts", fn := fun _ => fun
  | [d1, d2, d3, d4] => { results := [.lit (.bool false)], args := [d1, d2, d3, d4] }
  | _ => none }
def PackAtsWrongFalsely : Prop := packAtsRow.holds Try.pinned (OpenSpec.ofChange packAtsWrong)

/-- 'chaffkeep.WellTold': WHATEVER THE INPUT: true; the input reads as it did. -/
def wellToldSpec : ChangeSpec := { name := "wellTold", fn := fun _ => fun
  | [d1, d2, d3, d4] => { results := [.lit (.bool true)], args := [d1, d2, d3, d4] }
  | _ => none }
def wellToldRow : OpenClaim := { program := "ytokdaapmejccbaa", sum := "a5fb8374495e7805239a6b299a2826338a5ce92a280b5089166672fa6af60504", func := "chaffcutter/chaffkeep.WellTold", spec := "wellTold", unfollowed := true, recurses := true, loops := true, plainKeys := false, apart := false }
def WellToldSaid : Prop := wellToldRow.holds Try.pinned (OpenSpec.ofChange wellToldSpec)

/-- ITS FALSE NEIGHBOUR: 'it returns false'. Refute it at one input. -/
def wellToldWrong : ChangeSpec := { name := "wellTold", fn := fun _ => fun
  | [d1, d2, d3, d4] => { results := [.lit (.bool false)], args := [d1, d2, d3, d4] }
  | _ => none }
def WellToldWrongFalsely : Prop := wellToldRow.holds Try.pinned (OpenSpec.ofChange wellToldWrong)

/-- 'chaffkeep.WellEnds': WHATEVER THE INPUT: true; the input reads as it did. -/
def wellEndsSpec : ChangeSpec := { name := "wellEnds", fn := fun _ => fun
  | [d1, d2] => { results := [.lit (.bool true)], args := [d1, d2] }
  | _ => none }
def wellEndsRow : OpenClaim := { program := "ytokdaapmejccbaa", sum := "a5fb8374495e7805239a6b299a2826338a5ce92a280b5089166672fa6af60504", func := "chaffcutter/chaffkeep.WellEnds", spec := "wellEnds", unfollowed := true, recurses := true, loops := true, plainKeys := false, apart := false }
def WellEndsSaid : Prop := wellEndsRow.holds Try.pinned (OpenSpec.ofChange wellEndsSpec)

/-- ITS FALSE NEIGHBOUR: 'it returns false'. Refute it at one input. -/
def wellEndsWrong : ChangeSpec := { name := "wellEnds", fn := fun _ => fun
  | [d1, d2] => { results := [.lit (.bool false)], args := [d1, d2] }
  | _ => none }
def WellEndsWrongFalsely : Prop := wellEndsRow.holds Try.pinned (OpenSpec.ofChange wellEndsWrong)

/-- 'chaffkeep.WellNames': WHATEVER THE INPUT: true; the input reads as it did. -/
def wellNamesSpec : ChangeSpec := { name := "wellNames", fn := fun _ => fun
  | [d1, d2, d3, d4] => { results := [.lit (.bool true)], args := [d1, d2, d3, d4] }
  | _ => none }
def wellNamesRow : OpenClaim := { program := "ytokdaapmejccbaa", sum := "a5fb8374495e7805239a6b299a2826338a5ce92a280b5089166672fa6af60504", func := "chaffcutter/chaffkeep.WellNames", spec := "wellNames", inPlace := ["internal/abi.NoEscape", "internal/bytealg.MakeNoZero"], unfollowed := true, recurses := true, loops := true, plainKeys := false, apart := false }
def WellNamesSaid : Prop := wellNamesRow.holds Try.pinned (OpenSpec.ofChange wellNamesSpec)

/-- ITS FALSE NEIGHBOUR: 'it returns false'. Refute it at one input. -/
def wellNamesWrong : ChangeSpec := { name := "wellNames", fn := fun _ => fun
  | [d1, d2, d3, d4] => { results := [.lit (.bool false)], args := [d1, d2, d3, d4] }
  | _ => none }
def WellNamesWrongFalsely : Prop := wellNamesRow.holds Try.pinned (OpenSpec.ofChange wellNamesWrong)

/-- 'chaffkeep.MeanMore': WHATEVER THE INPUT: true; the input reads as it did. -/
def meanMoreSpec : ChangeSpec := { name := "meanMore", fn := fun _ => fun
  | [d1, d2, d3] => { results := [.lit (.bool true)], args := [d1, d2, d3] }
  | _ => none }
def meanMoreRow : OpenClaim := { program := "ytokdaapmejccbaa", sum := "a5fb8374495e7805239a6b299a2826338a5ce92a280b5089166672fa6af60504", func := "chaffcutter/chaffkeep.MeanMore", spec := "meanMore", unfollowed := true, recurses := true, loops := true, plainKeys := false, apart := false }
def MeanMoreSaid : Prop := meanMoreRow.holds Try.pinned (OpenSpec.ofChange meanMoreSpec)

/-- ITS FALSE NEIGHBOUR: 'it returns false'. Refute it at one input. -/
def meanMoreWrong : ChangeSpec := { name := "meanMore", fn := fun _ => fun
  | [d1, d2, d3] => { results := [.lit (.bool false)], args := [d1, d2, d3] }
  | _ => none }
def MeanMoreWrongFalsely : Prop := meanMoreRow.holds Try.pinned (OpenSpec.ofChange meanMoreWrong)

/-- 'chaffkeep.MeanSame': WHATEVER THE INPUT: true; the input reads as it did. -/
def meanSameSpec : ChangeSpec := { name := "meanSame", fn := fun _ => fun
  | [d1, d2] => { results := [.lit (.bool true)], args := [d1, d2] }
  | _ => none }
def meanSameRow : OpenClaim := { program := "ytokdaapmejccbaa", sum := "a5fb8374495e7805239a6b299a2826338a5ce92a280b5089166672fa6af60504", func := "chaffcutter/chaffkeep.MeanSame", spec := "meanSame", unfollowed := true, recurses := true, loops := true, plainKeys := false, apart := false }
def MeanSameSaid : Prop := meanSameRow.holds Try.pinned (OpenSpec.ofChange meanSameSpec)

/-- ITS FALSE NEIGHBOUR: 'it returns false'. Refute it at one input. -/
def meanSameWrong : ChangeSpec := { name := "meanSame", fn := fun _ => fun
  | [d1, d2] => { results := [.lit (.bool false)], args := [d1, d2] }
  | _ => none }
def MeanSameWrongFalsely : Prop := meanSameRow.holds Try.pinned (OpenSpec.ofChange meanSameWrong)

/-- 'chaffkeep.PackOnce': WHATEVER THE INPUT: true; the input reads as it did. -/
def packOnceSpec : ChangeSpec := { name := "packOnce", fn := fun _ => fun
  | [d1, d2] => { results := [.lit (.bool true)], args := [d1, d2] }
  | _ => none }
def packOnceRow : OpenClaim := { program := "ytokdaapmejccbaa", sum := "a5fb8374495e7805239a6b299a2826338a5ce92a280b5089166672fa6af60504", func := "chaffcutter/chaffkeep.PackOnce", spec := "packOnce", unfollowed := true, recurses := true, loops := true, plainKeys := false, apart := false }
def PackOnceSaid : Prop := packOnceRow.holds Try.pinned (OpenSpec.ofChange packOnceSpec)

/-- ITS FALSE NEIGHBOUR: 'it returns false'. Refute it at one input. -/
def packOnceWrong : ChangeSpec := { name := "packOnce", fn := fun _ => fun
  | [d1, d2] => { results := [.lit (.bool false)], args := [d1, d2] }
  | _ => none }
def PackOnceWrongFalsely : Prop := packOnceRow.holds Try.pinned (OpenSpec.ofChange packOnceWrong)

/-- 'chaffkeep.PackMisses': WHATEVER THE INPUT: true; the input reads as it did. -/
def packMissesSpec : ChangeSpec := { name := "packMisses", fn := fun _ => fun
  | [d1, d2] => { results := [.lit (.bool true)], args := [d1, d2] }
  | _ => none }
def packMissesRow : OpenClaim := { program := "ytokdaapmejccbaa", sum := "a5fb8374495e7805239a6b299a2826338a5ce92a280b5089166672fa6af60504", func := "chaffcutter/chaffkeep.PackMisses", spec := "packMisses", unfollowed := true, recurses := true, loops := true, plainKeys := false, apart := false }
def PackMissesSaid : Prop := packMissesRow.holds Try.pinned (OpenSpec.ofChange packMissesSpec)

/-- ITS FALSE NEIGHBOUR: 'it returns false'. Refute it at one input. -/
def packMissesWrong : ChangeSpec := { name := "packMisses", fn := fun _ => fun
  | [d1, d2] => { results := [.lit (.bool false)], args := [d1, d2] }
  | _ => none }
def PackMissesWrongFalsely : Prop := packMissesRow.holds Try.pinned (OpenSpec.ofChange packMissesWrong)

/- THE SECOND FORM. 'bulk': how many values and letters a reading holds, each counted each time it is reached (what is shared counts as often as it is met; a slice's spare places count too). A statement '..UptoSaid' is the law's where the arguments, and the package variables that the reading takes, are together of bulk at most 1048576: NARROWER than '..Said'. Prove '..Said' where nothing that the law and all that it calls make is longer than what came in: it says more and counts as full. Else prove '..UptoSaid'. A law counts once. -/
mutual
def uptoBulk {H : Type} : DataW H → Nat
  | .lit (.string bytes) => bytes.length + 1
  | .lit _ => 1
  | .nil => 1
  | .ptr d => uptoBulk d + 1
  | .slice elems spare => uptoBulkAll elems + uptoBulkAll spare + 1
  | .agg parts => uptoBulkAll parts + 1
  | .iface _ d => uptoBulk d + 1
  | .map entries => uptoBulkEntries entries + 1
  | .held _ => 1
def uptoBulkAll {H : Type} : List (DataW H) → Nat
  | [] => 0
  | d :: r => uptoBulk d + uptoBulkAll r
def uptoBulkEntries {H : Type} : List (Lit × DataW H) → Nat
  | [] => 0
  | x :: r => uptoBulkEntry x + uptoBulkEntries r
def uptoBulkEntry {H : Type} : Lit × DataW H → Nat
  | (.string bytes, d) => bytes.length + uptoBulk d + 1
  | (_, d) => uptoBulk d + 1
 end
def uptoSmall : (H : Type) → List (DataW H) → Bool := fun _ ds => decide (uptoBulkAll ds ≤ 1048576)
def OpenSpec.upto (s : _root_.Go.ChangeSpec) : _root_.Go.OpenSpec := { _root_.Go.OpenSpec.ofChange s with cond := some uptoSmall }

/-- 'chafflaw.MeanLooks', WHERE WHAT IT READS IS OF BULK AT MOST 1048576: true; the input reads as it did. -/
def meanLooksUptoRow : OpenClaim := { program := "ytokdaapmejccbaa", sum := "a5fb8374495e7805239a6b299a2826338a5ce92a280b5089166672fa6af60504", func := "chaffcutter/chafflaw.MeanLooks", spec := "meanLooks", unfollowed := true, recurses := true, loops := true, plainKeys := false, apart := false, narrowed := true }
def MeanLooksUptoSaid : Prop := meanLooksUptoRow.holds Try.pinned (OpenSpec.upto meanLooksSpec)

/-- 'chafflaw.MeanRuns', WHERE WHAT IT READS IS OF BULK AT MOST 1048576: true; the input reads as it did. -/
def meanRunsUptoRow : OpenClaim := { program := "ytokdaapmejccbaa", sum := "a5fb8374495e7805239a6b299a2826338a5ce92a280b5089166672fa6af60504", func := "chaffcutter/chafflaw.MeanRuns", spec := "meanRuns", unfollowed := true, recurses := true, loops := true, plainKeys := false, apart := false, narrowed := true }
def MeanRunsUptoSaid : Prop := meanRunsUptoRow.holds Try.pinned (OpenSpec.upto meanRunsSpec)

/-- 'chafflaw.PackRuns', WHERE WHAT IT READS IS OF BULK AT MOST 1048576: true; the input reads as it did. -/
def packRunsUptoRow : OpenClaim := { program := "ytokdaapmejccbaa", sum := "a5fb8374495e7805239a6b299a2826338a5ce92a280b5089166672fa6af60504", func := "chaffcutter/chafflaw.PackRuns", spec := "packRuns", unfollowed := true, recurses := true, loops := true, plainKeys := false, apart := false, narrowed := true }
def PackRunsUptoSaid : Prop := packRunsUptoRow.holds Try.pinned (OpenSpec.upto packRunsSpec)

/-- 'chafflaw.PackAts', WHERE WHAT IT READS IS OF BULK AT MOST 1048576: true; the input reads as it did. -/
def packAtsUptoRow : OpenClaim := { program := "ytokdaapmejccbaa", sum := "a5fb8374495e7805239a6b299a2826338a5ce92a280b5089166672fa6af60504", func := "chaffcutter/chafflaw.PackAts", spec := "packAts", unfollowed := true, recurses := true, loops := true, plainKeys := false, apart := false, narrowed := true }
def PackAtsUptoSaid : Prop := packAtsUptoRow.holds Try.pinned (OpenSpec.upto packAtsSpec)

/-- 'chaffkeep.WellTold', WHERE WHAT IT READS IS OF BULK AT MOST 1048576: true; the input reads as it did. -/
def wellToldUptoRow : OpenClaim := { program := "ytokdaapmejccbaa", sum := "a5fb8374495e7805239a6b299a2826338a5ce92a280b5089166672fa6af60504", func := "chaffcutter/chaffkeep.WellTold", spec := "wellTold", unfollowed := true, recurses := true, loops := true, plainKeys := false, apart := false, narrowed := true }
def WellToldUptoSaid : Prop := wellToldUptoRow.holds Try.pinned (OpenSpec.upto wellToldSpec)

/-- 'chaffkeep.WellEnds', WHERE WHAT IT READS IS OF BULK AT MOST 1048576: true; the input reads as it did. -/
def wellEndsUptoRow : OpenClaim := { program := "ytokdaapmejccbaa", sum := "a5fb8374495e7805239a6b299a2826338a5ce92a280b5089166672fa6af60504", func := "chaffcutter/chaffkeep.WellEnds", spec := "wellEnds", unfollowed := true, recurses := true, loops := true, plainKeys := false, apart := false, narrowed := true }
def WellEndsUptoSaid : Prop := wellEndsUptoRow.holds Try.pinned (OpenSpec.upto wellEndsSpec)

/-- 'chaffkeep.WellNames', WHERE WHAT IT READS IS OF BULK AT MOST 1048576: true; the input reads as it did. -/
def wellNamesUptoRow : OpenClaim := { program := "ytokdaapmejccbaa", sum := "a5fb8374495e7805239a6b299a2826338a5ce92a280b5089166672fa6af60504", func := "chaffcutter/chaffkeep.WellNames", spec := "wellNames", inPlace := ["internal/abi.NoEscape", "internal/bytealg.MakeNoZero"], unfollowed := true, recurses := true, loops := true, plainKeys := false, apart := false, narrowed := true }
def WellNamesUptoSaid : Prop := wellNamesUptoRow.holds Try.pinned (OpenSpec.upto wellNamesSpec)

/-- 'chaffkeep.MeanMore', WHERE WHAT IT READS IS OF BULK AT MOST 1048576: true; the input reads as it did. -/
def meanMoreUptoRow : OpenClaim := { program := "ytokdaapmejccbaa", sum := "a5fb8374495e7805239a6b299a2826338a5ce92a280b5089166672fa6af60504", func := "chaffcutter/chaffkeep.MeanMore", spec := "meanMore", unfollowed := true, recurses := true, loops := true, plainKeys := false, apart := false, narrowed := true }
def MeanMoreUptoSaid : Prop := meanMoreUptoRow.holds Try.pinned (OpenSpec.upto meanMoreSpec)

/-- 'chaffkeep.MeanSame', WHERE WHAT IT READS IS OF BULK AT MOST 1048576: true; the input reads as it did. -/
def meanSameUptoRow : OpenClaim := { program := "ytokdaapmejccbaa", sum := "a5fb8374495e7805239a6b299a2826338a5ce92a280b5089166672fa6af60504", func := "chaffcutter/chaffkeep.MeanSame", spec := "meanSame", unfollowed := true, recurses := true, loops := true, plainKeys := false, apart := false, narrowed := true }
def MeanSameUptoSaid : Prop := meanSameUptoRow.holds Try.pinned (OpenSpec.upto meanSameSpec)

/-- 'chaffkeep.PackOnce', WHERE WHAT IT READS IS OF BULK AT MOST 1048576: true; the input reads as it did. -/
def packOnceUptoRow : OpenClaim := { program := "ytokdaapmejccbaa", sum := "a5fb8374495e7805239a6b299a2826338a5ce92a280b5089166672fa6af60504", func := "chaffcutter/chaffkeep.PackOnce", spec := "packOnce", unfollowed := true, recurses := true, loops := true, plainKeys := false, apart := false, narrowed := true }
def PackOnceUptoSaid : Prop := packOnceUptoRow.holds Try.pinned (OpenSpec.upto packOnceSpec)

/-- 'chaffkeep.PackMisses', WHERE WHAT IT READS IS OF BULK AT MOST 1048576: true; the input reads as it did. -/
def packMissesUptoRow : OpenClaim := { program := "ytokdaapmejccbaa", sum := "a5fb8374495e7805239a6b299a2826338a5ce92a280b5089166672fa6af60504", func := "chaffcutter/chaffkeep.PackMisses", spec := "packMisses", unfollowed := true, recurses := true, loops := true, plainKeys := false, apart := false, narrowed := true }
def PackMissesUptoSaid : Prop := packMissesUptoRow.holds Try.pinned (OpenSpec.upto packMissesSpec)

end Rows
end Go.Proofs.Ytokdaapmejccbaa
