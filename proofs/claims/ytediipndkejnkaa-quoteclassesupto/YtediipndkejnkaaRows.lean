/-
  No cell of these rows narrows 'for every input' (looked for: loops, veiled, ifaces, maps, wideKeys, modest, calm, conditions, laid).
  DERIVED. THE GIVEN ROWS OF THIS SEAT. 4 by the template 'for every input the law returns true; each argument reads behind the call as it read before'; 0 by the template 'total and deterministic' (their statements: YtediipndkejnkaaTotals.lean).
  GIVEN WITH THE SEED: the statements are not yours to turn. If you find one false, say at which input.
  Laid BY PROGRAM, IN A SANDBOX (cutbox-rows.mjs): the forced cells as the released guide's own fill.sh prints them over the translation 0c194cd74e74de89… (all of the seat's roots in one cut). By AI agents, Wed Nov 11 2026. No macro, syntax, notation, axiom, sorry.
-/
import Derived.Test.YtediipndkejnkaaChecked
import GoSem.Claim
import GoSem.ClaimJoined
import GoSem.ClaimMapViews
import Derived.JoinedTies
import Derived.KernelRfl
namespace Go.Proofs.Ytediipndkejnkaa
/- THE CELL 'sum', in the pinned program and in every row, IS THE sha256 OF THE DUMP (.gsa) THAT YtediipndkejnkaaProg.lean LOADS. Nothing in Lean hashes anything: it is a label: what it is worth is what the hold of that sum in a sandbox is worth. -/
noncomputable def Try.pinned : Pinned := { name := "ytediipndkejnkaa", sum := "0c194cd74e74de89bbc8e62e5ac517432d3bd4f48a53252ac52dd0d79835fc84", checked := Try.checked }
namespace Rows
def none {H : Type} : Left H := { results := [], args := [] }

/-- 'chafflaw.QuoteLits': WHATEVER THE INPUT: true; the input reads as it did. -/
def quoteLitsSpec : ChangeSpec := { name := "quoteLits", fn := fun _ => fun
  | [d1, d2] => { results := [.lit (.bool true)], args := [d1, d2] }
  | _ => none }
def quoteLitsRow : OpenClaim := { program := "ytediipndkejnkaa", sum := "0c194cd74e74de89bbc8e62e5ac517432d3bd4f48a53252ac52dd0d79835fc84", func := "chaffcutter/chafflaw.QuoteLits", spec := "quoteLits", inPlace := ["internal/bytealg.IndexByteString", "internal/bytealg.IndexString"], named := ["internal/bytealg.MaxLen"], apart := false }
def QuoteLitsSaid : Prop := quoteLitsRow.holds Try.pinned (OpenSpec.ofChange quoteLitsSpec)

/-- ITS FALSE NEIGHBOUR: 'it returns false'. Refute it at one input. -/
def quoteLitsWrong : ChangeSpec := { name := "quoteLits", fn := fun _ => fun
  | [d1, d2] => { results := [.lit (.bool false)], args := [d1, d2] }
  | _ => none }
def QuoteLitsWrongFalsely : Prop := quoteLitsRow.holds Try.pinned (OpenSpec.ofChange quoteLitsWrong)

/-- 'chafflaw.QuoteClasses': WHATEVER THE INPUT: true; the input reads as it did. -/
def quoteClassesSpec : ChangeSpec := { name := "quoteClasses", fn := fun _ => fun
  | [d1, d2] => { results := [.lit (.bool true)], args := [d1, d2] }
  | _ => none }
def quoteClassesRow : OpenClaim := { program := "ytediipndkejnkaa", sum := "0c194cd74e74de89bbc8e62e5ac517432d3bd4f48a53252ac52dd0d79835fc84", func := "chaffcutter/chafflaw.QuoteClasses", spec := "quoteClasses", inPlace := ["internal/bytealg.IndexByteString", "internal/bytealg.IndexString"], unfollowed := true, recurses := true, named := ["internal/bytealg.MaxLen"], apart := false }
def QuoteClassesSaid : Prop := quoteClassesRow.holds Try.pinned (OpenSpec.ofChange quoteClassesSpec)

/-- ITS FALSE NEIGHBOUR: 'it returns false'. Refute it at one input. -/
def quoteClassesWrong : ChangeSpec := { name := "quoteClasses", fn := fun _ => fun
  | [d1, d2] => { results := [.lit (.bool false)], args := [d1, d2] }
  | _ => none }
def QuoteClassesWrongFalsely : Prop := quoteClassesRow.holds Try.pinned (OpenSpec.ofChange quoteClassesWrong)

/-- 'chaffkeep.QuoteBack': WHATEVER THE INPUT: true; the input reads as it did. -/
def quoteBackSpec : ChangeSpec := { name := "quoteBack", fn := fun _ => fun
  | [d1, d2] => { results := [.lit (.bool true)], args := [d1, d2] }
  | _ => none }
def quoteBackRow : OpenClaim := { program := "ytediipndkejnkaa", sum := "0c194cd74e74de89bbc8e62e5ac517432d3bd4f48a53252ac52dd0d79835fc84", func := "chaffcutter/chaffkeep.QuoteBack", spec := "quoteBack", inPlace := ["internal/bytealg.IndexByteString"], apart := false }
def QuoteBackSaid : Prop := quoteBackRow.holds Try.pinned (OpenSpec.ofChange quoteBackSpec)

/-- ITS FALSE NEIGHBOUR: 'it returns false'. Refute it at one input. -/
def quoteBackWrong : ChangeSpec := { name := "quoteBack", fn := fun _ => fun
  | [d1, d2] => { results := [.lit (.bool false)], args := [d1, d2] }
  | _ => none }
def QuoteBackWrongFalsely : Prop := quoteBackRow.holds Try.pinned (OpenSpec.ofChange quoteBackWrong)

/-- 'chaffkeep.QuoteClassBack': WHATEVER THE INPUT: true; the input reads as it did. -/
def quoteClassBackSpec : ChangeSpec := { name := "quoteClassBack", fn := fun _ => fun
  | [d1, d2] => { results := [.lit (.bool true)], args := [d1, d2] }
  | _ => none }
def quoteClassBackRow : OpenClaim := { program := "ytediipndkejnkaa", sum := "0c194cd74e74de89bbc8e62e5ac517432d3bd4f48a53252ac52dd0d79835fc84", func := "chaffcutter/chaffkeep.QuoteClassBack", spec := "quoteClassBack", inPlace := ["internal/bytealg.IndexByteString"], unfollowed := true, recurses := true, apart := false }
def QuoteClassBackSaid : Prop := quoteClassBackRow.holds Try.pinned (OpenSpec.ofChange quoteClassBackSpec)

/-- ITS FALSE NEIGHBOUR: 'it returns false'. Refute it at one input. -/
def quoteClassBackWrong : ChangeSpec := { name := "quoteClassBack", fn := fun _ => fun
  | [d1, d2] => { results := [.lit (.bool false)], args := [d1, d2] }
  | _ => none }
def QuoteClassBackWrongFalsely : Prop := quoteClassBackRow.holds Try.pinned (OpenSpec.ofChange quoteClassBackWrong)

/- THE SECOND FORM. 'bulk': how many values and letters a reading holds, each counted each time it is reached (what is shared counts as often as it is met; a slice's spare places count too). A statement '..UptoSaid' is the law's where the arguments, and the package variables that the reading takes, are together of bulk at most 1048576: NARROWER than '..Said'. Prove '..Said' where nothing that the law and all that it calls make is longer than what came in: it says more and counts as full. Else prove '..UptoSaid'. A law counts once. -/
mutual
def uptoBulk {H : Type} : DataW H → Nat
  | .lit (.string bytes) => bytes.length + 1
  | .lit _ => 1
  | .nil => 1
  | .ptr d => uptoBulk d + 1
  | .slice elems spare => uptoBulkAll elems + uptoBulkAll spare + 1
  | .agg parts => uptoBulkAll parts + 1
  | .iface _ d => uptoBulk d + 1
  | .map entries => uptoBulkEntries entries + 1
  | .held _ => 1
def uptoBulkAll {H : Type} : List (DataW H) → Nat
  | [] => 0
  | d :: r => uptoBulk d + uptoBulkAll r
def uptoBulkEntries {H : Type} : List (Lit × DataW H) → Nat
  | [] => 0
  | x :: r => uptoBulkEntry x + uptoBulkEntries r
def uptoBulkEntry {H : Type} : Lit × DataW H → Nat
  | (.string bytes, d) => bytes.length + uptoBulk d + 1
  | (_, d) => uptoBulk d + 1
 end
def uptoSmall : (H : Type) → List (DataW H) → Bool := fun _ ds => decide (uptoBulkAll ds ≤ 1048576)
def OpenSpec.upto (s : _root_.Go.ChangeSpec) : _root_.Go.OpenSpec := { _root_.Go.OpenSpec.ofChange s with cond := some uptoSmall }

/-- 'chafflaw.QuoteLits', WHERE WHAT IT READS IS OF BULK AT MOST 1048576: true; the input reads as it did. -/
def quoteLitsUptoRow : OpenClaim := { program := "ytediipndkejnkaa", sum := "0c194cd74e74de89bbc8e62e5ac517432d3bd4f48a53252ac52dd0d79835fc84", func := "chaffcutter/chafflaw.QuoteLits", spec := "quoteLits", inPlace := ["internal/bytealg.IndexByteString", "internal/bytealg.IndexString"], named := ["internal/bytealg.MaxLen"], apart := false, narrowed := true }
def QuoteLitsUptoSaid : Prop := quoteLitsUptoRow.holds Try.pinned (OpenSpec.upto quoteLitsSpec)

/-- 'chafflaw.QuoteClasses', WHERE WHAT IT READS IS OF BULK AT MOST 1048576: true; the input reads as it did. -/
def quoteClassesUptoRow : OpenClaim := { program := "ytediipndkejnkaa", sum := "0c194cd74e74de89bbc8e62e5ac517432d3bd4f48a53252ac52dd0d79835fc84", func := "chaffcutter/chafflaw.QuoteClasses", spec := "quoteClasses", inPlace := ["internal/bytealg.IndexByteString", "internal/bytealg.IndexString"], unfollowed := true, recurses := true, named := ["internal/bytealg.MaxLen"], apart := false, narrowed := true }
def QuoteClassesUptoSaid : Prop := quoteClassesUptoRow.holds Try.pinned (OpenSpec.upto quoteClassesSpec)

/-- 'chaffkeep.QuoteBack', WHERE WHAT IT READS IS OF BULK AT MOST 1048576: true; the input reads as it did. -/
def quoteBackUptoRow : OpenClaim := { program := "ytediipndkejnkaa", sum := "0c194cd74e74de89bbc8e62e5ac517432d3bd4f48a53252ac52dd0d79835fc84", func := "chaffcutter/chaffkeep.QuoteBack", spec := "quoteBack", inPlace := ["internal/bytealg.IndexByteString"], apart := false, narrowed := true }
def QuoteBackUptoSaid : Prop := quoteBackUptoRow.holds Try.pinned (OpenSpec.upto quoteBackSpec)

/-- 'chaffkeep.QuoteClassBack', WHERE WHAT IT READS IS OF BULK AT MOST 1048576: true; the input reads as it did. -/
def quoteClassBackUptoRow : OpenClaim := { program := "ytediipndkejnkaa", sum := "0c194cd74e74de89bbc8e62e5ac517432d3bd4f48a53252ac52dd0d79835fc84", func := "chaffcutter/chaffkeep.QuoteClassBack", spec := "quoteClassBack", inPlace := ["internal/bytealg.IndexByteString"], unfollowed := true, recurses := true, apart := false, narrowed := true }
def QuoteClassBackUptoSaid : Prop := quoteClassBackUptoRow.holds Try.pinned (OpenSpec.upto quoteClassBackSpec)

end Rows
end Go.Proofs.Ytediipndkejnkaa
