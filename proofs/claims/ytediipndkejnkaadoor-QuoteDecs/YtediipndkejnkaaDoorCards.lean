/-
  DERIVED. GIVEN WITH THE SEED: THE CARDS: each row of YtediipndkejnkaaDoorRows.lean that lists a variable, with what it lists TIED to the program's text (the seventh form; the later family's looks); each row that meets fmt, with fmt's text TOLD by the authors' own Lean function (tested against real Go, not proved from fmt's source: count such statements apart). THE CARD IS WHAT COUNTS. Prove the row's statement (the work); the ties are given (YtediipndkejnkaaDoorTie.lean); close each card by the builder's one call (the guide's Derived/Test/ToyasCard.lean, 'card_holds'). Laid BY PROGRAM, IN A SANDBOX (cutbox-door.mjs). By AI agents, Wed Nov 11 2026. No macro, syntax, notation, axiom, sorry.
-/
import Derived.Test.YtediipndkejnkaaDoorRows
import GoSem.ClaimSeven
namespace Go.Proofs.YtediipndkejnkaaDoor
namespace Rows

/-- THE TIED CARD OF 'chafflaw.QuoteDecs'. -/
def quoteDecsCard : Claim7 := { stood := { row := quoteDecsRow, standIns := [], harness := (true, "f51d93670bdb983f7973b55e01dc8747934ab1f02c1c089b9454f1e81a776ef1"), looks := false }, kinds := [], alts := [], laidByText := true, laidKinds := [.data, .data, .data], laidTests := true, laidLooks := .later }
def QuoteDecsCardSaid : Prop := Claim7.holds Tryd.pinned (.plain (OpenSpec.ofChange quoteDecsSpec)) quoteDecsCard

/-- THE TIED CARD OF 'chaffkeep.QuoteOrder'. -/
def quoteOrderCard : Claim7 := { stood := { row := quoteOrderRow, standIns := [], harness := (true, "f51d93670bdb983f7973b55e01dc8747934ab1f02c1c089b9454f1e81a776ef1"), looks := false }, kinds := [], alts := [], laidByText := true, laidKinds := [.data, .data, .data], laidTests := true, laidLooks := .later }
def QuoteOrderCardSaid : Prop := Claim7.holds Tryd.pinned (.plain (OpenSpec.ofChange quoteOrderSpec)) quoteOrderCard

/-- THE SECOND FORM's CARD OF 'chafflaw.QuoteDecs'. -/
def quoteDecsUptoCard : Claim7 := { stood := { row := quoteDecsUptoRow, standIns := [], harness := (true, "f51d93670bdb983f7973b55e01dc8747934ab1f02c1c089b9454f1e81a776ef1"), looks := false }, kinds := [], alts := [], laidByText := true, laidKinds := [.data, .data, .data], laidTests := true, laidLooks := .later }
def QuoteDecsUptoCardSaid : Prop := Claim7.holds Tryd.pinned (.plain (OpenSpec.upto quoteDecsSpec)) quoteDecsUptoCard

/-- THE SECOND FORM's CARD OF 'chaffkeep.QuoteOrder'. -/
def quoteOrderUptoCard : Claim7 := { stood := { row := quoteOrderUptoRow, standIns := [], harness := (true, "f51d93670bdb983f7973b55e01dc8747934ab1f02c1c089b9454f1e81a776ef1"), looks := false }, kinds := [], alts := [], laidByText := true, laidKinds := [.data, .data, .data], laidTests := true, laidLooks := .later }
def QuoteOrderUptoCardSaid : Prop := Claim7.holds Tryd.pinned (.plain (OpenSpec.upto quoteOrderSpec)) quoteOrderUptoCard
end Rows
end Go.Proofs.YtediipndkejnkaaDoor
