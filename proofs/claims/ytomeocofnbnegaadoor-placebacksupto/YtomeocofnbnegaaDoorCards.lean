/-
  DERIVED. GIVEN WITH THE SEED: THE CARDS: each row of YtomeocofnbnegaaDoorRows.lean that lists a variable, with what it lists TIED to the program's text (the seventh form; the later family's looks); each row that meets fmt, with fmt's text TOLD by the authors' own Lean function (tested against real Go, not proved from fmt's source: count such statements apart). THE CARD IS WHAT COUNTS. Prove the row's statement (the work); the ties are given (YtomeocofnbnegaaDoorTie.lean); close each card by the builder's one call (the guide's Derived/Test/ToyasCard.lean, 'card_holds'). Laid BY PROGRAM, IN A SANDBOX (cutbox-door.mjs). By AI agents, Wed Nov 11 2026. No macro, syntax, notation, axiom, sorry.
-/
import Derived.Test.YtomeocofnbnegaaDoorRows
import GoSem.ClaimSeven
namespace Go.Proofs.YtomeocofnbnegaaDoor
namespace Rows

/-- THE TIED CARD OF 'chafflaw.PlaceWheres'. -/
def placeWheresCard : Claim7 := { stood := { row := placeWheresRow, standIns := [], harness := (true, "6310c9317d4aecb7ab6bb8d489af0d293bba891f3dd2ea8a6bca83e20c7dbcc3"), looks := false }, kinds := [], alts := [], laidByText := true, laidKinds := [.data, .pinned], laidTests := true, laidLooks := .later }
def PlaceWheresCardSaid : Prop := Claim7.holds Tryd.pinned (.plain (OpenSpec.ofChange placeWheresSpec)) placeWheresCard

/-- THE TIED CARD OF 'chafflaw.PlaceBacks'. -/
def placeBacksCard : Claim7 := { stood := { row := placeBacksRow, standIns := [], harness := (true, "6310c9317d4aecb7ab6bb8d489af0d293bba891f3dd2ea8a6bca83e20c7dbcc3"), looks := false }, kinds := [], alts := [], laidByText := true, laidKinds := [.data, .pinned], laidTests := true, laidLooks := .later }
def PlaceBacksCardSaid : Prop := Claim7.holds Tryd.pinned (.plain (OpenSpec.ofChange placeBacksSpec)) placeBacksCard

/-- THE SECOND FORM's CARD OF 'chafflaw.PlaceWheres'. -/
def placeWheresUptoCard : Claim7 := { stood := { row := placeWheresUptoRow, standIns := [], harness := (true, "6310c9317d4aecb7ab6bb8d489af0d293bba891f3dd2ea8a6bca83e20c7dbcc3"), looks := false }, kinds := [], alts := [], laidByText := true, laidKinds := [.data, .pinned], laidTests := true, laidLooks := .later }
def PlaceWheresUptoCardSaid : Prop := Claim7.holds Tryd.pinned (.plain (OpenSpec.upto placeWheresSpec)) placeWheresUptoCard

/-- THE SECOND FORM's CARD OF 'chafflaw.PlaceBacks'. -/
def placeBacksUptoCard : Claim7 := { stood := { row := placeBacksUptoRow, standIns := [], harness := (true, "6310c9317d4aecb7ab6bb8d489af0d293bba891f3dd2ea8a6bca83e20c7dbcc3"), looks := false }, kinds := [], alts := [], laidByText := true, laidKinds := [.data, .pinned], laidTests := true, laidLooks := .later }
def PlaceBacksUptoCardSaid : Prop := Claim7.holds Tryd.pinned (.plain (OpenSpec.upto placeBacksSpec)) placeBacksUptoCard
end Rows
end Go.Proofs.YtomeocofnbnegaaDoor
