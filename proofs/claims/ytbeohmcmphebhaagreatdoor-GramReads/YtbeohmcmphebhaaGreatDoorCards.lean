/-
  DERIVED. GIVEN WITH THE SEED: THE CARDS: each row of YtbeohmcmphebhaaGreatDoorRows.lean that lists a variable, with what it lists TIED to the program's text (the seventh form; the later family's looks); each row that meets fmt, with fmt's text TOLD by the authors' own Lean function (tested against real Go, not proved from fmt's source: count such statements apart). THE CARD IS WHAT COUNTS. Prove the row's statement (the work); the ties are given (YtbeohmcmphebhaaGreatDoorTie.lean); close each card by the builder's one call (the guide's Derived/Test/ToyasCard.lean, 'card_holds'). Laid BY PROGRAM, IN A SANDBOX (cutbox-door.mjs). By AI agents, Wed Nov 11 2026. No macro, syntax, notation, axiom, sorry.
-/
import Derived.Test.YtbeohmcmphebhaaGreatDoorRows
import GoSem.ClaimSeven
namespace Go.Proofs.YtbeohmcmphebhaaGreatDoor
namespace Rows

/-- THE TIED CARD OF 'chafflaw.GramReads'. -/
def gramReadsCard : Claim7 := { stood := { row := gramReadsRow, standIns := [], harness := (true, "9d86569d98bf0ccb48cafae3fa063ad1c98f697e0e88fbd9127ef1842cae9399"), looks := true }, kinds := [], alts := [], laidByText := true, laidKinds := [.data, .pinned], laidTests := true, laidLooks := .later }
def GramReadsCardSaid : Prop := Claim7.holds Tryz.pinned (.plain (OpenSpec.ofChange gramReadsSpec)) gramReadsCard

/-- THE TIED CARD OF 'chaffkeep.GramBack'. -/
def gramBackCard : Claim7 := { stood := { row := gramBackRow, standIns := [], harness := (true, "9d86569d98bf0ccb48cafae3fa063ad1c98f697e0e88fbd9127ef1842cae9399"), looks := true }, kinds := [], alts := [], laidByText := true, laidKinds := [.data, .pinned], laidTests := true, laidLooks := .later }
def GramBackCardSaid : Prop := Claim7.holds Tryz.pinned (.plain (OpenSpec.ofChange gramBackSpec)) gramBackCard

/-- THE TIED CARD OF 'chaffkeep.GramAgain'. -/
def gramAgainCard : Claim7 := { stood := { row := gramAgainRow, standIns := [], harness := (true, "9d86569d98bf0ccb48cafae3fa063ad1c98f697e0e88fbd9127ef1842cae9399"), looks := true }, kinds := [], alts := [], laidByText := true, laidKinds := [.data, .pinned], laidTests := true, laidLooks := .later }
def GramAgainCardSaid : Prop := Claim7.holds Tryz.pinned (.plain (OpenSpec.ofChange gramAgainSpec)) gramAgainCard

/-- THE SECOND FORM's CARD OF 'chafflaw.GramReads'. -/
def gramReadsUptoCard : Claim7 := { stood := { row := gramReadsUptoRow, standIns := [], harness := (true, "9d86569d98bf0ccb48cafae3fa063ad1c98f697e0e88fbd9127ef1842cae9399"), looks := true }, kinds := [], alts := [], laidByText := true, laidKinds := [.data, .pinned], laidTests := true, laidLooks := .later }
def GramReadsUptoCardSaid : Prop := Claim7.holds Tryz.pinned (.plain (OpenSpec.upto gramReadsSpec)) gramReadsUptoCard

/-- THE SECOND FORM's CARD OF 'chaffkeep.GramBack'. -/
def gramBackUptoCard : Claim7 := { stood := { row := gramBackUptoRow, standIns := [], harness := (true, "9d86569d98bf0ccb48cafae3fa063ad1c98f697e0e88fbd9127ef1842cae9399"), looks := true }, kinds := [], alts := [], laidByText := true, laidKinds := [.data, .pinned], laidTests := true, laidLooks := .later }
def GramBackUptoCardSaid : Prop := Claim7.holds Tryz.pinned (.plain (OpenSpec.upto gramBackSpec)) gramBackUptoCard

/-- THE SECOND FORM's CARD OF 'chaffkeep.GramAgain'. -/
def gramAgainUptoCard : Claim7 := { stood := { row := gramAgainUptoRow, standIns := [], harness := (true, "9d86569d98bf0ccb48cafae3fa063ad1c98f697e0e88fbd9127ef1842cae9399"), looks := true }, kinds := [], alts := [], laidByText := true, laidKinds := [.data, .pinned], laidTests := true, laidLooks := .later }
def GramAgainUptoCardSaid : Prop := Claim7.holds Tryz.pinned (.plain (OpenSpec.upto gramAgainSpec)) gramAgainUptoCard
end Rows
end Go.Proofs.YtbeohmcmphebhaaGreatDoor
