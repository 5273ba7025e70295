/-
  DERIVED. GIVEN WITH THE SEED: THE CARDS: each row of YtfkogbomijonjaaGreatDoorRows.lean that lists a variable, with what it lists TIED to the program's text (the seventh form; the later family's looks); each row that meets fmt, with fmt's text TOLD by the authors' own Lean function (tested against real Go, not proved from fmt's source: count such statements apart). THE CARD IS WHAT COUNTS. Prove the row's statement (the work); the ties are given (YtfkogbomijonjaaGreatDoorTie.lean); close each card by the builder's one call (the guide's Derived/Test/ToyasCard.lean, 'card_holds'). Laid BY PROGRAM, IN A SANDBOX (cutbox-door.mjs). By AI agents, Wed Nov 11 2026. No macro, syntax, notation, axiom, sorry.
-/
import Derived.Test.YtfkogbomijonjaaGreatDoorRows
import GoSem.ClaimSeven
namespace Go.Proofs.YtfkogbomijonjaaGreatDoor
namespace Rows

/-- THE TIED CARD OF 'guillochelaw06.SampleShares'. -/
def sampleSharesCard : Claim7 := { stood := { row := sampleSharesRow, standIns := [], harness := (true, "cf92e5b63bf9d64f1b9831b8a0a590b0f16420e2f2c38f5671fb01d3fa33b01b"), looks := false }, kinds := [], alts := [], laidByText := true, laidKinds := [.data, .data, .data], laidTests := true, laidLooks := .later }
def SampleSharesCardSaid : Prop := Claim7.holds Tryz.pinned (.plain (OpenSpec.ofChange sampleSharesSpec)) sampleSharesCard

/-- THE SECOND FORM's CARD OF 'guillochelaw06.SampleShares'. -/
def sampleSharesUptoCard : Claim7 := { stood := { row := sampleSharesUptoRow, standIns := [], harness := (true, "cf92e5b63bf9d64f1b9831b8a0a590b0f16420e2f2c38f5671fb01d3fa33b01b"), looks := false }, kinds := [], alts := [], laidByText := true, laidKinds := [.data, .data, .data], laidTests := true, laidLooks := .later }
def SampleSharesUptoCardSaid : Prop := Claim7.holds Tryz.pinned (.plain (OpenSpec.upto sampleSharesSpec)) sampleSharesUptoCard
end Rows
end Go.Proofs.YtfkogbomijonjaaGreatDoor
