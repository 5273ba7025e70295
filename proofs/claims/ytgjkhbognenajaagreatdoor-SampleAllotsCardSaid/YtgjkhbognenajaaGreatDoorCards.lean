/-
  DERIVED. GIVEN WITH THE SEED: THE CARDS: each row of YtgjkhbognenajaaGreatDoorRows.lean that lists a variable, with what it lists TIED to the program's text (the seventh form; the later family's looks); each row that meets fmt, with fmt's text TOLD by the authors' own Lean function (tested against real Go, not proved from fmt's source: count such statements apart). THE CARD IS WHAT COUNTS. Prove the row's statement (the work); the ties are given (YtgjkhbognenajaaGreatDoorTie.lean); close each card by the builder's one call (the guide's Derived/Test/ToyasCard.lean, 'card_holds'). Laid BY PROGRAM, IN A SANDBOX (cutbox-door.mjs). By AI agents, Wed Nov 11 2026. No macro, syntax, notation, axiom, sorry.
-/
import Derived.Test.YtgjkhbognenajaaGreatDoorRows
import GoSem.ClaimSeven
namespace Go.Proofs.YtgjkhbognenajaaGreatDoor
namespace Rows

/-- THE TIED CARD OF 'guillochelaw06.SampleAllots'. -/
def sampleAllotsCard : Claim7 := { stood := { row := sampleAllotsRow, standIns := [], harness := (true, "7d43659edde00de0d28e21a027d1c1ece143d5349b74b7d5bd47cb7c69599443"), looks := false }, kinds := [], alts := [], laidByText := true, laidKinds := [.data, .data, .data], laidTests := true, laidLooks := .later }
def SampleAllotsCardSaid : Prop := Claim7.holds Tryz.pinned (.plain (OpenSpec.ofChange sampleAllotsSpec)) sampleAllotsCard

/-- THE SECOND FORM's CARD OF 'guillochelaw06.SampleAllots'. -/
def sampleAllotsUptoCard : Claim7 := { stood := { row := sampleAllotsUptoRow, standIns := [], harness := (true, "7d43659edde00de0d28e21a027d1c1ece143d5349b74b7d5bd47cb7c69599443"), looks := false }, kinds := [], alts := [], laidByText := true, laidKinds := [.data, .data, .data], laidTests := true, laidLooks := .later }
def SampleAllotsUptoCardSaid : Prop := Claim7.holds Tryz.pinned (.plain (OpenSpec.upto sampleAllotsSpec)) sampleAllotsUptoCard
end Rows
end Go.Proofs.YtgjkhbognenajaaGreatDoor
