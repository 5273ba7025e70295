/-
  DERIVED. GIVEN WITH THE SEED: THE CARDS: each row of YteieedfigoihpaaGreatDoorRows.lean that lists a variable, with what it lists TIED to the program's text (the seventh form; the later family's looks); each row that meets fmt, with fmt's text TOLD by the authors' own Lean function (tested against real Go, not proved from fmt's source: count such statements apart). THE CARD IS WHAT COUNTS. Prove the row's statement (the work); the ties are given (YteieedfigoihpaaGreatDoorTie.lean); close each card by the builder's one call (the guide's Derived/Test/ToyasCard.lean, 'card_holds'). Laid BY PROGRAM, IN A SANDBOX (cutbox-door.mjs). By AI agents, Wed Nov 11 2026. No macro, syntax, notation, axiom, sorry.
-/
import Derived.Test.YteieedfigoihpaaGreatDoorRows
import GoSem.ClaimSeven
namespace Go.Proofs.YteieedfigoihpaaGreatDoor
namespace Rows

/-- THE TIED CARD OF 'guillochelaw06.SampleAccepts'. -/
def sampleAcceptsCard : Claim7 := { stood := { row := sampleAcceptsRow, standIns := [], harness := (true, "e11150d077809a1b99e0b54f786bd23ba25c3834f0998d01715a36ed34f2bffe"), looks := false }, kinds := [], alts := [], laidByText := true, laidKinds := [.data, .data, .data], laidTests := true, laidLooks := .later }
def SampleAcceptsCardSaid : Prop := Claim7.holds Tryz.pinned (.plain (OpenSpec.ofChange sampleAcceptsSpec)) sampleAcceptsCard

/-- THE TIED CARD OF 'guillochelaw06.SamplePlans'. -/
def samplePlansCard : Claim7 := { stood := { row := samplePlansRow, standIns := [], harness := (true, "e11150d077809a1b99e0b54f786bd23ba25c3834f0998d01715a36ed34f2bffe"), looks := false }, kinds := [], alts := [], laidByText := true, laidKinds := [.data, .data, .data], laidTests := true, laidLooks := .later }
def SamplePlansCardSaid : Prop := Claim7.holds Tryz.pinned (.plain (OpenSpec.ofChange samplePlansSpec)) samplePlansCard

/-- THE SECOND FORM's CARD OF 'guillochelaw06.SampleAccepts'. -/
def sampleAcceptsUptoCard : Claim7 := { stood := { row := sampleAcceptsUptoRow, standIns := [], harness := (true, "e11150d077809a1b99e0b54f786bd23ba25c3834f0998d01715a36ed34f2bffe"), looks := false }, kinds := [], alts := [], laidByText := true, laidKinds := [.data, .data, .data], laidTests := true, laidLooks := .later }
def SampleAcceptsUptoCardSaid : Prop := Claim7.holds Tryz.pinned (.plain (OpenSpec.upto sampleAcceptsSpec)) sampleAcceptsUptoCard

/-- THE SECOND FORM's CARD OF 'guillochelaw06.SamplePlans'. -/
def samplePlansUptoCard : Claim7 := { stood := { row := samplePlansUptoRow, standIns := [], harness := (true, "e11150d077809a1b99e0b54f786bd23ba25c3834f0998d01715a36ed34f2bffe"), looks := false }, kinds := [], alts := [], laidByText := true, laidKinds := [.data, .data, .data], laidTests := true, laidLooks := .later }
def SamplePlansUptoCardSaid : Prop := Claim7.holds Tryz.pinned (.plain (OpenSpec.upto samplePlansSpec)) samplePlansUptoCard
end Rows
end Go.Proofs.YteieedfigoihpaaGreatDoor
