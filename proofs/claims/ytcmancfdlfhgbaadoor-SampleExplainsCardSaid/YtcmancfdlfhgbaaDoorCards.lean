/-
  DERIVED. GIVEN WITH THE SEED: THE CARDS: each row of YtcmancfdlfhgbaaDoorRows.lean that lists a variable, with what it lists TIED to the program's text (the seventh form; the later family's looks); each row that meets fmt, with fmt's text TOLD by the authors' own Lean function (tested against real Go, not proved from fmt's source: count such statements apart). THE CARD IS WHAT COUNTS. Prove the row's statement (the work); the ties are given (YtcmancfdlfhgbaaDoorTie.lean); close each card by the builder's one call (the guide's Derived/Test/ToyasCard.lean, 'card_holds'). Laid BY PROGRAM, IN A SANDBOX (cutbox-door.mjs). By AI agents, Wed Nov 11 2026. No macro, syntax, notation, axiom, sorry.
-/
import Derived.Test.YtcmancfdlfhgbaaDoorRows
import GoSem.ClaimSeven
namespace Go.Proofs.YtcmancfdlfhgbaaDoor
namespace Rows

/-- THE TIED CARD OF 'guillochelaw06.SampleExplains'. -/
def sampleExplainsCard : Claim7 := { stood := { row := sampleExplainsRow, standIns := [], harness := (true, "7e7ec5d0abff29e9deb8e67227766e0306e1a6dcade9a532ca47194e9f5a36ae"), looks := false }, kinds := [], alts := [], laidByText := true, laidKinds := [.data, .data, .data], laidTests := true, laidLooks := .later }
def SampleExplainsCardSaid : Prop := Claim7.holds Tryd.pinned (.plain (OpenSpec.ofChange sampleExplainsSpec)) sampleExplainsCard

/-- THE TIED CARD OF 'guillochelaw06.SampleNext'. -/
def sampleNextCard : Claim7 := { stood := { row := sampleNextRow, standIns := [], harness := (true, "7e7ec5d0abff29e9deb8e67227766e0306e1a6dcade9a532ca47194e9f5a36ae"), looks := false }, kinds := [], alts := [], laidByText := true, laidKinds := [.data, .data, .data], laidTests := true, laidLooks := .later }
def SampleNextCardSaid : Prop := Claim7.holds Tryd.pinned (.plain (OpenSpec.ofChange sampleNextSpec)) sampleNextCard

/-- THE SECOND FORM's CARD OF 'guillochelaw06.SampleExplains'. -/
def sampleExplainsUptoCard : Claim7 := { stood := { row := sampleExplainsUptoRow, standIns := [], harness := (true, "7e7ec5d0abff29e9deb8e67227766e0306e1a6dcade9a532ca47194e9f5a36ae"), looks := false }, kinds := [], alts := [], laidByText := true, laidKinds := [.data, .data, .data], laidTests := true, laidLooks := .later }
def SampleExplainsUptoCardSaid : Prop := Claim7.holds Tryd.pinned (.plain (OpenSpec.upto sampleExplainsSpec)) sampleExplainsUptoCard

/-- THE SECOND FORM's CARD OF 'guillochelaw06.SampleNext'. -/
def sampleNextUptoCard : Claim7 := { stood := { row := sampleNextUptoRow, standIns := [], harness := (true, "7e7ec5d0abff29e9deb8e67227766e0306e1a6dcade9a532ca47194e9f5a36ae"), looks := false }, kinds := [], alts := [], laidByText := true, laidKinds := [.data, .data, .data], laidTests := true, laidLooks := .later }
def SampleNextUptoCardSaid : Prop := Claim7.holds Tryd.pinned (.plain (OpenSpec.upto sampleNextSpec)) sampleNextUptoCard
end Rows
end Go.Proofs.YtcmancfdlfhgbaaDoor
