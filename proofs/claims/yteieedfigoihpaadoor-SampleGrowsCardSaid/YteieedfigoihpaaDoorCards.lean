/-
  DERIVED. GIVEN WITH THE SEED: THE CARDS: each row of YteieedfigoihpaaDoorRows.lean that lists a variable, with what it lists TIED to the program's text (the seventh form; the later family's looks); each row that meets fmt, with fmt's text TOLD by the authors' own Lean function (tested against real Go, not proved from fmt's source: count such statements apart). THE CARD IS WHAT COUNTS. Prove the row's statement (the work); the ties are given (YteieedfigoihpaaDoorTie.lean); close each card by the builder's one call (the guide's Derived/Test/ToyasCard.lean, 'card_holds'). Laid BY PROGRAM, IN A SANDBOX (cutbox-door.mjs). By AI agents, Wed Nov 11 2026. No macro, syntax, notation, axiom, sorry.
-/
import Derived.Test.YteieedfigoihpaaDoorRows
import GoSem.ClaimSeven
namespace Go.Proofs.YteieedfigoihpaaDoor
namespace Rows

/-- THE TIED CARD OF 'guillochelaw06.SampleJudges'. -/
def sampleJudgesCard : Claim7 := { stood := { row := sampleJudgesRow, standIns := [], harness := (true, "26f3052797c1a40429ba4d81f2f0ae291f10d90e9940117e906e67a0195b9918"), looks := false }, kinds := [], alts := [], laidByText := true, laidKinds := [.data, .data, .data], laidTests := true, laidLooks := .later }
def SampleJudgesCardSaid : Prop := Claim7.holds Tryd.pinned (.plain (OpenSpec.ofChange sampleJudgesSpec)) sampleJudgesCard

/-- THE TIED CARD OF 'guillochelaw06.SampleFirst'. -/
def sampleFirstCard : Claim7 := { stood := { row := sampleFirstRow, standIns := [], harness := (true, "26f3052797c1a40429ba4d81f2f0ae291f10d90e9940117e906e67a0195b9918"), looks := false }, kinds := [], alts := [], laidByText := true, laidKinds := [.data, .data, .data], laidTests := true, laidLooks := .later }
def SampleFirstCardSaid : Prop := Claim7.holds Tryd.pinned (.plain (OpenSpec.ofChange sampleFirstSpec)) sampleFirstCard

/-- THE TIED CARD OF 'guillochelaw06.SampleGrows'. -/
def sampleGrowsCard : Claim7 := { stood := { row := sampleGrowsRow, standIns := [], harness := (true, "26f3052797c1a40429ba4d81f2f0ae291f10d90e9940117e906e67a0195b9918"), looks := false }, kinds := [], alts := [], laidByText := true, laidKinds := [.data, .data, .data], laidTests := true, laidLooks := .later }
def SampleGrowsCardSaid : Prop := Claim7.holds Tryd.pinned (.plain (OpenSpec.ofChange sampleGrowsSpec)) sampleGrowsCard

/-- THE TIED CARD OF 'guillochelaw06.SampleTurned'. -/
def sampleTurnedCard : Claim7 := { stood := { row := sampleTurnedRow, standIns := [], harness := (true, "26f3052797c1a40429ba4d81f2f0ae291f10d90e9940117e906e67a0195b9918"), looks := false }, kinds := [], alts := [], laidByText := true, laidKinds := [.data, .data, .data], laidTests := true, laidLooks := .later }
def SampleTurnedCardSaid : Prop := Claim7.holds Tryd.pinned (.plain (OpenSpec.ofChange sampleTurnedSpec)) sampleTurnedCard

/-- THE TIED CARD OF 'guillochelaw06.SampleSmaller'. -/
def sampleSmallerCard : Claim7 := { stood := { row := sampleSmallerRow, standIns := [], harness := (true, "26f3052797c1a40429ba4d81f2f0ae291f10d90e9940117e906e67a0195b9918"), looks := false }, kinds := [], alts := [], laidByText := true, laidKinds := [.data, .data, .data], laidTests := true, laidLooks := .later }
def SampleSmallerCardSaid : Prop := Claim7.holds Tryd.pinned (.plain (OpenSpec.ofChange sampleSmallerSpec)) sampleSmallerCard

/-- THE TIED CARD OF 'guillochelaw06.SampleVerdicts'. -/
def sampleVerdictsCard : Claim7 := { stood := { row := sampleVerdictsRow, standIns := [], harness := (true, "26f3052797c1a40429ba4d81f2f0ae291f10d90e9940117e906e67a0195b9918"), looks := false }, kinds := [], alts := [], laidByText := true, laidKinds := [.data, .data, .data], laidTests := true, laidLooks := .later }
def SampleVerdictsCardSaid : Prop := Claim7.holds Tryd.pinned (.plain (OpenSpec.ofChange sampleVerdictsSpec)) sampleVerdictsCard

/-- THE SECOND FORM's CARD OF 'guillochelaw06.SampleJudges'. -/
def sampleJudgesUptoCard : Claim7 := { stood := { row := sampleJudgesUptoRow, standIns := [], harness := (true, "26f3052797c1a40429ba4d81f2f0ae291f10d90e9940117e906e67a0195b9918"), looks := false }, kinds := [], alts := [], laidByText := true, laidKinds := [.data, .data, .data], laidTests := true, laidLooks := .later }
def SampleJudgesUptoCardSaid : Prop := Claim7.holds Tryd.pinned (.plain (OpenSpec.upto sampleJudgesSpec)) sampleJudgesUptoCard

/-- THE SECOND FORM's CARD OF 'guillochelaw06.SampleFirst'. -/
def sampleFirstUptoCard : Claim7 := { stood := { row := sampleFirstUptoRow, standIns := [], harness := (true, "26f3052797c1a40429ba4d81f2f0ae291f10d90e9940117e906e67a0195b9918"), looks := false }, kinds := [], alts := [], laidByText := true, laidKinds := [.data, .data, .data], laidTests := true, laidLooks := .later }
def SampleFirstUptoCardSaid : Prop := Claim7.holds Tryd.pinned (.plain (OpenSpec.upto sampleFirstSpec)) sampleFirstUptoCard

/-- THE SECOND FORM's CARD OF 'guillochelaw06.SampleGrows'. -/
def sampleGrowsUptoCard : Claim7 := { stood := { row := sampleGrowsUptoRow, standIns := [], harness := (true, "26f3052797c1a40429ba4d81f2f0ae291f10d90e9940117e906e67a0195b9918"), looks := false }, kinds := [], alts := [], laidByText := true, laidKinds := [.data, .data, .data], laidTests := true, laidLooks := .later }
def SampleGrowsUptoCardSaid : Prop := Claim7.holds Tryd.pinned (.plain (OpenSpec.upto sampleGrowsSpec)) sampleGrowsUptoCard

/-- THE SECOND FORM's CARD OF 'guillochelaw06.SampleTurned'. -/
def sampleTurnedUptoCard : Claim7 := { stood := { row := sampleTurnedUptoRow, standIns := [], harness := (true, "26f3052797c1a40429ba4d81f2f0ae291f10d90e9940117e906e67a0195b9918"), looks := false }, kinds := [], alts := [], laidByText := true, laidKinds := [.data, .data, .data], laidTests := true, laidLooks := .later }
def SampleTurnedUptoCardSaid : Prop := Claim7.holds Tryd.pinned (.plain (OpenSpec.upto sampleTurnedSpec)) sampleTurnedUptoCard

/-- THE SECOND FORM's CARD OF 'guillochelaw06.SampleSmaller'. -/
def sampleSmallerUptoCard : Claim7 := { stood := { row := sampleSmallerUptoRow, standIns := [], harness := (true, "26f3052797c1a40429ba4d81f2f0ae291f10d90e9940117e906e67a0195b9918"), looks := false }, kinds := [], alts := [], laidByText := true, laidKinds := [.data, .data, .data], laidTests := true, laidLooks := .later }
def SampleSmallerUptoCardSaid : Prop := Claim7.holds Tryd.pinned (.plain (OpenSpec.upto sampleSmallerSpec)) sampleSmallerUptoCard

/-- THE SECOND FORM's CARD OF 'guillochelaw06.SampleVerdicts'. -/
def sampleVerdictsUptoCard : Claim7 := { stood := { row := sampleVerdictsUptoRow, standIns := [], harness := (true, "26f3052797c1a40429ba4d81f2f0ae291f10d90e9940117e906e67a0195b9918"), looks := false }, kinds := [], alts := [], laidByText := true, laidKinds := [.data, .data, .data], laidTests := true, laidLooks := .later }
def SampleVerdictsUptoCardSaid : Prop := Claim7.holds Tryd.pinned (.plain (OpenSpec.upto sampleVerdictsSpec)) sampleVerdictsUptoCard
end Rows
end Go.Proofs.YteieedfigoihpaaDoor
