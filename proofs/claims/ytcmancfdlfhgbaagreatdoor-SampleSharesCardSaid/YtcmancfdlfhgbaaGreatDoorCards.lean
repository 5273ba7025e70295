/-
  DERIVED. GIVEN WITH THE SEED: THE CARDS: each row of YtcmancfdlfhgbaaGreatDoorRows.lean that lists a variable, with what it lists TIED to the program's text (the seventh form; the later family's looks); each row that meets fmt, with fmt's text TOLD by the authors' own Lean function (tested against real Go, not proved from fmt's source: count such statements apart). THE CARD IS WHAT COUNTS. Prove the row's statement (the work); the ties are given (YtcmancfdlfhgbaaGreatDoorTie.lean); close each card by the builder's one call (the guide's Derived/Test/ToyasCard.lean, 'card_holds'). Laid BY PROGRAM, IN A SANDBOX (cutbox-door.mjs). By AI agents, Wed Nov 11 2026. No macro, syntax, notation, axiom, sorry.
-/
import Derived.Test.YtcmancfdlfhgbaaGreatDoorRows
import GoSem.ClaimSeven
namespace Go.Proofs.YtcmancfdlfhgbaaGreatDoor
namespace Rows

/-- THE TIED CARD OF 'guillochelaw06.SampleBounds'. -/
def sampleBoundsCard : Claim7 := { stood := { row := sampleBoundsRow, standIns := [], harness := (true, "b38fabd9bd055328316a2920f202ab1de9025872914612ae6f7265565afc7d55"), looks := false }, kinds := [], alts := [], laidByText := true, laidKinds := [.data, .data, .data], laidTests := true, laidLooks := .later }
def SampleBoundsCardSaid : Prop := Claim7.holds Tryz.pinned (.plain (OpenSpec.ofChange sampleBoundsSpec)) sampleBoundsCard

/-- THE TIED CARD OF 'guillochelaw06.SampleExpects'. -/
def sampleExpectsCard : Claim7 := { stood := { row := sampleExpectsRow, standIns := [], harness := (true, "b38fabd9bd055328316a2920f202ab1de9025872914612ae6f7265565afc7d55"), looks := false }, kinds := [], alts := [], laidByText := true, laidKinds := [.data, .data, .data], laidTests := true, laidLooks := .later }
def SampleExpectsCardSaid : Prop := Claim7.holds Tryz.pinned (.plain (OpenSpec.ofChange sampleExpectsSpec)) sampleExpectsCard

/-- THE TIED CARD OF 'guillochelaw06.SampleAllots'. -/
def sampleAllotsCard : Claim7 := { stood := { row := sampleAllotsRow, standIns := [], harness := (true, "b38fabd9bd055328316a2920f202ab1de9025872914612ae6f7265565afc7d55"), looks := false }, kinds := [], alts := [], laidByText := true, laidKinds := [.data, .data, .data], laidTests := true, laidLooks := .later }
def SampleAllotsCardSaid : Prop := Claim7.holds Tryz.pinned (.plain (OpenSpec.ofChange sampleAllotsSpec)) sampleAllotsCard

/-- THE TIED CARD OF 'guillochelaw06.SampleDraws'. -/
def sampleDrawsCard : Claim7 := { stood := { row := sampleDrawsRow, standIns := [], harness := (true, "b38fabd9bd055328316a2920f202ab1de9025872914612ae6f7265565afc7d55"), looks := false }, kinds := [], alts := [], laidByText := true, laidKinds := [.data, .data, .data], laidTests := true, laidLooks := .later }
def SampleDrawsCardSaid : Prop := Claim7.holds Tryz.pinned (.plain (OpenSpec.ofChange sampleDrawsSpec)) sampleDrawsCard

/-- THE TIED CARD OF 'guillochelaw06.SampleShares'. -/
def sampleSharesCard : Claim7 := { stood := { row := sampleSharesRow, standIns := [], harness := (true, "b38fabd9bd055328316a2920f202ab1de9025872914612ae6f7265565afc7d55"), looks := false }, kinds := [], alts := [], laidByText := true, laidKinds := [.data, .data, .data], laidTests := true, laidLooks := .later }
def SampleSharesCardSaid : Prop := Claim7.holds Tryz.pinned (.plain (OpenSpec.ofChange sampleSharesSpec)) sampleSharesCard

/-- THE TIED CARD OF 'guillochelaw06.SampleOdd'. -/
def sampleOddCard : Claim7 := { stood := { row := sampleOddRow, standIns := [], harness := (true, "b38fabd9bd055328316a2920f202ab1de9025872914612ae6f7265565afc7d55"), looks := false }, kinds := [], alts := [], laidByText := true, laidKinds := [.data, .data, .data], laidTests := true, laidLooks := .later }
def SampleOddCardSaid : Prop := Claim7.holds Tryz.pinned (.plain (OpenSpec.ofChange sampleOddSpec)) sampleOddCard

/-- THE SECOND FORM's CARD OF 'guillochelaw06.SampleBounds'. -/
def sampleBoundsUptoCard : Claim7 := { stood := { row := sampleBoundsUptoRow, standIns := [], harness := (true, "b38fabd9bd055328316a2920f202ab1de9025872914612ae6f7265565afc7d55"), looks := false }, kinds := [], alts := [], laidByText := true, laidKinds := [.data, .data, .data], laidTests := true, laidLooks := .later }
def SampleBoundsUptoCardSaid : Prop := Claim7.holds Tryz.pinned (.plain (OpenSpec.upto sampleBoundsSpec)) sampleBoundsUptoCard

/-- THE SECOND FORM's CARD OF 'guillochelaw06.SampleExpects'. -/
def sampleExpectsUptoCard : Claim7 := { stood := { row := sampleExpectsUptoRow, standIns := [], harness := (true, "b38fabd9bd055328316a2920f202ab1de9025872914612ae6f7265565afc7d55"), looks := false }, kinds := [], alts := [], laidByText := true, laidKinds := [.data, .data, .data], laidTests := true, laidLooks := .later }
def SampleExpectsUptoCardSaid : Prop := Claim7.holds Tryz.pinned (.plain (OpenSpec.upto sampleExpectsSpec)) sampleExpectsUptoCard

/-- THE SECOND FORM's CARD OF 'guillochelaw06.SampleAllots'. -/
def sampleAllotsUptoCard : Claim7 := { stood := { row := sampleAllotsUptoRow, standIns := [], harness := (true, "b38fabd9bd055328316a2920f202ab1de9025872914612ae6f7265565afc7d55"), looks := false }, kinds := [], alts := [], laidByText := true, laidKinds := [.data, .data, .data], laidTests := true, laidLooks := .later }
def SampleAllotsUptoCardSaid : Prop := Claim7.holds Tryz.pinned (.plain (OpenSpec.upto sampleAllotsSpec)) sampleAllotsUptoCard

/-- THE SECOND FORM's CARD OF 'guillochelaw06.SampleDraws'. -/
def sampleDrawsUptoCard : Claim7 := { stood := { row := sampleDrawsUptoRow, standIns := [], harness := (true, "b38fabd9bd055328316a2920f202ab1de9025872914612ae6f7265565afc7d55"), looks := false }, kinds := [], alts := [], laidByText := true, laidKinds := [.data, .data, .data], laidTests := true, laidLooks := .later }
def SampleDrawsUptoCardSaid : Prop := Claim7.holds Tryz.pinned (.plain (OpenSpec.upto sampleDrawsSpec)) sampleDrawsUptoCard

/-- THE SECOND FORM's CARD OF 'guillochelaw06.SampleShares'. -/
def sampleSharesUptoCard : Claim7 := { stood := { row := sampleSharesUptoRow, standIns := [], harness := (true, "b38fabd9bd055328316a2920f202ab1de9025872914612ae6f7265565afc7d55"), looks := false }, kinds := [], alts := [], laidByText := true, laidKinds := [.data, .data, .data], laidTests := true, laidLooks := .later }
def SampleSharesUptoCardSaid : Prop := Claim7.holds Tryz.pinned (.plain (OpenSpec.upto sampleSharesSpec)) sampleSharesUptoCard

/-- THE SECOND FORM's CARD OF 'guillochelaw06.SampleOdd'. -/
def sampleOddUptoCard : Claim7 := { stood := { row := sampleOddUptoRow, standIns := [], harness := (true, "b38fabd9bd055328316a2920f202ab1de9025872914612ae6f7265565afc7d55"), looks := false }, kinds := [], alts := [], laidByText := true, laidKinds := [.data, .data, .data], laidTests := true, laidLooks := .later }
def SampleOddUptoCardSaid : Prop := Claim7.holds Tryz.pinned (.plain (OpenSpec.upto sampleOddSpec)) sampleOddUptoCard
end Rows
end Go.Proofs.YtcmancfdlfhgbaaGreatDoor
