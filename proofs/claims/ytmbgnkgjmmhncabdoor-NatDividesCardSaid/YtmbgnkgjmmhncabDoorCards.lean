/-
  DERIVED. GIVEN WITH THE SEED: THE CARDS: each row of YtmbgnkgjmmhncabDoorRows.lean that lists a variable, with what it lists TIED to the program's text (the seventh form; the later family's looks); each row that meets fmt, with fmt's text TOLD by the authors' own Lean function (tested against real Go, not proved from fmt's source: count such statements apart). THE CARD IS WHAT COUNTS. Prove the row's statement (the work); the ties are given (YtmbgnkgjmmhncabDoorTie.lean); close each card by the builder's one call (the guide's Derived/Test/ToyasCard.lean, 'card_holds'). Laid BY PROGRAM, IN A SANDBOX (cutbox-door.mjs). By AI agents, Wed Nov 11 2026. No macro, syntax, notation, axiom, sorry.
-/
import Derived.Test.YtmbgnkgjmmhncabDoorRows
import GoSem.ClaimSeven
namespace Go.Proofs.YtmbgnkgjmmhncabDoor
namespace Rows

/-- THE TIED CARD OF 'guillochelaw01.NatPascal'. -/
def natPascalCard : Claim7 := { stood := { row := natPascalRow, standIns := [], harness := (true, "a62e08e44446562bd059750a3adaba20d15132bbf279cbeb8244bc5eb6bb62e1"), looks := false }, kinds := [], alts := [], laidByText := true, laidKinds := [.data, .data, .data], laidTests := true, laidLooks := .later }
def NatPascalCardSaid : Prop := Claim7.holds Tryd.pinned (.plain (OpenSpec.ofChange natPascalSpec)) natPascalCard

/-- THE TIED CARD OF 'guillochelaw01.NatDivides'. -/
def natDividesCard : Claim7 := { stood := { row := natDividesRow, standIns := [], harness := (true, "a62e08e44446562bd059750a3adaba20d15132bbf279cbeb8244bc5eb6bb62e1"), looks := false }, kinds := [], alts := [], laidByText := true, laidKinds := [.data, .data, .data], laidTests := true, laidLooks := .later }
def NatDividesCardSaid : Prop := Claim7.holds Tryd.pinned (.plain (OpenSpec.ofChange natDividesSpec)) natDividesCard

/-- THE TIED CARD OF 'guillochelaw01.NatBack'. -/
def natBackCard : Claim7 := { stood := { row := natBackRow, standIns := [], harness := (true, "a62e08e44446562bd059750a3adaba20d15132bbf279cbeb8244bc5eb6bb62e1"), looks := false }, kinds := [], alts := [], laidByText := true, laidKinds := [.data, .data, .data], laidTests := true, laidLooks := .later }
def NatBackCardSaid : Prop := Claim7.holds Tryd.pinned (.plain (OpenSpec.ofChange natBackSpec)) natBackCard

/-- THE TIED CARD OF 'guillochelaw01.NatRoots'. -/
def natRootsCard : Claim7 := { stood := { row := natRootsRow, standIns := [], harness := (true, "a62e08e44446562bd059750a3adaba20d15132bbf279cbeb8244bc5eb6bb62e1"), looks := false }, kinds := [], alts := [], laidByText := true, laidKinds := [.data, .data, .data], laidTests := true, laidLooks := .later }
def NatRootsCardSaid : Prop := Claim7.holds Tryd.pinned (.plain (OpenSpec.ofChange natRootsSpec)) natRootsCard

/-- THE TIED CARD OF 'guillochelaw01.NatGcds'. -/
def natGcdsCard : Claim7 := { stood := { row := natGcdsRow, standIns := [], harness := (true, "a62e08e44446562bd059750a3adaba20d15132bbf279cbeb8244bc5eb6bb62e1"), looks := false }, kinds := [], alts := [], laidByText := true, laidKinds := [.data, .data, .data], laidTests := true, laidLooks := .later }
def NatGcdsCardSaid : Prop := Claim7.holds Tryd.pinned (.plain (OpenSpec.ofChange natGcdsSpec)) natGcdsCard

/-- THE TIED CARD OF 'guillochelaw01.NatLcm'. -/
def natLcmCard : Claim7 := { stood := { row := natLcmRow, standIns := [], harness := (true, "a62e08e44446562bd059750a3adaba20d15132bbf279cbeb8244bc5eb6bb62e1"), looks := false }, kinds := [], alts := [], laidByText := true, laidKinds := [.data, .data, .data], laidTests := true, laidLooks := .later }
def NatLcmCardSaid : Prop := Claim7.holds Tryd.pinned (.plain (OpenSpec.ofChange natLcmSpec)) natLcmCard

/-- THE SECOND FORM's CARD OF 'guillochelaw01.NatPascal'. -/
def natPascalUptoCard : Claim7 := { stood := { row := natPascalUptoRow, standIns := [], harness := (true, "a62e08e44446562bd059750a3adaba20d15132bbf279cbeb8244bc5eb6bb62e1"), looks := false }, kinds := [], alts := [], laidByText := true, laidKinds := [.data, .data, .data], laidTests := true, laidLooks := .later }
def NatPascalUptoCardSaid : Prop := Claim7.holds Tryd.pinned (.plain (OpenSpec.upto natPascalSpec)) natPascalUptoCard

/-- THE SECOND FORM's CARD OF 'guillochelaw01.NatDivides'. -/
def natDividesUptoCard : Claim7 := { stood := { row := natDividesUptoRow, standIns := [], harness := (true, "a62e08e44446562bd059750a3adaba20d15132bbf279cbeb8244bc5eb6bb62e1"), looks := false }, kinds := [], alts := [], laidByText := true, laidKinds := [.data, .data, .data], laidTests := true, laidLooks := .later }
def NatDividesUptoCardSaid : Prop := Claim7.holds Tryd.pinned (.plain (OpenSpec.upto natDividesSpec)) natDividesUptoCard

/-- THE SECOND FORM's CARD OF 'guillochelaw01.NatBack'. -/
def natBackUptoCard : Claim7 := { stood := { row := natBackUptoRow, standIns := [], harness := (true, "a62e08e44446562bd059750a3adaba20d15132bbf279cbeb8244bc5eb6bb62e1"), looks := false }, kinds := [], alts := [], laidByText := true, laidKinds := [.data, .data, .data], laidTests := true, laidLooks := .later }
def NatBackUptoCardSaid : Prop := Claim7.holds Tryd.pinned (.plain (OpenSpec.upto natBackSpec)) natBackUptoCard

/-- THE SECOND FORM's CARD OF 'guillochelaw01.NatRoots'. -/
def natRootsUptoCard : Claim7 := { stood := { row := natRootsUptoRow, standIns := [], harness := (true, "a62e08e44446562bd059750a3adaba20d15132bbf279cbeb8244bc5eb6bb62e1"), looks := false }, kinds := [], alts := [], laidByText := true, laidKinds := [.data, .data, .data], laidTests := true, laidLooks := .later }
def NatRootsUptoCardSaid : Prop := Claim7.holds Tryd.pinned (.plain (OpenSpec.upto natRootsSpec)) natRootsUptoCard

/-- THE SECOND FORM's CARD OF 'guillochelaw01.NatGcds'. -/
def natGcdsUptoCard : Claim7 := { stood := { row := natGcdsUptoRow, standIns := [], harness := (true, "a62e08e44446562bd059750a3adaba20d15132bbf279cbeb8244bc5eb6bb62e1"), looks := false }, kinds := [], alts := [], laidByText := true, laidKinds := [.data, .data, .data], laidTests := true, laidLooks := .later }
def NatGcdsUptoCardSaid : Prop := Claim7.holds Tryd.pinned (.plain (OpenSpec.upto natGcdsSpec)) natGcdsUptoCard

/-- THE SECOND FORM's CARD OF 'guillochelaw01.NatLcm'. -/
def natLcmUptoCard : Claim7 := { stood := { row := natLcmUptoRow, standIns := [], harness := (true, "a62e08e44446562bd059750a3adaba20d15132bbf279cbeb8244bc5eb6bb62e1"), looks := false }, kinds := [], alts := [], laidByText := true, laidKinds := [.data, .data, .data], laidTests := true, laidLooks := .later }
def NatLcmUptoCardSaid : Prop := Claim7.holds Tryd.pinned (.plain (OpenSpec.upto natLcmSpec)) natLcmUptoCard
end Rows
end Go.Proofs.YtmbgnkgjmmhncabDoor
