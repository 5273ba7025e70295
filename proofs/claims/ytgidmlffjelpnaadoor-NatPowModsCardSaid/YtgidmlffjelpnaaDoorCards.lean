/-
  DERIVED. GIVEN WITH THE SEED: THE CARDS: each row of YtgidmlffjelpnaaDoorRows.lean that lists a variable, with what it lists TIED to the program's text (the seventh form; the later family's looks); each row that meets fmt, with fmt's text TOLD by the authors' own Lean function (tested against real Go, not proved from fmt's source: count such statements apart). THE CARD IS WHAT COUNTS. Prove the row's statement (the work); the ties are given (YtgidmlffjelpnaaDoorTie.lean); close each card by the builder's one call (the guide's Derived/Test/ToyasCard.lean, 'card_holds'). Laid BY PROGRAM, IN A SANDBOX (cutbox-door.mjs). By AI agents, Wed Nov 11 2026. No macro, syntax, notation, axiom, sorry.
-/
import Derived.Test.YtgidmlffjelpnaaDoorRows
import GoSem.ClaimSeven
namespace Go.Proofs.YtgidmlffjelpnaaDoor
namespace Rows

/-- THE TIED CARD OF 'guillochelaw01.NatParses'. -/
def natParsesCard : Claim7 := { stood := { row := natParsesRow, standIns := [], harness := (true, "6444b121fb6980942d84dcbe0b0447ccab6930cc491e8fd21f33cf42a6d92070"), looks := false }, kinds := [], alts := [], laidByText := true, laidKinds := [.data, .data, .data], laidTests := true, laidLooks := .later }
def NatParsesCardSaid : Prop := Claim7.holds Tryd.pinned (.plain (OpenSpec.ofChange natParsesSpec)) natParsesCard

/-- THE TIED CARD OF 'guillochelaw01.NatPowers'. -/
def natPowersCard : Claim7 := { stood := { row := natPowersRow, standIns := [], harness := (true, "6444b121fb6980942d84dcbe0b0447ccab6930cc491e8fd21f33cf42a6d92070"), looks := false }, kinds := [], alts := [], laidByText := true, laidKinds := [.data, .data, .data], laidTests := true, laidLooks := .later }
def NatPowersCardSaid : Prop := Claim7.holds Tryd.pinned (.plain (OpenSpec.ofChange natPowersSpec)) natPowersCard

/-- THE TIED CARD OF 'guillochelaw01.NatPowMods'. -/
def natPowModsCard : Claim7 := { stood := { row := natPowModsRow, standIns := [], harness := (true, "6444b121fb6980942d84dcbe0b0447ccab6930cc491e8fd21f33cf42a6d92070"), looks := false }, kinds := [], alts := [], laidByText := true, laidKinds := [.data, .data, .data], laidTests := true, laidLooks := .later }
def NatPowModsCardSaid : Prop := Claim7.holds Tryd.pinned (.plain (OpenSpec.ofChange natPowModsSpec)) natPowModsCard

/-- THE TIED CARD OF 'guillochelaw01.NatInverses'. -/
def natInversesCard : Claim7 := { stood := { row := natInversesRow, standIns := [], harness := (true, "6444b121fb6980942d84dcbe0b0447ccab6930cc491e8fd21f33cf42a6d92070"), looks := false }, kinds := [], alts := [], laidByText := true, laidKinds := [.data, .data, .data], laidTests := true, laidLooks := .later }
def NatInversesCardSaid : Prop := Claim7.holds Tryd.pinned (.plain (OpenSpec.ofChange natInversesSpec)) natInversesCard

/-- THE TIED CARD OF 'guillochelaw01.NatRoots'. -/
def natRootsCard : Claim7 := { stood := { row := natRootsRow, standIns := [], harness := (true, "6444b121fb6980942d84dcbe0b0447ccab6930cc491e8fd21f33cf42a6d92070"), looks := false }, kinds := [], alts := [], laidByText := true, laidKinds := [.data, .data, .data], laidTests := true, laidLooks := .later }
def NatRootsCardSaid : Prop := Claim7.holds Tryd.pinned (.plain (OpenSpec.ofChange natRootsSpec)) natRootsCard

/-- THE TIED CARD OF 'guillochelaw01.NatGcds'. -/
def natGcdsCard : Claim7 := { stood := { row := natGcdsRow, standIns := [], harness := (true, "6444b121fb6980942d84dcbe0b0447ccab6930cc491e8fd21f33cf42a6d92070"), looks := false }, kinds := [], alts := [], laidByText := true, laidKinds := [.data, .data, .data], laidTests := true, laidLooks := .later }
def NatGcdsCardSaid : Prop := Claim7.holds Tryd.pinned (.plain (OpenSpec.ofChange natGcdsSpec)) natGcdsCard

/-- THE TIED CARD OF 'guillochelaw01.NatExponents'. -/
def natExponentsCard : Claim7 := { stood := { row := natExponentsRow, standIns := [], harness := (true, "6444b121fb6980942d84dcbe0b0447ccab6930cc491e8fd21f33cf42a6d92070"), looks := false }, kinds := [], alts := [], laidByText := true, laidKinds := [.data, .data, .data], laidTests := true, laidLooks := .later }
def NatExponentsCardSaid : Prop := Claim7.holds Tryd.pinned (.plain (OpenSpec.ofChange natExponentsSpec)) natExponentsCard

/-- THE TIED CARD OF 'guillochelaw01.NatEdge'. -/
def natEdgeCard : Claim7 := { stood := { row := natEdgeRow, standIns := [], harness := (true, "6444b121fb6980942d84dcbe0b0447ccab6930cc491e8fd21f33cf42a6d92070"), looks := false }, kinds := [], alts := [], laidByText := true, laidKinds := [.data, .data, .data], laidTests := true, laidLooks := .later }
def NatEdgeCardSaid : Prop := Claim7.holds Tryd.pinned (.plain (OpenSpec.ofChange natEdgeSpec)) natEdgeCard

/-- THE SECOND FORM's CARD OF 'guillochelaw01.NatParses'. -/
def natParsesUptoCard : Claim7 := { stood := { row := natParsesUptoRow, standIns := [], harness := (true, "6444b121fb6980942d84dcbe0b0447ccab6930cc491e8fd21f33cf42a6d92070"), looks := false }, kinds := [], alts := [], laidByText := true, laidKinds := [.data, .data, .data], laidTests := true, laidLooks := .later }
def NatParsesUptoCardSaid : Prop := Claim7.holds Tryd.pinned (.plain (OpenSpec.upto natParsesSpec)) natParsesUptoCard

/-- THE SECOND FORM's CARD OF 'guillochelaw01.NatPowers'. -/
def natPowersUptoCard : Claim7 := { stood := { row := natPowersUptoRow, standIns := [], harness := (true, "6444b121fb6980942d84dcbe0b0447ccab6930cc491e8fd21f33cf42a6d92070"), looks := false }, kinds := [], alts := [], laidByText := true, laidKinds := [.data, .data, .data], laidTests := true, laidLooks := .later }
def NatPowersUptoCardSaid : Prop := Claim7.holds Tryd.pinned (.plain (OpenSpec.upto natPowersSpec)) natPowersUptoCard

/-- THE SECOND FORM's CARD OF 'guillochelaw01.NatPowMods'. -/
def natPowModsUptoCard : Claim7 := { stood := { row := natPowModsUptoRow, standIns := [], harness := (true, "6444b121fb6980942d84dcbe0b0447ccab6930cc491e8fd21f33cf42a6d92070"), looks := false }, kinds := [], alts := [], laidByText := true, laidKinds := [.data, .data, .data], laidTests := true, laidLooks := .later }
def NatPowModsUptoCardSaid : Prop := Claim7.holds Tryd.pinned (.plain (OpenSpec.upto natPowModsSpec)) natPowModsUptoCard

/-- THE SECOND FORM's CARD OF 'guillochelaw01.NatInverses'. -/
def natInversesUptoCard : Claim7 := { stood := { row := natInversesUptoRow, standIns := [], harness := (true, "6444b121fb6980942d84dcbe0b0447ccab6930cc491e8fd21f33cf42a6d92070"), looks := false }, kinds := [], alts := [], laidByText := true, laidKinds := [.data, .data, .data], laidTests := true, laidLooks := .later }
def NatInversesUptoCardSaid : Prop := Claim7.holds Tryd.pinned (.plain (OpenSpec.upto natInversesSpec)) natInversesUptoCard

/-- THE SECOND FORM's CARD OF 'guillochelaw01.NatRoots'. -/
def natRootsUptoCard : Claim7 := { stood := { row := natRootsUptoRow, standIns := [], harness := (true, "6444b121fb6980942d84dcbe0b0447ccab6930cc491e8fd21f33cf42a6d92070"), looks := false }, kinds := [], alts := [], laidByText := true, laidKinds := [.data, .data, .data], laidTests := true, laidLooks := .later }
def NatRootsUptoCardSaid : Prop := Claim7.holds Tryd.pinned (.plain (OpenSpec.upto natRootsSpec)) natRootsUptoCard

/-- THE SECOND FORM's CARD OF 'guillochelaw01.NatGcds'. -/
def natGcdsUptoCard : Claim7 := { stood := { row := natGcdsUptoRow, standIns := [], harness := (true, "6444b121fb6980942d84dcbe0b0447ccab6930cc491e8fd21f33cf42a6d92070"), looks := false }, kinds := [], alts := [], laidByText := true, laidKinds := [.data, .data, .data], laidTests := true, laidLooks := .later }
def NatGcdsUptoCardSaid : Prop := Claim7.holds Tryd.pinned (.plain (OpenSpec.upto natGcdsSpec)) natGcdsUptoCard

/-- THE SECOND FORM's CARD OF 'guillochelaw01.NatExponents'. -/
def natExponentsUptoCard : Claim7 := { stood := { row := natExponentsUptoRow, standIns := [], harness := (true, "6444b121fb6980942d84dcbe0b0447ccab6930cc491e8fd21f33cf42a6d92070"), looks := false }, kinds := [], alts := [], laidByText := true, laidKinds := [.data, .data, .data], laidTests := true, laidLooks := .later }
def NatExponentsUptoCardSaid : Prop := Claim7.holds Tryd.pinned (.plain (OpenSpec.upto natExponentsSpec)) natExponentsUptoCard

/-- THE SECOND FORM's CARD OF 'guillochelaw01.NatEdge'. -/
def natEdgeUptoCard : Claim7 := { stood := { row := natEdgeUptoRow, standIns := [], harness := (true, "6444b121fb6980942d84dcbe0b0447ccab6930cc491e8fd21f33cf42a6d92070"), looks := false }, kinds := [], alts := [], laidByText := true, laidKinds := [.data, .data, .data], laidTests := true, laidLooks := .later }
def NatEdgeUptoCardSaid : Prop := Claim7.holds Tryd.pinned (.plain (OpenSpec.upto natEdgeSpec)) natEdgeUptoCard
end Rows
end Go.Proofs.YtgidmlffjelpnaaDoor
