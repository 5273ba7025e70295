/-
  DERIVED. GIVEN WITH THE SEED: THE CARDS: each row of YtepjpegfofhipaaDoorRows.lean that lists a variable, with what it lists TIED to the program's text (the seventh form; the later family's looks); each row that meets fmt, with fmt's text TOLD by the authors' own Lean function (tested against real Go, not proved from fmt's source: count such statements apart). THE CARD IS WHAT COUNTS. Prove the row's statement (the work); the ties are given (YtepjpegfofhipaaDoorTie.lean); close each card by the builder's one call (the guide's Derived/Test/ToyasCard.lean, 'card_holds'). Laid BY PROGRAM, IN A SANDBOX (cutbox-door.mjs). By AI agents, Wed Nov 11 2026. No macro, syntax, notation, axiom, sorry.
-/
import Derived.Test.YtepjpegfofhipaaDoorRows
import GoSem.ClaimSeven
namespace Go.Proofs.YtepjpegfofhipaaDoor
namespace Rows

/-- THE TIED CARD OF 'guillochelaw01.NatFracs'. -/
def natFracsCard : Claim7 := { stood := { row := natFracsRow, standIns := [], harness := (true, "0d1a90b93a5c61af407c2a375ca22e0abc9d8e37cc90414545d440fab1e4ef36"), looks := false }, kinds := [], alts := [], laidByText := true, laidKinds := [.data, .data, .data], laidTests := true, laidLooks := .later }
def NatFracsCardSaid : Prop := Claim7.holds Tryd.pinned (.plain (OpenSpec.ofChange natFracsSpec)) natFracsCard

/-- THE TIED CARD OF 'guillochelaw01.NatFracTexts'. -/
def natFracTextsCard : Claim7 := { stood := { row := natFracTextsRow, standIns := [], harness := (true, "0d1a90b93a5c61af407c2a375ca22e0abc9d8e37cc90414545d440fab1e4ef36"), looks := false }, kinds := [], alts := [], laidByText := true, laidKinds := [.data, .data, .data], laidTests := true, laidLooks := .later }
def NatFracTextsCardSaid : Prop := Claim7.holds Tryd.pinned (.plain (OpenSpec.ofChange natFracTextsSpec)) natFracTextsCard

/-- THE TIED CARD OF 'guillochelaw01.NatFracEdge'. -/
def natFracEdgeCard : Claim7 := { stood := { row := natFracEdgeRow, standIns := [], harness := (true, "0d1a90b93a5c61af407c2a375ca22e0abc9d8e37cc90414545d440fab1e4ef36"), looks := false }, kinds := [], alts := [], laidByText := true, laidKinds := [.data, .data, .data], laidTests := true, laidLooks := .later }
def NatFracEdgeCardSaid : Prop := Claim7.holds Tryd.pinned (.plain (OpenSpec.ofChange natFracEdgeSpec)) natFracEdgeCard

/-- THE TIED CARD OF 'guillochelaw01.NatKeeps'. -/
def natKeepsCard : Claim7 := { stood := { row := natKeepsRow, standIns := [], harness := (true, "0d1a90b93a5c61af407c2a375ca22e0abc9d8e37cc90414545d440fab1e4ef36"), looks := false }, kinds := [], alts := [], laidByText := true, laidKinds := [.data, .data, .data], laidTests := true, laidLooks := .later }
def NatKeepsCardSaid : Prop := Claim7.holds Tryd.pinned (.plain (OpenSpec.ofChange natKeepsSpec)) natKeepsCard

/-- THE TIED CARD OF 'guillochelaw01.NatFracOrder'. -/
def natFracOrderCard : Claim7 := { stood := { row := natFracOrderRow, standIns := [], harness := (true, "0d1a90b93a5c61af407c2a375ca22e0abc9d8e37cc90414545d440fab1e4ef36"), looks := false }, kinds := [], alts := [], laidByText := true, laidKinds := [.data, .data, .data], laidTests := true, laidLooks := .later }
def NatFracOrderCardSaid : Prop := Claim7.holds Tryd.pinned (.plain (OpenSpec.ofChange natFracOrderSpec)) natFracOrderCard

/-- THE SECOND FORM's CARD OF 'guillochelaw01.NatFracs'. -/
def natFracsUptoCard : Claim7 := { stood := { row := natFracsUptoRow, standIns := [], harness := (true, "0d1a90b93a5c61af407c2a375ca22e0abc9d8e37cc90414545d440fab1e4ef36"), looks := false }, kinds := [], alts := [], laidByText := true, laidKinds := [.data, .data, .data], laidTests := true, laidLooks := .later }
def NatFracsUptoCardSaid : Prop := Claim7.holds Tryd.pinned (.plain (OpenSpec.upto natFracsSpec)) natFracsUptoCard

/-- THE SECOND FORM's CARD OF 'guillochelaw01.NatFracTexts'. -/
def natFracTextsUptoCard : Claim7 := { stood := { row := natFracTextsUptoRow, standIns := [], harness := (true, "0d1a90b93a5c61af407c2a375ca22e0abc9d8e37cc90414545d440fab1e4ef36"), looks := false }, kinds := [], alts := [], laidByText := true, laidKinds := [.data, .data, .data], laidTests := true, laidLooks := .later }
def NatFracTextsUptoCardSaid : Prop := Claim7.holds Tryd.pinned (.plain (OpenSpec.upto natFracTextsSpec)) natFracTextsUptoCard

/-- THE SECOND FORM's CARD OF 'guillochelaw01.NatFracEdge'. -/
def natFracEdgeUptoCard : Claim7 := { stood := { row := natFracEdgeUptoRow, standIns := [], harness := (true, "0d1a90b93a5c61af407c2a375ca22e0abc9d8e37cc90414545d440fab1e4ef36"), looks := false }, kinds := [], alts := [], laidByText := true, laidKinds := [.data, .data, .data], laidTests := true, laidLooks := .later }
def NatFracEdgeUptoCardSaid : Prop := Claim7.holds Tryd.pinned (.plain (OpenSpec.upto natFracEdgeSpec)) natFracEdgeUptoCard

/-- THE SECOND FORM's CARD OF 'guillochelaw01.NatKeeps'. -/
def natKeepsUptoCard : Claim7 := { stood := { row := natKeepsUptoRow, standIns := [], harness := (true, "0d1a90b93a5c61af407c2a375ca22e0abc9d8e37cc90414545d440fab1e4ef36"), looks := false }, kinds := [], alts := [], laidByText := true, laidKinds := [.data, .data, .data], laidTests := true, laidLooks := .later }
def NatKeepsUptoCardSaid : Prop := Claim7.holds Tryd.pinned (.plain (OpenSpec.upto natKeepsSpec)) natKeepsUptoCard

/-- THE SECOND FORM's CARD OF 'guillochelaw01.NatFracOrder'. -/
def natFracOrderUptoCard : Claim7 := { stood := { row := natFracOrderUptoRow, standIns := [], harness := (true, "0d1a90b93a5c61af407c2a375ca22e0abc9d8e37cc90414545d440fab1e4ef36"), looks := false }, kinds := [], alts := [], laidByText := true, laidKinds := [.data, .data, .data], laidTests := true, laidLooks := .later }
def NatFracOrderUptoCardSaid : Prop := Claim7.holds Tryd.pinned (.plain (OpenSpec.upto natFracOrderSpec)) natFracOrderUptoCard
end Rows
end Go.Proofs.YtepjpegfofhipaaDoor
