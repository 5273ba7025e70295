/-
  DERIVED. GIVEN WITH THE SEED: THE CARDS: each row of YteajinpfigejfaaDoorRows.lean that lists a variable, with what it lists TIED to the program's text (the seventh form; the later family's looks); each row that meets fmt, with fmt's text TOLD by the authors' own Lean function (tested against real Go, not proved from fmt's source: count such statements apart). THE CARD IS WHAT COUNTS. Prove the row's statement (the work); the ties are given (YteajinpfigejfaaDoorTie.lean); close each card by the builder's one call (the guide's Derived/Test/ToyasCard.lean, 'card_holds'). Laid BY PROGRAM, IN A SANDBOX (cutbox-door.mjs). By AI agents, Wed Nov 11 2026. No macro, syntax, notation, axiom, sorry.
-/
import Derived.Test.YteajinpfigejfaaDoorRows
import GoSem.ClaimSeven
namespace Go.Proofs.YteajinpfigejfaaDoor
namespace Rows

/-- THE TIED CARD OF 'guillochelaw01.NatFracTexts'. -/
def natFracTextsCard : Claim7 := { stood := { row := natFracTextsRow, standIns := [], harness := (true, "7cf440b2b7ea13d5a84d2880c3d73fbcf72932f3add12b1abf2bb4c417648810"), looks := false }, kinds := [], alts := [], laidByText := true, laidKinds := [.data, .data, .data], laidTests := true, laidLooks := .later }
def NatFracTextsCardSaid : Prop := Claim7.holds Tryd.pinned (.plain (OpenSpec.ofChange natFracTextsSpec)) natFracTextsCard

/-- THE TIED CARD OF 'guillochelaw01.NatKeeps'. -/
def natKeepsCard : Claim7 := { stood := { row := natKeepsRow, standIns := [], harness := (true, "7cf440b2b7ea13d5a84d2880c3d73fbcf72932f3add12b1abf2bb4c417648810"), looks := false }, kinds := [], alts := [], laidByText := true, laidKinds := [.data, .data, .data], laidTests := true, laidLooks := .later }
def NatKeepsCardSaid : Prop := Claim7.holds Tryd.pinned (.plain (OpenSpec.ofChange natKeepsSpec)) natKeepsCard

/-- THE TIED CARD OF 'guillochelaw01.NatFracOrder'. -/
def natFracOrderCard : Claim7 := { stood := { row := natFracOrderRow, standIns := [], harness := (true, "7cf440b2b7ea13d5a84d2880c3d73fbcf72932f3add12b1abf2bb4c417648810"), looks := false }, kinds := [], alts := [], laidByText := true, laidKinds := [.data, .data, .data], laidTests := true, laidLooks := .later }
def NatFracOrderCardSaid : Prop := Claim7.holds Tryd.pinned (.plain (OpenSpec.ofChange natFracOrderSpec)) natFracOrderCard

/-- THE SECOND FORM's CARD OF 'guillochelaw01.NatFracTexts'. -/
def natFracTextsUptoCard : Claim7 := { stood := { row := natFracTextsUptoRow, standIns := [], harness := (true, "7cf440b2b7ea13d5a84d2880c3d73fbcf72932f3add12b1abf2bb4c417648810"), looks := false }, kinds := [], alts := [], laidByText := true, laidKinds := [.data, .data, .data], laidTests := true, laidLooks := .later }
def NatFracTextsUptoCardSaid : Prop := Claim7.holds Tryd.pinned (.plain (OpenSpec.upto natFracTextsSpec)) natFracTextsUptoCard

/-- THE SECOND FORM's CARD OF 'guillochelaw01.NatKeeps'. -/
def natKeepsUptoCard : Claim7 := { stood := { row := natKeepsUptoRow, standIns := [], harness := (true, "7cf440b2b7ea13d5a84d2880c3d73fbcf72932f3add12b1abf2bb4c417648810"), looks := false }, kinds := [], alts := [], laidByText := true, laidKinds := [.data, .data, .data], laidTests := true, laidLooks := .later }
def NatKeepsUptoCardSaid : Prop := Claim7.holds Tryd.pinned (.plain (OpenSpec.upto natKeepsSpec)) natKeepsUptoCard

/-- THE SECOND FORM's CARD OF 'guillochelaw01.NatFracOrder'. -/
def natFracOrderUptoCard : Claim7 := { stood := { row := natFracOrderUptoRow, standIns := [], harness := (true, "7cf440b2b7ea13d5a84d2880c3d73fbcf72932f3add12b1abf2bb4c417648810"), looks := false }, kinds := [], alts := [], laidByText := true, laidKinds := [.data, .data, .data], laidTests := true, laidLooks := .later }
def NatFracOrderUptoCardSaid : Prop := Claim7.holds Tryd.pinned (.plain (OpenSpec.upto natFracOrderSpec)) natFracOrderUptoCard
end Rows
end Go.Proofs.YteajinpfigejfaaDoor
