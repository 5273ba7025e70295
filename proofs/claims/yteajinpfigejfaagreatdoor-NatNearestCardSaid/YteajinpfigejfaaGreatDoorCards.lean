/-
  DERIVED. GIVEN WITH THE SEED: THE CARDS: each row of YteajinpfigejfaaGreatDoorRows.lean that lists a variable, with what it lists TIED to the program's text (the seventh form; the later family's looks); each row that meets fmt, with fmt's text TOLD by the authors' own Lean function (tested against real Go, not proved from fmt's source: count such statements apart). THE CARD IS WHAT COUNTS. Prove the row's statement (the work); the ties are given (YteajinpfigejfaaGreatDoorTie.lean); close each card by the builder's one call (the guide's Derived/Test/ToyasCard.lean, 'card_holds'). Laid BY PROGRAM, IN A SANDBOX (cutbox-door.mjs). By AI agents, Wed Nov 11 2026. No macro, syntax, notation, axiom, sorry.
-/
import Derived.Test.YteajinpfigejfaaGreatDoorRows
import GoSem.ClaimSeven
namespace Go.Proofs.YteajinpfigejfaaGreatDoor
namespace Rows

/-- THE TIED CARD OF 'guillochelaw01.NatBests'. -/
def natBestsCard : Claim7 := { stood := { row := natBestsRow, standIns := [], harness := (true, "f99d3053d13daa98502df4557365b9f14f6c3ff81bd2d52343690f02bd8524c9"), looks := false }, kinds := [], alts := [], laidByText := true, laidKinds := [.data, .data, .data], laidTests := true, laidLooks := .later }
def NatBestsCardSaid : Prop := Claim7.holds Tryz.pinned (.plain (OpenSpec.ofChange natBestsSpec)) natBestsCard

/-- THE TIED CARD OF 'guillochelaw01.NatNearest'. -/
def natNearestCard : Claim7 := { stood := { row := natNearestRow, standIns := [], harness := (true, "f99d3053d13daa98502df4557365b9f14f6c3ff81bd2d52343690f02bd8524c9"), looks := false }, kinds := [], alts := [], laidByText := true, laidKinds := [.data, .data, .data], laidTests := true, laidLooks := .later }
def NatNearestCardSaid : Prop := Claim7.holds Tryz.pinned (.plain (OpenSpec.ofChange natNearestSpec)) natNearestCard

/-- THE TIED CARD OF 'guillochelaw01.NatFracField'. -/
def natFracFieldCard : Claim7 := { stood := { row := natFracFieldRow, standIns := [], harness := (true, "f99d3053d13daa98502df4557365b9f14f6c3ff81bd2d52343690f02bd8524c9"), looks := false }, kinds := [], alts := [], laidByText := true, laidKinds := [.data, .data, .data], laidTests := true, laidLooks := .later }
def NatFracFieldCardSaid : Prop := Claim7.holds Tryz.pinned (.plain (OpenSpec.ofChange natFracFieldSpec)) natFracFieldCard

/-- THE SECOND FORM's CARD OF 'guillochelaw01.NatBests'. -/
def natBestsUptoCard : Claim7 := { stood := { row := natBestsUptoRow, standIns := [], harness := (true, "f99d3053d13daa98502df4557365b9f14f6c3ff81bd2d52343690f02bd8524c9"), looks := false }, kinds := [], alts := [], laidByText := true, laidKinds := [.data, .data, .data], laidTests := true, laidLooks := .later }
def NatBestsUptoCardSaid : Prop := Claim7.holds Tryz.pinned (.plain (OpenSpec.upto natBestsSpec)) natBestsUptoCard

/-- THE SECOND FORM's CARD OF 'guillochelaw01.NatNearest'. -/
def natNearestUptoCard : Claim7 := { stood := { row := natNearestUptoRow, standIns := [], harness := (true, "f99d3053d13daa98502df4557365b9f14f6c3ff81bd2d52343690f02bd8524c9"), looks := false }, kinds := [], alts := [], laidByText := true, laidKinds := [.data, .data, .data], laidTests := true, laidLooks := .later }
def NatNearestUptoCardSaid : Prop := Claim7.holds Tryz.pinned (.plain (OpenSpec.upto natNearestSpec)) natNearestUptoCard

/-- THE SECOND FORM's CARD OF 'guillochelaw01.NatFracField'. -/
def natFracFieldUptoCard : Claim7 := { stood := { row := natFracFieldUptoRow, standIns := [], harness := (true, "f99d3053d13daa98502df4557365b9f14f6c3ff81bd2d52343690f02bd8524c9"), looks := false }, kinds := [], alts := [], laidByText := true, laidKinds := [.data, .data, .data], laidTests := true, laidLooks := .later }
def NatFracFieldUptoCardSaid : Prop := Claim7.holds Tryz.pinned (.plain (OpenSpec.upto natFracFieldSpec)) natFracFieldUptoCard
end Rows
end Go.Proofs.YteajinpfigejfaaGreatDoor
