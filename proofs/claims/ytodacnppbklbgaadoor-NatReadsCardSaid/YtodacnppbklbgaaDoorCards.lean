/-
  DERIVED. GIVEN WITH THE SEED: THE CARDS: each row of YtodacnppbklbgaaDoorRows.lean that lists a variable, with what it lists TIED to the program's text (the seventh form; the later family's looks); each row that meets fmt, with fmt's text TOLD by the authors' own Lean function (tested against real Go, not proved from fmt's source: count such statements apart). THE CARD IS WHAT COUNTS. Prove the row's statement (the work); the ties are given (YtodacnppbklbgaaDoorTie.lean); close each card by the builder's one call (the guide's Derived/Test/ToyasCard.lean, 'card_holds'). Laid BY PROGRAM, IN A SANDBOX (cutbox-door.mjs). By AI agents, Wed Nov 11 2026. No macro, syntax, notation, axiom, sorry.
-/
import Derived.Test.YtodacnppbklbgaaDoorRows
import GoSem.ClaimSeven
namespace Go.Proofs.YtodacnppbklbgaaDoor
namespace Rows

/-- THE TIED CARD OF 'guillochelaw01.NatNew'. -/
def natNewCard : Claim7 := { stood := { row := natNewRow, standIns := [], harness := (true, "1eaa7dd7540759cacbea6fa664609c8029689e74ad5cf6baedcc8f751706d676"), looks := false }, kinds := [], alts := [], laidByText := true, laidKinds := [.data, .data, .data], laidTests := true, laidLooks := .later }
def NatNewCardSaid : Prop := Claim7.holds Tryd.pinned (.plain (OpenSpec.ofChange natNewSpec)) natNewCard

/-- THE TIED CARD OF 'guillochelaw01.NatReads'. -/
def natReadsCard : Claim7 := { stood := { row := natReadsRow, standIns := [], harness := (true, "1eaa7dd7540759cacbea6fa664609c8029689e74ad5cf6baedcc8f751706d676"), looks := false }, kinds := [], alts := [], laidByText := true, laidKinds := [.data, .data, .data], laidTests := true, laidLooks := .later }
def NatReadsCardSaid : Prop := Claim7.holds Tryd.pinned (.plain (OpenSpec.ofChange natReadsSpec)) natReadsCard

/-- THE SECOND FORM's CARD OF 'guillochelaw01.NatNew'. -/
def natNewUptoCard : Claim7 := { stood := { row := natNewUptoRow, standIns := [], harness := (true, "1eaa7dd7540759cacbea6fa664609c8029689e74ad5cf6baedcc8f751706d676"), looks := false }, kinds := [], alts := [], laidByText := true, laidKinds := [.data, .data, .data], laidTests := true, laidLooks := .later }
def NatNewUptoCardSaid : Prop := Claim7.holds Tryd.pinned (.plain (OpenSpec.upto natNewSpec)) natNewUptoCard

/-- THE SECOND FORM's CARD OF 'guillochelaw01.NatReads'. -/
def natReadsUptoCard : Claim7 := { stood := { row := natReadsUptoRow, standIns := [], harness := (true, "1eaa7dd7540759cacbea6fa664609c8029689e74ad5cf6baedcc8f751706d676"), looks := false }, kinds := [], alts := [], laidByText := true, laidKinds := [.data, .data, .data], laidTests := true, laidLooks := .later }
def NatReadsUptoCardSaid : Prop := Claim7.holds Tryd.pinned (.plain (OpenSpec.upto natReadsSpec)) natReadsUptoCard
end Rows
end Go.Proofs.YtodacnppbklbgaaDoor
