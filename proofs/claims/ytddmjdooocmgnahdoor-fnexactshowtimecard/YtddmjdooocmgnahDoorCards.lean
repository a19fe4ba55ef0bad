/-
  DERIVED. GIVEN WITH THE SEED: THE CARDS: each row of YtddmjdooocmgnahDoorRows.lean that lists a variable, with what it lists TIED to the program's text (the seventh form; the later family's looks); each row that meets fmt, with fmt's text TOLD by the authors' own Lean function (tested against real Go, not proved from fmt's source: count such statements apart). THE CARD IS WHAT COUNTS. Prove the row's statement (the work); the ties are given (YtddmjdooocmgnahDoorTie.lean); close each card by the builder's one call (the guide's Derived/Test/ToyasCard.lean, 'card_holds'). Laid BY PROGRAM, IN A SANDBOX (cutbox-door.mjs). By AI agents, Wed Nov 11 2026. No macro, syntax, notation, axiom, sorry.
-/
import Derived.Test.YtddmjdooocmgnahDoorRows
import GoSem.ClaimSeven
namespace Go.Proofs.YtddmjdooocmgnahDoor
namespace Rows

/-- THE TIED CARD OF 'laws.FnExactShowTime'. -/
def fnExactShowTimeCard : Claim7 := { stood := { row := fnExactShowTimeRow, standIns := [], harness := (true, "f2046547c435c3d53a50cd7b710670f1dda86b269c0e4bb6d16c165be9aa0687"), looks := false }, kinds := [], alts := [], laidByText := true, laidKinds := [.data, .data, .data], laidTests := true, laidLooks := .later }
def FnExactShowTimeCardSaid : Prop := Claim7.holds Tryd.pinned (.plain (OpenSpec.ofChange fnExactShowTimeSpec)) fnExactShowTimeCard

/-- THE SECOND FORM's CARD OF 'laws.FnExactShowTime'. -/
def fnExactShowTimeUptoCard : Claim7 := { stood := { row := fnExactShowTimeUptoRow, standIns := [], harness := (true, "f2046547c435c3d53a50cd7b710670f1dda86b269c0e4bb6d16c165be9aa0687"), looks := false }, kinds := [], alts := [], laidByText := true, laidKinds := [.data, .data, .data], laidTests := true, laidLooks := .later }
def FnExactShowTimeUptoCardSaid : Prop := Claim7.holds Tryd.pinned (.plain (OpenSpec.upto fnExactShowTimeSpec)) fnExactShowTimeUptoCard
end Rows
end Go.Proofs.YtddmjdooocmgnahDoor
