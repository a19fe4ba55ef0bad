/-
  DERIVED. GIVEN WITH THE SEED: THE CARDS: each row of YtppnnnijdfbgpaaDoorRows.lean that lists a variable, with what it lists TIED to the program's text (the seventh form; the later family's looks); each row that meets fmt, with fmt's text TOLD by the authors' own Lean function (tested against real Go, not proved from fmt's source: count such statements apart). THE CARD IS WHAT COUNTS. Prove the row's statement (the work); the ties are given (YtppnnnijdfbgpaaDoorTie.lean); close each card by the builder's one call (the guide's Derived/Test/ToyasCard.lean, 'card_holds'). Laid BY PROGRAM, IN A SANDBOX (cutbox-door.mjs). By AI agents, Wed Nov 11 2026. No macro, syntax, notation, axiom, sorry.
-/
import Derived.Test.YtppnnnijdfbgpaaDoorRows
import GoSem.ClaimSeven
namespace Go.Proofs.YtppnnnijdfbgpaaDoor
namespace Rows

/-- THE TIED CARD OF 'laws.FnCommands'. -/
def fnCommandsCard : Claim7 := { stood := { row := fnCommandsRow, standIns := [], harness := (true, "efb62b11ab4641c8b14bd08222b67bf725a87dfc8044ee897bbad85ce54c99f4"), looks := false }, kinds := [], alts := [], laidByText := true, laidKinds := [.data, .data, .data, .wider], laidTests := true, laidLooks := .later }
def FnCommandsCardSaid : Prop := Claim7.holds Tryd.pinned (.plain (OpenSpec.ofChange fnCommandsSpec)) fnCommandsCard

/-- THE TIED CARD OF 'laws.FnExactCommandOk'. -/
def fnExactCommandOkCard : Claim7 := { stood := { row := fnExactCommandOkRow, standIns := [], harness := (true, "efb62b11ab4641c8b14bd08222b67bf725a87dfc8044ee897bbad85ce54c99f4"), looks := false }, kinds := [], alts := [], laidByText := true, laidKinds := [.wider], laidTests := true, laidLooks := .later }
def FnExactCommandOkCardSaid : Prop := Claim7.holds Tryd.pinned (.plain (OpenSpec.ofChange fnExactCommandOkSpec)) fnExactCommandOkCard

/-- THE TIED CARD OF 'laws.FnExactShowCommand'. -/
def fnExactShowCommandCard : Claim7 := { stood := { row := fnExactShowCommandRow, standIns := [], harness := (true, "efb62b11ab4641c8b14bd08222b67bf725a87dfc8044ee897bbad85ce54c99f4"), looks := false }, kinds := [], alts := [], laidByText := true, laidKinds := [.data, .data, .data, .wider], laidTests := true, laidLooks := .later }
def FnExactShowCommandCardSaid : Prop := Claim7.holds Tryd.pinned (.plain (OpenSpec.ofChange fnExactShowCommandSpec)) fnExactShowCommandCard

/-- THE TIED CARD OF 'laws.FnExactReadCommand'. -/
def fnExactReadCommandCard : Claim7 := { stood := { row := fnExactReadCommandRow, standIns := [], harness := (true, "efb62b11ab4641c8b14bd08222b67bf725a87dfc8044ee897bbad85ce54c99f4"), looks := false }, kinds := [], alts := [], laidByText := true, laidKinds := [.wider], laidTests := true, laidLooks := .later }
def FnExactReadCommandCardSaid : Prop := Claim7.holds Tryd.pinned (.plain (OpenSpec.ofChange fnExactReadCommandSpec)) fnExactReadCommandCard

/-- THE SECOND FORM's CARD OF 'laws.FnCommands'. -/
def fnCommandsUptoCard : Claim7 := { stood := { row := fnCommandsUptoRow, standIns := [], harness := (true, "efb62b11ab4641c8b14bd08222b67bf725a87dfc8044ee897bbad85ce54c99f4"), looks := false }, kinds := [], alts := [], laidByText := true, laidKinds := [.data, .data, .data, .wider], laidTests := true, laidLooks := .later }
def FnCommandsUptoCardSaid : Prop := Claim7.holds Tryd.pinned (.plain (OpenSpec.upto fnCommandsSpec)) fnCommandsUptoCard

/-- THE SECOND FORM's CARD OF 'laws.FnExactCommandOk'. -/
def fnExactCommandOkUptoCard : Claim7 := { stood := { row := fnExactCommandOkUptoRow, standIns := [], harness := (true, "efb62b11ab4641c8b14bd08222b67bf725a87dfc8044ee897bbad85ce54c99f4"), looks := false }, kinds := [], alts := [], laidByText := true, laidKinds := [.wider], laidTests := true, laidLooks := .later }
def FnExactCommandOkUptoCardSaid : Prop := Claim7.holds Tryd.pinned (.plain (OpenSpec.upto fnExactCommandOkSpec)) fnExactCommandOkUptoCard

/-- THE SECOND FORM's CARD OF 'laws.FnExactShowCommand'. -/
def fnExactShowCommandUptoCard : Claim7 := { stood := { row := fnExactShowCommandUptoRow, standIns := [], harness := (true, "efb62b11ab4641c8b14bd08222b67bf725a87dfc8044ee897bbad85ce54c99f4"), looks := false }, kinds := [], alts := [], laidByText := true, laidKinds := [.data, .data, .data, .wider], laidTests := true, laidLooks := .later }
def FnExactShowCommandUptoCardSaid : Prop := Claim7.holds Tryd.pinned (.plain (OpenSpec.upto fnExactShowCommandSpec)) fnExactShowCommandUptoCard

/-- THE SECOND FORM's CARD OF 'laws.FnExactReadCommand'. -/
def fnExactReadCommandUptoCard : Claim7 := { stood := { row := fnExactReadCommandUptoRow, standIns := [], harness := (true, "efb62b11ab4641c8b14bd08222b67bf725a87dfc8044ee897bbad85ce54c99f4"), looks := false }, kinds := [], alts := [], laidByText := true, laidKinds := [.wider], laidTests := true, laidLooks := .later }
def FnExactReadCommandUptoCardSaid : Prop := Claim7.holds Tryd.pinned (.plain (OpenSpec.upto fnExactReadCommandSpec)) fnExactReadCommandUptoCard
end Rows
end Go.Proofs.YtppnnnijdfbgpaaDoor
