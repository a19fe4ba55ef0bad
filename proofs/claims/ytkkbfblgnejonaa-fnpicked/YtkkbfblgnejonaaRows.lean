/-
  No cell of these rows narrows 'for every input' (looked for: loops, veiled, ifaces, maps, wideKeys, modest, calm, conditions, laid).
  DERIVED. THE GIVEN ROWS OF THIS SEAT. 8 by the template 'for every input the law returns true; each argument reads behind the call as it read before'; 0 by the template 'total and deterministic' (their statements: YtkkbfblgnejonaaTotals.lean).
  GIVEN WITH THE SEED: the statements are not yours to turn. If you find one false, say at which input.
  Laid BY PROGRAM, IN A SANDBOX (cutbox-rows.mjs): the forced cells as the released guide's own fill.sh prints them over the translation ea76d69004647c56… (all of the seat's roots in one cut). By AI agents, Wed Nov 11 2026. No macro, syntax, notation, axiom, sorry.
-/
import Derived.Test.YtkkbfblgnejonaaChecked
import GoSem.Claim
import GoSem.ClaimJoined
import GoSem.ClaimMapViews
import Derived.JoinedTies
import Derived.KernelRfl
namespace Go.Proofs.Ytkkbfblgnejonaa
/- THE CELL 'sum', in the pinned program and in every row, IS THE sha256 OF THE DUMP (.gsa) THAT YtkkbfblgnejonaaProg.lean LOADS. Nothing in Lean hashes anything: it is a label: what it is worth is what the hold of that sum in a sandbox is worth. -/
noncomputable def Try.pinned : Pinned := { name := "ytkkbfblgnejonaa", sum := "ea76d69004647c56905103c101b6eb15f95bf44fc17faca813cc2eec9222fe92", checked := Try.checked }
namespace Rows
def none {H : Type} : Left H := { results := [], args := [] }

/-- 'laws.FnDrained': WHATEVER THE INPUT: true; the input reads as it did. -/
def fnDrainedSpec : ChangeSpec := { name := "fnDrained", fn := fun _ => fun
  | [d] => { results := [.lit (.bool true)], args := [d] }
  | _ => none }
def fnDrainedRow : OpenClaim := { program := "ytkkbfblgnejonaa", sum := "ea76d69004647c56905103c101b6eb15f95bf44fc17faca813cc2eec9222fe92", func := "loop.example/g00255/laws.FnDrained", spec := "fnDrained", unfollowed := true, recurses := true, apart := false }
def FnDrainedSaid : Prop := fnDrainedRow.holds Try.pinned (OpenSpec.ofChange fnDrainedSpec)

/-- ITS FALSE NEIGHBOUR: 'it returns false'. Refute it at one input. -/
def fnDrainedWrong : ChangeSpec := { name := "fnDrained", fn := fun _ => fun
  | [d] => { results := [.lit (.bool false)], args := [d] }
  | _ => none }
def FnDrainedWrongFalsely : Prop := fnDrainedRow.holds Try.pinned (OpenSpec.ofChange fnDrainedWrong)

/-- 'laws.FnExactNodesOk': WHATEVER THE INPUT: true; the input reads as it did. -/
def fnExactNodesOkSpec : ChangeSpec := { name := "fnExactNodesOk", fn := fun _ => fun
  | [d] => { results := [.lit (.bool true)], args := [d] }
  | _ => none }
def fnExactNodesOkRow : OpenClaim := { program := "ytkkbfblgnejonaa", sum := "ea76d69004647c56905103c101b6eb15f95bf44fc17faca813cc2eec9222fe92", func := "loop.example/g00255/laws.FnExactNodesOk", spec := "fnExactNodesOk", unfollowed := true, recurses := true, apart := false }
def FnExactNodesOkSaid : Prop := fnExactNodesOkRow.holds Try.pinned (OpenSpec.ofChange fnExactNodesOkSpec)

/-- ITS FALSE NEIGHBOUR: 'it returns false'. Refute it at one input. -/
def fnExactNodesOkWrong : ChangeSpec := { name := "fnExactNodesOk", fn := fun _ => fun
  | [d] => { results := [.lit (.bool false)], args := [d] }
  | _ => none }
def FnExactNodesOkWrongFalsely : Prop := fnExactNodesOkRow.holds Try.pinned (OpenSpec.ofChange fnExactNodesOkWrong)

/-- 'laws.FnExactUsedOk': WHATEVER THE INPUT: true; the input reads as it did. -/
def fnExactUsedOkSpec : ChangeSpec := { name := "fnExactUsedOk", fn := fun _ => fun
  | [d1, d2] => { results := [.lit (.bool true)], args := [d1, d2] }
  | _ => none }
def fnExactUsedOkRow : OpenClaim := { program := "ytkkbfblgnejonaa", sum := "ea76d69004647c56905103c101b6eb15f95bf44fc17faca813cc2eec9222fe92", func := "loop.example/g00255/laws.FnExactUsedOk", spec := "fnExactUsedOk", unfollowed := true, recurses := true, apart := false }
def FnExactUsedOkSaid : Prop := fnExactUsedOkRow.holds Try.pinned (OpenSpec.ofChange fnExactUsedOkSpec)

/-- ITS FALSE NEIGHBOUR: 'it returns false'. Refute it at one input. -/
def fnExactUsedOkWrong : ChangeSpec := { name := "fnExactUsedOk", fn := fun _ => fun
  | [d1, d2] => { results := [.lit (.bool false)], args := [d1, d2] }
  | _ => none }
def FnExactUsedOkWrongFalsely : Prop := fnExactUsedOkRow.holds Try.pinned (OpenSpec.ofChange fnExactUsedOkWrong)

/-- 'laws.FnExactReady': WHATEVER THE INPUT: true; the input reads as it did. -/
def fnExactReadySpec : ChangeSpec := { name := "fnExactReady", fn := fun _ => fun
  | [d1, d2] => { results := [.lit (.bool true)], args := [d1, d2] }
  | _ => none }
def fnExactReadyRow : OpenClaim := { program := "ytkkbfblgnejonaa", sum := "ea76d69004647c56905103c101b6eb15f95bf44fc17faca813cc2eec9222fe92", func := "loop.example/g00255/laws.FnExactReady", spec := "fnExactReady", unfollowed := true, recurses := true, apart := false }
def FnExactReadySaid : Prop := fnExactReadyRow.holds Try.pinned (OpenSpec.ofChange fnExactReadySpec)

/-- ITS FALSE NEIGHBOUR: 'it returns false'. Refute it at one input. -/
def fnExactReadyWrong : ChangeSpec := { name := "fnExactReady", fn := fun _ => fun
  | [d1, d2] => { results := [.lit (.bool false)], args := [d1, d2] }
  | _ => none }
def FnExactReadyWrongFalsely : Prop := fnExactReadyRow.holds Try.pinned (OpenSpec.ofChange fnExactReadyWrong)

/-- 'laws.FnExactPicked': WHATEVER THE INPUT: true; the input reads as it did. -/
def fnExactPickedSpec : ChangeSpec := { name := "fnExactPicked", fn := fun _ => fun
  | [d1, d2, d3] => { results := [.lit (.bool true)], args := [d1, d2, d3] }
  | _ => none }
def fnExactPickedRow : OpenClaim := { program := "ytkkbfblgnejonaa", sum := "ea76d69004647c56905103c101b6eb15f95bf44fc17faca813cc2eec9222fe92", func := "loop.example/g00255/laws.FnExactPicked", spec := "fnExactPicked", unfollowed := true, recurses := true, apart := false }
def FnExactPickedSaid : Prop := fnExactPickedRow.holds Try.pinned (OpenSpec.ofChange fnExactPickedSpec)

/-- ITS FALSE NEIGHBOUR: 'it returns false'. Refute it at one input. -/
def fnExactPickedWrong : ChangeSpec := { name := "fnExactPicked", fn := fun _ => fun
  | [d1, d2, d3] => { results := [.lit (.bool false)], args := [d1, d2, d3] }
  | _ => none }
def FnExactPickedWrongFalsely : Prop := fnExactPickedRow.holds Try.pinned (OpenSpec.ofChange fnExactPickedWrong)

/-- 'laws.FnExactTaken': WHATEVER THE INPUT: true; the input reads as it did. -/
def fnExactTakenSpec : ChangeSpec := { name := "fnExactTaken", fn := fun _ => fun
  | [d1, d2] => { results := [.lit (.bool true)], args := [d1, d2] }
  | _ => none }
def fnExactTakenRow : OpenClaim := { program := "ytkkbfblgnejonaa", sum := "ea76d69004647c56905103c101b6eb15f95bf44fc17faca813cc2eec9222fe92", func := "loop.example/g00255/laws.FnExactTaken", spec := "fnExactTaken", unfollowed := true, recurses := true, apart := false }
def FnExactTakenSaid : Prop := fnExactTakenRow.holds Try.pinned (OpenSpec.ofChange fnExactTakenSpec)

/-- ITS FALSE NEIGHBOUR: 'it returns false'. Refute it at one input. -/
def fnExactTakenWrong : ChangeSpec := { name := "fnExactTaken", fn := fun _ => fun
  | [d1, d2] => { results := [.lit (.bool false)], args := [d1, d2] }
  | _ => none }
def FnExactTakenWrongFalsely : Prop := fnExactTakenRow.holds Try.pinned (OpenSpec.ofChange fnExactTakenWrong)

/-- 'laws.FnExactGiven': WHATEVER THE INPUT: true; the input reads as it did. -/
def fnExactGivenSpec : ChangeSpec := { name := "fnExactGiven", fn := fun _ => fun
  | [d1, d2] => { results := [.lit (.bool true)], args := [d1, d2] }
  | _ => none }
def fnExactGivenRow : OpenClaim := { program := "ytkkbfblgnejonaa", sum := "ea76d69004647c56905103c101b6eb15f95bf44fc17faca813cc2eec9222fe92", func := "loop.example/g00255/laws.FnExactGiven", spec := "fnExactGiven", unfollowed := true, recurses := true, apart := false }
def FnExactGivenSaid : Prop := fnExactGivenRow.holds Try.pinned (OpenSpec.ofChange fnExactGivenSpec)

/-- ITS FALSE NEIGHBOUR: 'it returns false'. Refute it at one input. -/
def fnExactGivenWrong : ChangeSpec := { name := "fnExactGiven", fn := fun _ => fun
  | [d1, d2] => { results := [.lit (.bool false)], args := [d1, d2] }
  | _ => none }
def FnExactGivenWrongFalsely : Prop := fnExactGivenRow.holds Try.pinned (OpenSpec.ofChange fnExactGivenWrong)

/-- 'laws.FnPicked': WHATEVER THE INPUT: true; the input reads as it did. -/
def fnPickedSpec : ChangeSpec := { name := "fnPicked", fn := fun _ => fun
  | [d] => { results := [.lit (.bool true)], args := [d] }
  | _ => none }
def fnPickedRow : OpenClaim := { program := "ytkkbfblgnejonaa", sum := "ea76d69004647c56905103c101b6eb15f95bf44fc17faca813cc2eec9222fe92", func := "loop.example/g00255/laws.FnPicked", spec := "fnPicked", unfollowed := true, recurses := true, apart := false }
def FnPickedSaid : Prop := fnPickedRow.holds Try.pinned (OpenSpec.ofChange fnPickedSpec)

/-- ITS FALSE NEIGHBOUR: 'it returns false'. Refute it at one input. -/
def fnPickedWrong : ChangeSpec := { name := "fnPicked", fn := fun _ => fun
  | [d] => { results := [.lit (.bool false)], args := [d] }
  | _ => none }
def FnPickedWrongFalsely : Prop := fnPickedRow.holds Try.pinned (OpenSpec.ofChange fnPickedWrong)

/- THE SECOND FORM. 'bulk': how many values and letters a reading holds, each counted each time it is reached (what is shared counts as often as it is met; a slice's spare places count too). A statement '..UptoSaid' is the law's where the arguments, and the package variables that the reading takes, are together of bulk at most 1048576: NARROWER than '..Said'. Prove '..Said' where nothing that the law and all that it calls make is longer than what came in: it says more and counts as full. Else prove '..UptoSaid'. A law counts once. -/
mutual
def uptoBulk {H : Type} : DataW H → Nat
  | .lit (.string bytes) => bytes.length + 1
  | .lit _ => 1
  | .nil => 1
  | .ptr d => uptoBulk d + 1
  | .slice elems spare => uptoBulkAll elems + uptoBulkAll spare + 1
  | .agg parts => uptoBulkAll parts + 1
  | .iface _ d => uptoBulk d + 1
  | .map entries => uptoBulkEntries entries + 1
  | .held _ => 1
def uptoBulkAll {H : Type} : List (DataW H) → Nat
  | [] => 0
  | d :: r => uptoBulk d + uptoBulkAll r
def uptoBulkEntries {H : Type} : List (Lit × DataW H) → Nat
  | [] => 0
  | x :: r => uptoBulkEntry x + uptoBulkEntries r
def uptoBulkEntry {H : Type} : Lit × DataW H → Nat
  | (.string bytes, d) => bytes.length + uptoBulk d + 1
  | (_, d) => uptoBulk d + 1
 end
def uptoSmall : (H : Type) → List (DataW H) → Bool := fun _ ds => decide (uptoBulkAll ds ≤ 1048576)
def OpenSpec.upto (s : _root_.Go.ChangeSpec) : _root_.Go.OpenSpec := { _root_.Go.OpenSpec.ofChange s with cond := some uptoSmall }

/-- 'laws.FnDrained', WHERE WHAT IT READS IS OF BULK AT MOST 1048576: true; the input reads as it did. -/
def fnDrainedUptoRow : OpenClaim := { program := "ytkkbfblgnejonaa", sum := "ea76d69004647c56905103c101b6eb15f95bf44fc17faca813cc2eec9222fe92", func := "loop.example/g00255/laws.FnDrained", spec := "fnDrained", unfollowed := true, recurses := true, apart := false, narrowed := true }
def FnDrainedUptoSaid : Prop := fnDrainedUptoRow.holds Try.pinned (OpenSpec.upto fnDrainedSpec)

/-- 'laws.FnExactNodesOk', WHERE WHAT IT READS IS OF BULK AT MOST 1048576: true; the input reads as it did. -/
def fnExactNodesOkUptoRow : OpenClaim := { program := "ytkkbfblgnejonaa", sum := "ea76d69004647c56905103c101b6eb15f95bf44fc17faca813cc2eec9222fe92", func := "loop.example/g00255/laws.FnExactNodesOk", spec := "fnExactNodesOk", unfollowed := true, recurses := true, apart := false, narrowed := true }
def FnExactNodesOkUptoSaid : Prop := fnExactNodesOkUptoRow.holds Try.pinned (OpenSpec.upto fnExactNodesOkSpec)

/-- 'laws.FnExactUsedOk', WHERE WHAT IT READS IS OF BULK AT MOST 1048576: true; the input reads as it did. -/
def fnExactUsedOkUptoRow : OpenClaim := { program := "ytkkbfblgnejonaa", sum := "ea76d69004647c56905103c101b6eb15f95bf44fc17faca813cc2eec9222fe92", func := "loop.example/g00255/laws.FnExactUsedOk", spec := "fnExactUsedOk", unfollowed := true, recurses := true, apart := false, narrowed := true }
def FnExactUsedOkUptoSaid : Prop := fnExactUsedOkUptoRow.holds Try.pinned (OpenSpec.upto fnExactUsedOkSpec)

/-- 'laws.FnExactReady', WHERE WHAT IT READS IS OF BULK AT MOST 1048576: true; the input reads as it did. -/
def fnExactReadyUptoRow : OpenClaim := { program := "ytkkbfblgnejonaa", sum := "ea76d69004647c56905103c101b6eb15f95bf44fc17faca813cc2eec9222fe92", func := "loop.example/g00255/laws.FnExactReady", spec := "fnExactReady", unfollowed := true, recurses := true, apart := false, narrowed := true }
def FnExactReadyUptoSaid : Prop := fnExactReadyUptoRow.holds Try.pinned (OpenSpec.upto fnExactReadySpec)

/-- 'laws.FnExactPicked', WHERE WHAT IT READS IS OF BULK AT MOST 1048576: true; the input reads as it did. -/
def fnExactPickedUptoRow : OpenClaim := { program := "ytkkbfblgnejonaa", sum := "ea76d69004647c56905103c101b6eb15f95bf44fc17faca813cc2eec9222fe92", func := "loop.example/g00255/laws.FnExactPicked", spec := "fnExactPicked", unfollowed := true, recurses := true, apart := false, narrowed := true }
def FnExactPickedUptoSaid : Prop := fnExactPickedUptoRow.holds Try.pinned (OpenSpec.upto fnExactPickedSpec)

/-- 'laws.FnExactTaken', WHERE WHAT IT READS IS OF BULK AT MOST 1048576: true; the input reads as it did. -/
def fnExactTakenUptoRow : OpenClaim := { program := "ytkkbfblgnejonaa", sum := "ea76d69004647c56905103c101b6eb15f95bf44fc17faca813cc2eec9222fe92", func := "loop.example/g00255/laws.FnExactTaken", spec := "fnExactTaken", unfollowed := true, recurses := true, apart := false, narrowed := true }
def FnExactTakenUptoSaid : Prop := fnExactTakenUptoRow.holds Try.pinned (OpenSpec.upto fnExactTakenSpec)

/-- 'laws.FnExactGiven', WHERE WHAT IT READS IS OF BULK AT MOST 1048576: true; the input reads as it did. -/
def fnExactGivenUptoRow : OpenClaim := { program := "ytkkbfblgnejonaa", sum := "ea76d69004647c56905103c101b6eb15f95bf44fc17faca813cc2eec9222fe92", func := "loop.example/g00255/laws.FnExactGiven", spec := "fnExactGiven", unfollowed := true, recurses := true, apart := false, narrowed := true }
def FnExactGivenUptoSaid : Prop := fnExactGivenUptoRow.holds Try.pinned (OpenSpec.upto fnExactGivenSpec)

/-- 'laws.FnPicked', WHERE WHAT IT READS IS OF BULK AT MOST 1048576: true; the input reads as it did. -/
def fnPickedUptoRow : OpenClaim := { program := "ytkkbfblgnejonaa", sum := "ea76d69004647c56905103c101b6eb15f95bf44fc17faca813cc2eec9222fe92", func := "loop.example/g00255/laws.FnPicked", spec := "fnPicked", unfollowed := true, recurses := true, apart := false, narrowed := true }
def FnPickedUptoSaid : Prop := fnPickedUptoRow.holds Try.pinned (OpenSpec.upto fnPickedSpec)

end Rows
end Go.Proofs.Ytkkbfblgnejonaa
