/-
  No cell of these rows narrows 'for every input' (looked for: loops, veiled, ifaces, maps, wideKeys, modest, calm, conditions, laid).
  DERIVED. THE GIVEN ROWS OF THIS SEAT. 9 by the template 'for every input the law returns true; each argument reads behind the call as it read before'; 0 by the template 'total and deterministic' (their statements: YtmaojjjdepgaeaaTotals.lean).
  GIVEN WITH THE SEED: the statements are not yours to turn. If you find one false, say at which input.
  Laid BY PROGRAM, IN A SANDBOX (cutbox-rows.mjs): the forced cells as the released guide's own fill.sh prints them over the translation 3501027a26932565… (all of the seat's roots in one cut). By AI agents, Wed Nov 11 2026. No macro, syntax, notation, axiom, sorry.
-/
import Derived.Test.YtmaojjjdepgaeaaChecked
import GoSem.Claim
import GoSem.ClaimJoined
import GoSem.ClaimMapViews
import Derived.JoinedTies
import Derived.KernelRfl
namespace Go.Proofs.Ytmaojjjdepgaeaa
/- THE CELL 'sum', in the pinned program and in every row, IS THE sha256 OF THE DUMP (.gsa) THAT YtmaojjjdepgaeaaProg.lean LOADS. Nothing in Lean hashes anything: it is a label: what it is worth is what the hold of that sum in a sandbox is worth. -/
noncomputable def Try.pinned : Pinned := { name := "ytmaojjjdepgaeaa", sum := "3501027a2693256520370266e2b3999d9d59c26f6f23334e648227bf0b932dc2", checked := Try.checked }
namespace Rows
def none {H : Type} : Left H := { results := [], args := [] }

/-- 'laws.FnGraham': WHATEVER THE INPUT: true; the input reads as it did. -/
def fnGrahamSpec : ChangeSpec := { name := "fnGraham", fn := fun _ => fun
  | [d] => { results := [.lit (.bool true)], args := [d] }
  | _ => none }
def fnGrahamRow : OpenClaim := { program := "ytmaojjjdepgaeaa", sum := "3501027a2693256520370266e2b3999d9d59c26f6f23334e648227bf0b932dc2", func := "loop.example/g00255/laws.FnGraham", spec := "fnGraham", unfollowed := true, recurses := true, apart := false }
def FnGrahamSaid : Prop := fnGrahamRow.holds Try.pinned (OpenSpec.ofChange fnGrahamSpec)

/-- ITS FALSE NEIGHBOUR: 'it returns false'. Refute it at one input. -/
def fnGrahamWrong : ChangeSpec := { name := "fnGraham", fn := fun _ => fun
  | [d] => { results := [.lit (.bool false)], args := [d] }
  | _ => none }
def FnGrahamWrongFalsely : Prop := fnGrahamRow.holds Try.pinned (OpenSpec.ofChange fnGrahamWrong)

/-- 'laws.FnHorn': WHATEVER THE INPUT: true; the input reads as it did. -/
def fnHornSpec : ChangeSpec := { name := "fnHorn", fn := fun _ => fun
  | [d] => { results := [.lit (.bool true)], args := [d] }
  | _ => none }
def fnHornRow : OpenClaim := { program := "ytmaojjjdepgaeaa", sum := "3501027a2693256520370266e2b3999d9d59c26f6f23334e648227bf0b932dc2", func := "loop.example/g00255/laws.FnHorn", spec := "fnHorn", unfollowed := true, recurses := true, apart := false }
def FnHornSaid : Prop := fnHornRow.holds Try.pinned (OpenSpec.ofChange fnHornSpec)

/-- ITS FALSE NEIGHBOUR: 'it returns false'. Refute it at one input. -/
def fnHornWrong : ChangeSpec := { name := "fnHorn", fn := fun _ => fun
  | [d] => { results := [.lit (.bool false)], args := [d] }
  | _ => none }
def FnHornWrongFalsely : Prop := fnHornRow.holds Try.pinned (OpenSpec.ofChange fnHornWrong)

/-- 'laws.FnDemands': WHATEVER THE INPUT: true; the input reads as it did. -/
def fnDemandsSpec : ChangeSpec := { name := "fnDemands", fn := fun _ => fun
  | [d] => { results := [.lit (.bool true)], args := [d] }
  | _ => none }
def fnDemandsRow : OpenClaim := { program := "ytmaojjjdepgaeaa", sum := "3501027a2693256520370266e2b3999d9d59c26f6f23334e648227bf0b932dc2", func := "loop.example/g00255/laws.FnDemands", spec := "fnDemands", unfollowed := true, recurses := true, apart := false }
def FnDemandsSaid : Prop := fnDemandsRow.holds Try.pinned (OpenSpec.ofChange fnDemandsSpec)

/-- ITS FALSE NEIGHBOUR: 'it returns false'. Refute it at one input. -/
def fnDemandsWrong : ChangeSpec := { name := "fnDemands", fn := fun _ => fun
  | [d] => { results := [.lit (.bool false)], args := [d] }
  | _ => none }
def FnDemandsWrongFalsely : Prop := fnDemandsRow.holds Try.pinned (OpenSpec.ofChange fnDemandsWrong)

/-- 'laws.FnExactSpread': WHATEVER THE INPUT: true; the input reads as it did. -/
def fnExactSpreadSpec : ChangeSpec := { name := "fnExactSpread", fn := fun _ => fun
  | [d1, d2] => { results := [.lit (.bool true)], args := [d1, d2] }
  | _ => none }
def fnExactSpreadRow : OpenClaim := { program := "ytmaojjjdepgaeaa", sum := "3501027a2693256520370266e2b3999d9d59c26f6f23334e648227bf0b932dc2", func := "loop.example/g00255/laws.FnExactSpread", spec := "fnExactSpread", unfollowed := true, recurses := true, apart := false }
def FnExactSpreadSaid : Prop := fnExactSpreadRow.holds Try.pinned (OpenSpec.ofChange fnExactSpreadSpec)

/-- ITS FALSE NEIGHBOUR: 'it returns false'. Refute it at one input. -/
def fnExactSpreadWrong : ChangeSpec := { name := "fnExactSpread", fn := fun _ => fun
  | [d1, d2] => { results := [.lit (.bool false)], args := [d1, d2] }
  | _ => none }
def FnExactSpreadWrongFalsely : Prop := fnExactSpreadRow.holds Try.pinned (OpenSpec.ofChange fnExactSpreadWrong)

/-- 'laws.FnExactTasksOk': WHATEVER THE INPUT: true; the input reads as it did. -/
def fnExactTasksOkSpec : ChangeSpec := { name := "fnExactTasksOk", fn := fun _ => fun
  | [d] => { results := [.lit (.bool true)], args := [d] }
  | _ => none }
def fnExactTasksOkRow : OpenClaim := { program := "ytmaojjjdepgaeaa", sum := "3501027a2693256520370266e2b3999d9d59c26f6f23334e648227bf0b932dc2", func := "loop.example/g00255/laws.FnExactTasksOk", spec := "fnExactTasksOk", unfollowed := true, recurses := true, apart := false }
def FnExactTasksOkSaid : Prop := fnExactTasksOkRow.holds Try.pinned (OpenSpec.ofChange fnExactTasksOkSpec)

/-- ITS FALSE NEIGHBOUR: 'it returns false'. Refute it at one input. -/
def fnExactTasksOkWrong : ChangeSpec := { name := "fnExactTasksOk", fn := fun _ => fun
  | [d] => { results := [.lit (.bool false)], args := [d] }
  | _ => none }
def FnExactTasksOkWrongFalsely : Prop := fnExactTasksOkRow.holds Try.pinned (OpenSpec.ofChange fnExactTasksOkWrong)

/-- 'laws.FnExactDemand': WHATEVER THE INPUT: true; the input reads as it did. -/
def fnExactDemandSpec : ChangeSpec := { name := "fnExactDemand", fn := fun _ => fun
  | [d1, d2, d3] => { results := [.lit (.bool true)], args := [d1, d2, d3] }
  | _ => none }
def fnExactDemandRow : OpenClaim := { program := "ytmaojjjdepgaeaa", sum := "3501027a2693256520370266e2b3999d9d59c26f6f23334e648227bf0b932dc2", func := "loop.example/g00255/laws.FnExactDemand", spec := "fnExactDemand", unfollowed := true, recurses := true, apart := false }
def FnExactDemandSaid : Prop := fnExactDemandRow.holds Try.pinned (OpenSpec.ofChange fnExactDemandSpec)

/-- ITS FALSE NEIGHBOUR: 'it returns false'. Refute it at one input. -/
def fnExactDemandWrong : ChangeSpec := { name := "fnExactDemand", fn := fun _ => fun
  | [d1, d2, d3] => { results := [.lit (.bool false)], args := [d1, d2, d3] }
  | _ => none }
def FnExactDemandWrongFalsely : Prop := fnExactDemandRow.holds Try.pinned (OpenSpec.ofChange fnExactDemandWrong)

/-- 'laws.FnExactCrowded': WHATEVER THE INPUT: true; the input reads as it did. -/
def fnExactCrowdedSpec : ChangeSpec := { name := "fnExactCrowded", fn := fun _ => fun
  | [d] => { results := [.lit (.bool true)], args := [d] }
  | _ => none }
def fnExactCrowdedRow : OpenClaim := { program := "ytmaojjjdepgaeaa", sum := "3501027a2693256520370266e2b3999d9d59c26f6f23334e648227bf0b932dc2", func := "loop.example/g00255/laws.FnExactCrowded", spec := "fnExactCrowded", unfollowed := true, recurses := true, apart := false }
def FnExactCrowdedSaid : Prop := fnExactCrowdedRow.holds Try.pinned (OpenSpec.ofChange fnExactCrowdedSpec)

/-- ITS FALSE NEIGHBOUR: 'it returns false'. Refute it at one input. -/
def fnExactCrowdedWrong : ChangeSpec := { name := "fnExactCrowded", fn := fun _ => fun
  | [d] => { results := [.lit (.bool false)], args := [d] }
  | _ => none }
def FnExactCrowdedWrongFalsely : Prop := fnExactCrowdedRow.holds Try.pinned (OpenSpec.ofChange fnExactCrowdedWrong)

/-- 'laws.FnExactEarliest': WHATEVER THE INPUT: true; the input reads as it did. -/
def fnExactEarliestSpec : ChangeSpec := { name := "fnExactEarliest", fn := fun _ => fun
  | [d] => { results := [.lit (.bool true)], args := [d] }
  | _ => none }
def fnExactEarliestRow : OpenClaim := { program := "ytmaojjjdepgaeaa", sum := "3501027a2693256520370266e2b3999d9d59c26f6f23334e648227bf0b932dc2", func := "loop.example/g00255/laws.FnExactEarliest", spec := "fnExactEarliest", unfollowed := true, recurses := true, apart := false }
def FnExactEarliestSaid : Prop := fnExactEarliestRow.holds Try.pinned (OpenSpec.ofChange fnExactEarliestSpec)

/-- ITS FALSE NEIGHBOUR: 'it returns false'. Refute it at one input. -/
def fnExactEarliestWrong : ChangeSpec := { name := "fnExactEarliest", fn := fun _ => fun
  | [d] => { results := [.lit (.bool false)], args := [d] }
  | _ => none }
def FnExactEarliestWrongFalsely : Prop := fnExactEarliestRow.holds Try.pinned (OpenSpec.ofChange fnExactEarliestWrong)

/-- 'laws.FnExactKept': WHATEVER THE INPUT: true; the input reads as it did. -/
def fnExactKeptSpec : ChangeSpec := { name := "fnExactKept", fn := fun _ => fun
  | [d1, d2] => { results := [.lit (.bool true)], args := [d1, d2] }
  | _ => none }
def fnExactKeptRow : OpenClaim := { program := "ytmaojjjdepgaeaa", sum := "3501027a2693256520370266e2b3999d9d59c26f6f23334e648227bf0b932dc2", func := "loop.example/g00255/laws.FnExactKept", spec := "fnExactKept", unfollowed := true, recurses := true, apart := false }
def FnExactKeptSaid : Prop := fnExactKeptRow.holds Try.pinned (OpenSpec.ofChange fnExactKeptSpec)

/-- ITS FALSE NEIGHBOUR: 'it returns false'. Refute it at one input. -/
def fnExactKeptWrong : ChangeSpec := { name := "fnExactKept", fn := fun _ => fun
  | [d1, d2] => { results := [.lit (.bool false)], args := [d1, d2] }
  | _ => none }
def FnExactKeptWrongFalsely : Prop := fnExactKeptRow.holds Try.pinned (OpenSpec.ofChange fnExactKeptWrong)

/- THE SECOND FORM. 'bulk': how many values and letters a reading holds, each counted each time it is reached (what is shared counts as often as it is met; a slice's spare places count too). A statement '..UptoSaid' is the law's where the arguments, and the package variables that the reading takes, are together of bulk at most 1048576: NARROWER than '..Said'. Prove '..Said' where nothing that the law and all that it calls make is longer than what came in: it says more and counts as full. Else prove '..UptoSaid'. A law counts once. -/
mutual
def uptoBulk {H : Type} : DataW H → Nat
  | .lit (.string bytes) => bytes.length + 1
  | .lit _ => 1
  | .nil => 1
  | .ptr d => uptoBulk d + 1
  | .slice elems spare => uptoBulkAll elems + uptoBulkAll spare + 1
  | .agg parts => uptoBulkAll parts + 1
  | .iface _ d => uptoBulk d + 1
  | .map entries => uptoBulkEntries entries + 1
  | .held _ => 1
def uptoBulkAll {H : Type} : List (DataW H) → Nat
  | [] => 0
  | d :: r => uptoBulk d + uptoBulkAll r
def uptoBulkEntries {H : Type} : List (Lit × DataW H) → Nat
  | [] => 0
  | x :: r => uptoBulkEntry x + uptoBulkEntries r
def uptoBulkEntry {H : Type} : Lit × DataW H → Nat
  | (.string bytes, d) => bytes.length + uptoBulk d + 1
  | (_, d) => uptoBulk d + 1
 end
def uptoSmall : (H : Type) → List (DataW H) → Bool := fun _ ds => decide (uptoBulkAll ds ≤ 1048576)
def OpenSpec.upto (s : _root_.Go.ChangeSpec) : _root_.Go.OpenSpec := { _root_.Go.OpenSpec.ofChange s with cond := some uptoSmall }

/-- 'laws.FnGraham', WHERE WHAT IT READS IS OF BULK AT MOST 1048576: true; the input reads as it did. -/
def fnGrahamUptoRow : OpenClaim := { program := "ytmaojjjdepgaeaa", sum := "3501027a2693256520370266e2b3999d9d59c26f6f23334e648227bf0b932dc2", func := "loop.example/g00255/laws.FnGraham", spec := "fnGraham", unfollowed := true, recurses := true, apart := false, narrowed := true }
def FnGrahamUptoSaid : Prop := fnGrahamUptoRow.holds Try.pinned (OpenSpec.upto fnGrahamSpec)

/-- 'laws.FnHorn', WHERE WHAT IT READS IS OF BULK AT MOST 1048576: true; the input reads as it did. -/
def fnHornUptoRow : OpenClaim := { program := "ytmaojjjdepgaeaa", sum := "3501027a2693256520370266e2b3999d9d59c26f6f23334e648227bf0b932dc2", func := "loop.example/g00255/laws.FnHorn", spec := "fnHorn", unfollowed := true, recurses := true, apart := false, narrowed := true }
def FnHornUptoSaid : Prop := fnHornUptoRow.holds Try.pinned (OpenSpec.upto fnHornSpec)

/-- 'laws.FnDemands', WHERE WHAT IT READS IS OF BULK AT MOST 1048576: true; the input reads as it did. -/
def fnDemandsUptoRow : OpenClaim := { program := "ytmaojjjdepgaeaa", sum := "3501027a2693256520370266e2b3999d9d59c26f6f23334e648227bf0b932dc2", func := "loop.example/g00255/laws.FnDemands", spec := "fnDemands", unfollowed := true, recurses := true, apart := false, narrowed := true }
def FnDemandsUptoSaid : Prop := fnDemandsUptoRow.holds Try.pinned (OpenSpec.upto fnDemandsSpec)

/-- 'laws.FnExactSpread', WHERE WHAT IT READS IS OF BULK AT MOST 1048576: true; the input reads as it did. -/
def fnExactSpreadUptoRow : OpenClaim := { program := "ytmaojjjdepgaeaa", sum := "3501027a2693256520370266e2b3999d9d59c26f6f23334e648227bf0b932dc2", func := "loop.example/g00255/laws.FnExactSpread", spec := "fnExactSpread", unfollowed := true, recurses := true, apart := false, narrowed := true }
def FnExactSpreadUptoSaid : Prop := fnExactSpreadUptoRow.holds Try.pinned (OpenSpec.upto fnExactSpreadSpec)

/-- 'laws.FnExactTasksOk', WHERE WHAT IT READS IS OF BULK AT MOST 1048576: true; the input reads as it did. -/
def fnExactTasksOkUptoRow : OpenClaim := { program := "ytmaojjjdepgaeaa", sum := "3501027a2693256520370266e2b3999d9d59c26f6f23334e648227bf0b932dc2", func := "loop.example/g00255/laws.FnExactTasksOk", spec := "fnExactTasksOk", unfollowed := true, recurses := true, apart := false, narrowed := true }
def FnExactTasksOkUptoSaid : Prop := fnExactTasksOkUptoRow.holds Try.pinned (OpenSpec.upto fnExactTasksOkSpec)

/-- 'laws.FnExactDemand', WHERE WHAT IT READS IS OF BULK AT MOST 1048576: true; the input reads as it did. -/
def fnExactDemandUptoRow : OpenClaim := { program := "ytmaojjjdepgaeaa", sum := "3501027a2693256520370266e2b3999d9d59c26f6f23334e648227bf0b932dc2", func := "loop.example/g00255/laws.FnExactDemand", spec := "fnExactDemand", unfollowed := true, recurses := true, apart := false, narrowed := true }
def FnExactDemandUptoSaid : Prop := fnExactDemandUptoRow.holds Try.pinned (OpenSpec.upto fnExactDemandSpec)

/-- 'laws.FnExactCrowded', WHERE WHAT IT READS IS OF BULK AT MOST 1048576: true; the input reads as it did. -/
def fnExactCrowdedUptoRow : OpenClaim := { program := "ytmaojjjdepgaeaa", sum := "3501027a2693256520370266e2b3999d9d59c26f6f23334e648227bf0b932dc2", func := "loop.example/g00255/laws.FnExactCrowded", spec := "fnExactCrowded", unfollowed := true, recurses := true, apart := false, narrowed := true }
def FnExactCrowdedUptoSaid : Prop := fnExactCrowdedUptoRow.holds Try.pinned (OpenSpec.upto fnExactCrowdedSpec)

/-- 'laws.FnExactEarliest', WHERE WHAT IT READS IS OF BULK AT MOST 1048576: true; the input reads as it did. -/
def fnExactEarliestUptoRow : OpenClaim := { program := "ytmaojjjdepgaeaa", sum := "3501027a2693256520370266e2b3999d9d59c26f6f23334e648227bf0b932dc2", func := "loop.example/g00255/laws.FnExactEarliest", spec := "fnExactEarliest", unfollowed := true, recurses := true, apart := false, narrowed := true }
def FnExactEarliestUptoSaid : Prop := fnExactEarliestUptoRow.holds Try.pinned (OpenSpec.upto fnExactEarliestSpec)

/-- 'laws.FnExactKept', WHERE WHAT IT READS IS OF BULK AT MOST 1048576: true; the input reads as it did. -/
def fnExactKeptUptoRow : OpenClaim := { program := "ytmaojjjdepgaeaa", sum := "3501027a2693256520370266e2b3999d9d59c26f6f23334e648227bf0b932dc2", func := "loop.example/g00255/laws.FnExactKept", spec := "fnExactKept", unfollowed := true, recurses := true, apart := false, narrowed := true }
def FnExactKeptUptoSaid : Prop := fnExactKeptUptoRow.holds Try.pinned (OpenSpec.upto fnExactKeptSpec)

end Rows
end Go.Proofs.Ytmaojjjdepgaeaa
