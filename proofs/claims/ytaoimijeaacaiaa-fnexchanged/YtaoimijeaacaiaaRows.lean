/-
  No cell of these rows narrows 'for every input' (looked for: loops, veiled, ifaces, maps, wideKeys, modest, calm, conditions, laid).
  DERIVED. THE GIVEN ROWS OF THIS SEAT. 11 by the template 'for every input the law returns true; each argument reads behind the call as it read before'; 0 by the template 'total and deterministic' (their statements: YtaoimijeaacaiaaTotals.lean).
  GIVEN WITH THE SEED: the statements are not yours to turn. If you find one false, say at which input.
  Laid BY PROGRAM, IN A SANDBOX (cutbox-rows.mjs): the forced cells as the released guide's own fill.sh prints them over the translation 58bebf6855057faa… (all of the seat's roots in one cut). By AI agents, Wed Nov 11 2026. No macro, syntax, notation, axiom, sorry.
-/
import Derived.Test.YtaoimijeaacaiaaChecked
import GoSem.Claim
import GoSem.ClaimJoined
import GoSem.ClaimMapViews
import Derived.JoinedTies
import Derived.KernelRfl
namespace Go.Proofs.Ytaoimijeaacaiaa
/- THE CELL 'sum', in the pinned program and in every row, IS THE sha256 OF THE DUMP (.gsa) THAT YtaoimijeaacaiaaProg.lean LOADS. Nothing in Lean hashes anything: it is a label: what it is worth is what the hold of that sum in a sandbox is worth. -/
noncomputable def Try.pinned : Pinned := { name := "ytaoimijeaacaiaa", sum := "58bebf6855057faa74bca6c979aeca8d412cbd8183138527e8f53e44362a3597", checked := Try.checked }
namespace Rows
def none {H : Type} : Left H := { results := [], args := [] }

/-- 'laws.FnQueued': WHATEVER THE INPUT: true; the input reads as it did. -/
def fnQueuedSpec : ChangeSpec := { name := "fnQueued", fn := fun _ => fun
  | [d] => { results := [.lit (.bool true)], args := [d] }
  | _ => none }
def fnQueuedRow : OpenClaim := { program := "ytaoimijeaacaiaa", sum := "58bebf6855057faa74bca6c979aeca8d412cbd8183138527e8f53e44362a3597", func := "loop.example/g00255/laws.FnQueued", spec := "fnQueued", unfollowed := true, recurses := true, apart := false }
def FnQueuedSaid : Prop := fnQueuedRow.holds Try.pinned (OpenSpec.ofChange fnQueuedSpec)

/-- ITS FALSE NEIGHBOUR: 'it returns false'. Refute it at one input. -/
def fnQueuedWrong : ChangeSpec := { name := "fnQueued", fn := fun _ => fun
  | [d] => { results := [.lit (.bool false)], args := [d] }
  | _ => none }
def FnQueuedWrongFalsely : Prop := fnQueuedRow.holds Try.pinned (OpenSpec.ofChange fnQueuedWrong)

/-- 'laws.FnExactJobsOk': WHATEVER THE INPUT: true; the input reads as it did. -/
def fnExactJobsOkSpec : ChangeSpec := { name := "fnExactJobsOk", fn := fun _ => fun
  | [d] => { results := [.lit (.bool true)], args := [d] }
  | _ => none }
def fnExactJobsOkRow : OpenClaim := { program := "ytaoimijeaacaiaa", sum := "58bebf6855057faa74bca6c979aeca8d412cbd8183138527e8f53e44362a3597", func := "loop.example/g00255/laws.FnExactJobsOk", spec := "fnExactJobsOk", unfollowed := true, recurses := true, apart := false }
def FnExactJobsOkSaid : Prop := fnExactJobsOkRow.holds Try.pinned (OpenSpec.ofChange fnExactJobsOkSpec)

/-- ITS FALSE NEIGHBOUR: 'it returns false'. Refute it at one input. -/
def fnExactJobsOkWrong : ChangeSpec := { name := "fnExactJobsOk", fn := fun _ => fun
  | [d] => { results := [.lit (.bool false)], args := [d] }
  | _ => none }
def FnExactJobsOkWrongFalsely : Prop := fnExactJobsOkRow.holds Try.pinned (OpenSpec.ofChange fnExactJobsOkWrong)

/-- 'laws.FnExactQueue': WHATEVER THE INPUT: true; the input reads as it did. -/
def fnExactQueueSpec : ChangeSpec := { name := "fnExactQueue", fn := fun _ => fun
  | [d] => { results := [.lit (.bool true)], args := [d] }
  | _ => none }
def fnExactQueueRow : OpenClaim := { program := "ytaoimijeaacaiaa", sum := "58bebf6855057faa74bca6c979aeca8d412cbd8183138527e8f53e44362a3597", func := "loop.example/g00255/laws.FnExactQueue", spec := "fnExactQueue", unfollowed := true, recurses := true, apart := false }
def FnExactQueueSaid : Prop := fnExactQueueRow.holds Try.pinned (OpenSpec.ofChange fnExactQueueSpec)

/-- ITS FALSE NEIGHBOUR: 'it returns false'. Refute it at one input. -/
def fnExactQueueWrong : ChangeSpec := { name := "fnExactQueue", fn := fun _ => fun
  | [d] => { results := [.lit (.bool false)], args := [d] }
  | _ => none }
def FnExactQueueWrongFalsely : Prop := fnExactQueueRow.holds Try.pinned (OpenSpec.ofChange fnExactQueueWrong)

/-- 'laws.FnExactPlace': WHATEVER THE INPUT: true; the input reads as it did. -/
def fnExactPlaceSpec : ChangeSpec := { name := "fnExactPlace", fn := fun _ => fun
  | [d1, d2] => { results := [.lit (.bool true)], args := [d1, d2] }
  | _ => none }
def fnExactPlaceRow : OpenClaim := { program := "ytaoimijeaacaiaa", sum := "58bebf6855057faa74bca6c979aeca8d412cbd8183138527e8f53e44362a3597", func := "loop.example/g00255/laws.FnExactPlace", spec := "fnExactPlace", unfollowed := true, recurses := true, apart := false }
def FnExactPlaceSaid : Prop := fnExactPlaceRow.holds Try.pinned (OpenSpec.ofChange fnExactPlaceSpec)

/-- ITS FALSE NEIGHBOUR: 'it returns false'. Refute it at one input. -/
def fnExactPlaceWrong : ChangeSpec := { name := "fnExactPlace", fn := fun _ => fun
  | [d1, d2] => { results := [.lit (.bool false)], args := [d1, d2] }
  | _ => none }
def FnExactPlaceWrongFalsely : Prop := fnExactPlaceRow.holds Try.pinned (OpenSpec.ofChange fnExactPlaceWrong)

/-- 'laws.FnEnds': WHATEVER THE INPUT: true; the input reads as it did. -/
def fnEndsSpec : ChangeSpec := { name := "fnEnds", fn := fun _ => fun
  | [d] => { results := [.lit (.bool true)], args := [d] }
  | _ => none }
def fnEndsRow : OpenClaim := { program := "ytaoimijeaacaiaa", sum := "58bebf6855057faa74bca6c979aeca8d412cbd8183138527e8f53e44362a3597", func := "loop.example/g00255/laws.FnEnds", spec := "fnEnds", unfollowed := true, recurses := true, apart := false }
def FnEndsSaid : Prop := fnEndsRow.holds Try.pinned (OpenSpec.ofChange fnEndsSpec)

/-- ITS FALSE NEIGHBOUR: 'it returns false'. Refute it at one input. -/
def fnEndsWrong : ChangeSpec := { name := "fnEnds", fn := fun _ => fun
  | [d] => { results := [.lit (.bool false)], args := [d] }
  | _ => none }
def FnEndsWrongFalsely : Prop := fnEndsRow.holds Try.pinned (OpenSpec.ofChange fnEndsWrong)

/-- 'laws.FnExchanged': WHATEVER THE INPUT: true; the input reads as it did. -/
def fnExchangedSpec : ChangeSpec := { name := "fnExchanged", fn := fun _ => fun
  | [d] => { results := [.lit (.bool true)], args := [d] }
  | _ => none }
def fnExchangedRow : OpenClaim := { program := "ytaoimijeaacaiaa", sum := "58bebf6855057faa74bca6c979aeca8d412cbd8183138527e8f53e44362a3597", func := "loop.example/g00255/laws.FnExchanged", spec := "fnExchanged", unfollowed := true, recurses := true, apart := false }
def FnExchangedSaid : Prop := fnExchangedRow.holds Try.pinned (OpenSpec.ofChange fnExchangedSpec)

/-- ITS FALSE NEIGHBOUR: 'it returns false'. Refute it at one input. -/
def fnExchangedWrong : ChangeSpec := { name := "fnExchanged", fn := fun _ => fun
  | [d] => { results := [.lit (.bool false)], args := [d] }
  | _ => none }
def FnExchangedWrongFalsely : Prop := fnExchangedRow.holds Try.pinned (OpenSpec.ofChange fnExchangedWrong)

/-- 'laws.FnExactEnds': WHATEVER THE INPUT: true; the input reads as it did. -/
def fnExactEndsSpec : ChangeSpec := { name := "fnExactEnds", fn := fun _ => fun
  | [d] => { results := [.lit (.bool true)], args := [d] }
  | _ => none }
def fnExactEndsRow : OpenClaim := { program := "ytaoimijeaacaiaa", sum := "58bebf6855057faa74bca6c979aeca8d412cbd8183138527e8f53e44362a3597", func := "loop.example/g00255/laws.FnExactEnds", spec := "fnExactEnds", unfollowed := true, recurses := true, apart := false }
def FnExactEndsSaid : Prop := fnExactEndsRow.holds Try.pinned (OpenSpec.ofChange fnExactEndsSpec)

/-- ITS FALSE NEIGHBOUR: 'it returns false'. Refute it at one input. -/
def fnExactEndsWrong : ChangeSpec := { name := "fnExactEnds", fn := fun _ => fun
  | [d] => { results := [.lit (.bool false)], args := [d] }
  | _ => none }
def FnExactEndsWrongFalsely : Prop := fnExactEndsRow.holds Try.pinned (OpenSpec.ofChange fnExactEndsWrong)

/-- 'laws.FnExactLateness': WHATEVER THE INPUT: true; the input reads as it did. -/
def fnExactLatenessSpec : ChangeSpec := { name := "fnExactLateness", fn := fun _ => fun
  | [d] => { results := [.lit (.bool true)], args := [d] }
  | _ => none }
def fnExactLatenessRow : OpenClaim := { program := "ytaoimijeaacaiaa", sum := "58bebf6855057faa74bca6c979aeca8d412cbd8183138527e8f53e44362a3597", func := "loop.example/g00255/laws.FnExactLateness", spec := "fnExactLateness", unfollowed := true, recurses := true, apart := false }
def FnExactLatenessSaid : Prop := fnExactLatenessRow.holds Try.pinned (OpenSpec.ofChange fnExactLatenessSpec)

/-- ITS FALSE NEIGHBOUR: 'it returns false'. Refute it at one input. -/
def fnExactLatenessWrong : ChangeSpec := { name := "fnExactLateness", fn := fun _ => fun
  | [d] => { results := [.lit (.bool false)], args := [d] }
  | _ => none }
def FnExactLatenessWrongFalsely : Prop := fnExactLatenessRow.holds Try.pinned (OpenSpec.ofChange fnExactLatenessWrong)

/-- 'laws.FnExactWeighted': WHATEVER THE INPUT: true; the input reads as it did. -/
def fnExactWeightedSpec : ChangeSpec := { name := "fnExactWeighted", fn := fun _ => fun
  | [d] => { results := [.lit (.bool true)], args := [d] }
  | _ => none }
def fnExactWeightedRow : OpenClaim := { program := "ytaoimijeaacaiaa", sum := "58bebf6855057faa74bca6c979aeca8d412cbd8183138527e8f53e44362a3597", func := "loop.example/g00255/laws.FnExactWeighted", spec := "fnExactWeighted", unfollowed := true, recurses := true, apart := false }
def FnExactWeightedSaid : Prop := fnExactWeightedRow.holds Try.pinned (OpenSpec.ofChange fnExactWeightedSpec)

/-- ITS FALSE NEIGHBOUR: 'it returns false'. Refute it at one input. -/
def fnExactWeightedWrong : ChangeSpec := { name := "fnExactWeighted", fn := fun _ => fun
  | [d] => { results := [.lit (.bool false)], args := [d] }
  | _ => none }
def FnExactWeightedWrongFalsely : Prop := fnExactWeightedRow.holds Try.pinned (OpenSpec.ofChange fnExactWeightedWrong)

/-- 'laws.FnExactTardy': WHATEVER THE INPUT: true; the input reads as it did. -/
def fnExactTardySpec : ChangeSpec := { name := "fnExactTardy", fn := fun _ => fun
  | [d] => { results := [.lit (.bool true)], args := [d] }
  | _ => none }
def fnExactTardyRow : OpenClaim := { program := "ytaoimijeaacaiaa", sum := "58bebf6855057faa74bca6c979aeca8d412cbd8183138527e8f53e44362a3597", func := "loop.example/g00255/laws.FnExactTardy", spec := "fnExactTardy", unfollowed := true, recurses := true, apart := false }
def FnExactTardySaid : Prop := fnExactTardyRow.holds Try.pinned (OpenSpec.ofChange fnExactTardySpec)

/-- ITS FALSE NEIGHBOUR: 'it returns false'. Refute it at one input. -/
def fnExactTardyWrong : ChangeSpec := { name := "fnExactTardy", fn := fun _ => fun
  | [d] => { results := [.lit (.bool false)], args := [d] }
  | _ => none }
def FnExactTardyWrongFalsely : Prop := fnExactTardyRow.holds Try.pinned (OpenSpec.ofChange fnExactTardyWrong)

/-- 'laws.FnExactWaiting': WHATEVER THE INPUT: true; the input reads as it did. -/
def fnExactWaitingSpec : ChangeSpec := { name := "fnExactWaiting", fn := fun _ => fun
  | [d] => { results := [.lit (.bool true)], args := [d] }
  | _ => none }
def fnExactWaitingRow : OpenClaim := { program := "ytaoimijeaacaiaa", sum := "58bebf6855057faa74bca6c979aeca8d412cbd8183138527e8f53e44362a3597", func := "loop.example/g00255/laws.FnExactWaiting", spec := "fnExactWaiting", unfollowed := true, recurses := true, apart := false }
def FnExactWaitingSaid : Prop := fnExactWaitingRow.holds Try.pinned (OpenSpec.ofChange fnExactWaitingSpec)

/-- ITS FALSE NEIGHBOUR: 'it returns false'. Refute it at one input. -/
def fnExactWaitingWrong : ChangeSpec := { name := "fnExactWaiting", fn := fun _ => fun
  | [d] => { results := [.lit (.bool false)], args := [d] }
  | _ => none }
def FnExactWaitingWrongFalsely : Prop := fnExactWaitingRow.holds Try.pinned (OpenSpec.ofChange fnExactWaitingWrong)

/- THE SECOND FORM. 'bulk': how many values and letters a reading holds, each counted each time it is reached (what is shared counts as often as it is met; a slice's spare places count too). A statement '..UptoSaid' is the law's where the arguments, and the package variables that the reading takes, are together of bulk at most 1048576: NARROWER than '..Said'. Prove '..Said' where nothing that the law and all that it calls make is longer than what came in: it says more and counts as full. Else prove '..UptoSaid'. A law counts once. -/
mutual
def uptoBulk {H : Type} : DataW H → Nat
  | .lit (.string bytes) => bytes.length + 1
  | .lit _ => 1
  | .nil => 1
  | .ptr d => uptoBulk d + 1
  | .slice elems spare => uptoBulkAll elems + uptoBulkAll spare + 1
  | .agg parts => uptoBulkAll parts + 1
  | .iface _ d => uptoBulk d + 1
  | .map entries => uptoBulkEntries entries + 1
  | .held _ => 1
def uptoBulkAll {H : Type} : List (DataW H) → Nat
  | [] => 0
  | d :: r => uptoBulk d + uptoBulkAll r
def uptoBulkEntries {H : Type} : List (Lit × DataW H) → Nat
  | [] => 0
  | x :: r => uptoBulkEntry x + uptoBulkEntries r
def uptoBulkEntry {H : Type} : Lit × DataW H → Nat
  | (.string bytes, d) => bytes.length + uptoBulk d + 1
  | (_, d) => uptoBulk d + 1
 end
def uptoSmall : (H : Type) → List (DataW H) → Bool := fun _ ds => decide (uptoBulkAll ds ≤ 1048576)
def OpenSpec.upto (s : _root_.Go.ChangeSpec) : _root_.Go.OpenSpec := { _root_.Go.OpenSpec.ofChange s with cond := some uptoSmall }

/-- 'laws.FnQueued', WHERE WHAT IT READS IS OF BULK AT MOST 1048576: true; the input reads as it did. -/
def fnQueuedUptoRow : OpenClaim := { program := "ytaoimijeaacaiaa", sum := "58bebf6855057faa74bca6c979aeca8d412cbd8183138527e8f53e44362a3597", func := "loop.example/g00255/laws.FnQueued", spec := "fnQueued", unfollowed := true, recurses := true, apart := false, narrowed := true }
def FnQueuedUptoSaid : Prop := fnQueuedUptoRow.holds Try.pinned (OpenSpec.upto fnQueuedSpec)

/-- 'laws.FnExactJobsOk', WHERE WHAT IT READS IS OF BULK AT MOST 1048576: true; the input reads as it did. -/
def fnExactJobsOkUptoRow : OpenClaim := { program := "ytaoimijeaacaiaa", sum := "58bebf6855057faa74bca6c979aeca8d412cbd8183138527e8f53e44362a3597", func := "loop.example/g00255/laws.FnExactJobsOk", spec := "fnExactJobsOk", unfollowed := true, recurses := true, apart := false, narrowed := true }
def FnExactJobsOkUptoSaid : Prop := fnExactJobsOkUptoRow.holds Try.pinned (OpenSpec.upto fnExactJobsOkSpec)

/-- 'laws.FnExactQueue', WHERE WHAT IT READS IS OF BULK AT MOST 1048576: true; the input reads as it did. -/
def fnExactQueueUptoRow : OpenClaim := { program := "ytaoimijeaacaiaa", sum := "58bebf6855057faa74bca6c979aeca8d412cbd8183138527e8f53e44362a3597", func := "loop.example/g00255/laws.FnExactQueue", spec := "fnExactQueue", unfollowed := true, recurses := true, apart := false, narrowed := true }
def FnExactQueueUptoSaid : Prop := fnExactQueueUptoRow.holds Try.pinned (OpenSpec.upto fnExactQueueSpec)

/-- 'laws.FnExactPlace', WHERE WHAT IT READS IS OF BULK AT MOST 1048576: true; the input reads as it did. -/
def fnExactPlaceUptoRow : OpenClaim := { program := "ytaoimijeaacaiaa", sum := "58bebf6855057faa74bca6c979aeca8d412cbd8183138527e8f53e44362a3597", func := "loop.example/g00255/laws.FnExactPlace", spec := "fnExactPlace", unfollowed := true, recurses := true, apart := false, narrowed := true }
def FnExactPlaceUptoSaid : Prop := fnExactPlaceUptoRow.holds Try.pinned (OpenSpec.upto fnExactPlaceSpec)

/-- 'laws.FnEnds', WHERE WHAT IT READS IS OF BULK AT MOST 1048576: true; the input reads as it did. -/
def fnEndsUptoRow : OpenClaim := { program := "ytaoimijeaacaiaa", sum := "58bebf6855057faa74bca6c979aeca8d412cbd8183138527e8f53e44362a3597", func := "loop.example/g00255/laws.FnEnds", spec := "fnEnds", unfollowed := true, recurses := true, apart := false, narrowed := true }
def FnEndsUptoSaid : Prop := fnEndsUptoRow.holds Try.pinned (OpenSpec.upto fnEndsSpec)

/-- 'laws.FnExchanged', WHERE WHAT IT READS IS OF BULK AT MOST 1048576: true; the input reads as it did. -/
def fnExchangedUptoRow : OpenClaim := { program := "ytaoimijeaacaiaa", sum := "58bebf6855057faa74bca6c979aeca8d412cbd8183138527e8f53e44362a3597", func := "loop.example/g00255/laws.FnExchanged", spec := "fnExchanged", unfollowed := true, recurses := true, apart := false, narrowed := true }
def FnExchangedUptoSaid : Prop := fnExchangedUptoRow.holds Try.pinned (OpenSpec.upto fnExchangedSpec)

/-- 'laws.FnExactEnds', WHERE WHAT IT READS IS OF BULK AT MOST 1048576: true; the input reads as it did. -/
def fnExactEndsUptoRow : OpenClaim := { program := "ytaoimijeaacaiaa", sum := "58bebf6855057faa74bca6c979aeca8d412cbd8183138527e8f53e44362a3597", func := "loop.example/g00255/laws.FnExactEnds", spec := "fnExactEnds", unfollowed := true, recurses := true, apart := false, narrowed := true }
def FnExactEndsUptoSaid : Prop := fnExactEndsUptoRow.holds Try.pinned (OpenSpec.upto fnExactEndsSpec)

/-- 'laws.FnExactLateness', WHERE WHAT IT READS IS OF BULK AT MOST 1048576: true; the input reads as it did. -/
def fnExactLatenessUptoRow : OpenClaim := { program := "ytaoimijeaacaiaa", sum := "58bebf6855057faa74bca6c979aeca8d412cbd8183138527e8f53e44362a3597", func := "loop.example/g00255/laws.FnExactLateness", spec := "fnExactLateness", unfollowed := true, recurses := true, apart := false, narrowed := true }
def FnExactLatenessUptoSaid : Prop := fnExactLatenessUptoRow.holds Try.pinned (OpenSpec.upto fnExactLatenessSpec)

/-- 'laws.FnExactWeighted', WHERE WHAT IT READS IS OF BULK AT MOST 1048576: true; the input reads as it did. -/
def fnExactWeightedUptoRow : OpenClaim := { program := "ytaoimijeaacaiaa", sum := "58bebf6855057faa74bca6c979aeca8d412cbd8183138527e8f53e44362a3597", func := "loop.example/g00255/laws.FnExactWeighted", spec := "fnExactWeighted", unfollowed := true, recurses := true, apart := false, narrowed := true }
def FnExactWeightedUptoSaid : Prop := fnExactWeightedUptoRow.holds Try.pinned (OpenSpec.upto fnExactWeightedSpec)

/-- 'laws.FnExactTardy', WHERE WHAT IT READS IS OF BULK AT MOST 1048576: true; the input reads as it did. -/
def fnExactTardyUptoRow : OpenClaim := { program := "ytaoimijeaacaiaa", sum := "58bebf6855057faa74bca6c979aeca8d412cbd8183138527e8f53e44362a3597", func := "loop.example/g00255/laws.FnExactTardy", spec := "fnExactTardy", unfollowed := true, recurses := true, apart := false, narrowed := true }
def FnExactTardyUptoSaid : Prop := fnExactTardyUptoRow.holds Try.pinned (OpenSpec.upto fnExactTardySpec)

/-- 'laws.FnExactWaiting', WHERE WHAT IT READS IS OF BULK AT MOST 1048576: true; the input reads as it did. -/
def fnExactWaitingUptoRow : OpenClaim := { program := "ytaoimijeaacaiaa", sum := "58bebf6855057faa74bca6c979aeca8d412cbd8183138527e8f53e44362a3597", func := "loop.example/g00255/laws.FnExactWaiting", spec := "fnExactWaiting", unfollowed := true, recurses := true, apart := false, narrowed := true }
def FnExactWaitingUptoSaid : Prop := fnExactWaitingUptoRow.holds Try.pinned (OpenSpec.upto fnExactWaitingSpec)

end Rows
end Go.Proofs.Ytaoimijeaacaiaa
