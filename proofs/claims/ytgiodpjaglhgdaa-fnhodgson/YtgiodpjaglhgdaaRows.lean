/-
  No cell of these rows narrows 'for every input' (looked for: loops, veiled, ifaces, maps, wideKeys, modest, calm, conditions, laid).
  DERIVED. THE GIVEN ROWS OF THIS SEAT. 9 by the template 'for every input the law returns true; each argument reads behind the call as it read before'; 0 by the template 'total and deterministic' (their statements: YtgiodpjaglhgdaaTotals.lean).
  GIVEN WITH THE SEED: the statements are not yours to turn. If you find one false, say at which input.
  Laid BY PROGRAM, IN A SANDBOX (cutbox-rows.mjs): the forced cells as the released guide's own fill.sh prints them over the translation f4d8d5eea55cd5c0… (all of the seat's roots in one cut). By AI agents, Wed Nov 11 2026. No macro, syntax, notation, axiom, sorry.
-/
import Derived.Test.YtgiodpjaglhgdaaChecked
import GoSem.Claim
import GoSem.ClaimJoined
import GoSem.ClaimMapViews
import Derived.JoinedTies
import Derived.KernelRfl
namespace Go.Proofs.Ytgiodpjaglhgdaa
/- THE CELL 'sum', in the pinned program and in every row, IS THE sha256 OF THE DUMP (.gsa) THAT YtgiodpjaglhgdaaProg.lean LOADS. Nothing in Lean hashes anything: it is a label: what it is worth is what the hold of that sum in a sandbox is worth. -/
noncomputable def Try.pinned : Pinned := { name := "ytgiodpjaglhgdaa", sum := "f4d8d5eea55cd5c01cf663810f47bdd3a5cfebddaf1d866392d34b5942a2ab08", checked := Try.checked }
namespace Rows
def none {H : Type} : Left H := { results := [], args := [] }

/-- 'laws.FnQueued': WHATEVER THE INPUT: true; the input reads as it did. -/
def fnQueuedSpec : ChangeSpec := { name := "fnQueued", fn := fun _ => fun
  | [d] => { results := [.lit (.bool true)], args := [d] }
  | _ => none }
def fnQueuedRow : OpenClaim := { program := "ytgiodpjaglhgdaa", sum := "f4d8d5eea55cd5c01cf663810f47bdd3a5cfebddaf1d866392d34b5942a2ab08", func := "loop.example/g00255/laws.FnQueued", spec := "fnQueued", unfollowed := true, recurses := true, apart := false }
def FnQueuedSaid : Prop := fnQueuedRow.holds Try.pinned (OpenSpec.ofChange fnQueuedSpec)

/-- ITS FALSE NEIGHBOUR: 'it returns false'. Refute it at one input. -/
def fnQueuedWrong : ChangeSpec := { name := "fnQueued", fn := fun _ => fun
  | [d] => { results := [.lit (.bool false)], args := [d] }
  | _ => none }
def FnQueuedWrongFalsely : Prop := fnQueuedRow.holds Try.pinned (OpenSpec.ofChange fnQueuedWrong)

/-- 'laws.FnEnds': WHATEVER THE INPUT: true; the input reads as it did. -/
def fnEndsSpec : ChangeSpec := { name := "fnEnds", fn := fun _ => fun
  | [d] => { results := [.lit (.bool true)], args := [d] }
  | _ => none }
def fnEndsRow : OpenClaim := { program := "ytgiodpjaglhgdaa", sum := "f4d8d5eea55cd5c01cf663810f47bdd3a5cfebddaf1d866392d34b5942a2ab08", func := "loop.example/g00255/laws.FnEnds", spec := "fnEnds", unfollowed := true, recurses := true, apart := false }
def FnEndsSaid : Prop := fnEndsRow.holds Try.pinned (OpenSpec.ofChange fnEndsSpec)

/-- ITS FALSE NEIGHBOUR: 'it returns false'. Refute it at one input. -/
def fnEndsWrong : ChangeSpec := { name := "fnEnds", fn := fun _ => fun
  | [d] => { results := [.lit (.bool false)], args := [d] }
  | _ => none }
def FnEndsWrongFalsely : Prop := fnEndsRow.holds Try.pinned (OpenSpec.ofChange fnEndsWrong)

/-- 'laws.FnJackson': WHATEVER THE INPUT: true; the input reads as it did. -/
def fnJacksonSpec : ChangeSpec := { name := "fnJackson", fn := fun _ => fun
  | [d] => { results := [.lit (.bool true)], args := [d] }
  | _ => none }
def fnJacksonRow : OpenClaim := { program := "ytgiodpjaglhgdaa", sum := "f4d8d5eea55cd5c01cf663810f47bdd3a5cfebddaf1d866392d34b5942a2ab08", func := "loop.example/g00255/laws.FnJackson", spec := "fnJackson", unfollowed := true, recurses := true, apart := false }
def FnJacksonSaid : Prop := fnJacksonRow.holds Try.pinned (OpenSpec.ofChange fnJacksonSpec)

/-- ITS FALSE NEIGHBOUR: 'it returns false'. Refute it at one input. -/
def fnJacksonWrong : ChangeSpec := { name := "fnJackson", fn := fun _ => fun
  | [d] => { results := [.lit (.bool false)], args := [d] }
  | _ => none }
def FnJacksonWrongFalsely : Prop := fnJacksonRow.holds Try.pinned (OpenSpec.ofChange fnJacksonWrong)

/-- 'laws.FnHodgson': WHATEVER THE INPUT: true; the input reads as it did. -/
def fnHodgsonSpec : ChangeSpec := { name := "fnHodgson", fn := fun _ => fun
  | [d] => { results := [.lit (.bool true)], args := [d] }
  | _ => none }
def fnHodgsonRow : OpenClaim := { program := "ytgiodpjaglhgdaa", sum := "f4d8d5eea55cd5c01cf663810f47bdd3a5cfebddaf1d866392d34b5942a2ab08", func := "loop.example/g00255/laws.FnHodgson", spec := "fnHodgson", unfollowed := true, recurses := true, apart := false }
def FnHodgsonSaid : Prop := fnHodgsonRow.holds Try.pinned (OpenSpec.ofChange fnHodgsonSpec)

/-- ITS FALSE NEIGHBOUR: 'it returns false'. Refute it at one input. -/
def fnHodgsonWrong : ChangeSpec := { name := "fnHodgson", fn := fun _ => fun
  | [d] => { results := [.lit (.bool false)], args := [d] }
  | _ => none }
def FnHodgsonWrongFalsely : Prop := fnHodgsonRow.holds Try.pinned (OpenSpec.ofChange fnHodgsonWrong)

/-- 'laws.FnExactJackson': WHATEVER THE INPUT: true; the input reads as it did. -/
def fnExactJacksonSpec : ChangeSpec := { name := "fnExactJackson", fn := fun _ => fun
  | [d] => { results := [.lit (.bool true)], args := [d] }
  | _ => none }
def fnExactJacksonRow : OpenClaim := { program := "ytgiodpjaglhgdaa", sum := "f4d8d5eea55cd5c01cf663810f47bdd3a5cfebddaf1d866392d34b5942a2ab08", func := "loop.example/g00255/laws.FnExactJackson", spec := "fnExactJackson", unfollowed := true, recurses := true, apart := false }
def FnExactJacksonSaid : Prop := fnExactJacksonRow.holds Try.pinned (OpenSpec.ofChange fnExactJacksonSpec)

/-- ITS FALSE NEIGHBOUR: 'it returns false'. Refute it at one input. -/
def fnExactJacksonWrong : ChangeSpec := { name := "fnExactJackson", fn := fun _ => fun
  | [d] => { results := [.lit (.bool false)], args := [d] }
  | _ => none }
def FnExactJacksonWrongFalsely : Prop := fnExactJacksonRow.holds Try.pinned (OpenSpec.ofChange fnExactJacksonWrong)

/-- 'laws.FnExactSmith': WHATEVER THE INPUT: true; the input reads as it did. -/
def fnExactSmithSpec : ChangeSpec := { name := "fnExactSmith", fn := fun _ => fun
  | [d] => { results := [.lit (.bool true)], args := [d] }
  | _ => none }
def fnExactSmithRow : OpenClaim := { program := "ytgiodpjaglhgdaa", sum := "f4d8d5eea55cd5c01cf663810f47bdd3a5cfebddaf1d866392d34b5942a2ab08", func := "loop.example/g00255/laws.FnExactSmith", spec := "fnExactSmith", unfollowed := true, recurses := true, apart := false }
def FnExactSmithSaid : Prop := fnExactSmithRow.holds Try.pinned (OpenSpec.ofChange fnExactSmithSpec)

/-- ITS FALSE NEIGHBOUR: 'it returns false'. Refute it at one input. -/
def fnExactSmithWrong : ChangeSpec := { name := "fnExactSmith", fn := fun _ => fun
  | [d] => { results := [.lit (.bool false)], args := [d] }
  | _ => none }
def FnExactSmithWrongFalsely : Prop := fnExactSmithRow.holds Try.pinned (OpenSpec.ofChange fnExactSmithWrong)

/-- 'laws.FnExactShortest': WHATEVER THE INPUT: true; the input reads as it did. -/
def fnExactShortestSpec : ChangeSpec := { name := "fnExactShortest", fn := fun _ => fun
  | [d] => { results := [.lit (.bool true)], args := [d] }
  | _ => none }
def fnExactShortestRow : OpenClaim := { program := "ytgiodpjaglhgdaa", sum := "f4d8d5eea55cd5c01cf663810f47bdd3a5cfebddaf1d866392d34b5942a2ab08", func := "loop.example/g00255/laws.FnExactShortest", spec := "fnExactShortest", unfollowed := true, recurses := true, apart := false }
def FnExactShortestSaid : Prop := fnExactShortestRow.holds Try.pinned (OpenSpec.ofChange fnExactShortestSpec)

/-- ITS FALSE NEIGHBOUR: 'it returns false'. Refute it at one input. -/
def fnExactShortestWrong : ChangeSpec := { name := "fnExactShortest", fn := fun _ => fun
  | [d] => { results := [.lit (.bool false)], args := [d] }
  | _ => none }
def FnExactShortestWrongFalsely : Prop := fnExactShortestRow.holds Try.pinned (OpenSpec.ofChange fnExactShortestWrong)

/-- 'laws.FnExactHodgson': WHATEVER THE INPUT: true; the input reads as it did. -/
def fnExactHodgsonSpec : ChangeSpec := { name := "fnExactHodgson", fn := fun _ => fun
  | [d] => { results := [.lit (.bool true)], args := [d] }
  | _ => none }
def fnExactHodgsonRow : OpenClaim := { program := "ytgiodpjaglhgdaa", sum := "f4d8d5eea55cd5c01cf663810f47bdd3a5cfebddaf1d866392d34b5942a2ab08", func := "loop.example/g00255/laws.FnExactHodgson", spec := "fnExactHodgson", unfollowed := true, recurses := true, apart := false }
def FnExactHodgsonSaid : Prop := fnExactHodgsonRow.holds Try.pinned (OpenSpec.ofChange fnExactHodgsonSpec)

/-- ITS FALSE NEIGHBOUR: 'it returns false'. Refute it at one input. -/
def fnExactHodgsonWrong : ChangeSpec := { name := "fnExactHodgson", fn := fun _ => fun
  | [d] => { results := [.lit (.bool false)], args := [d] }
  | _ => none }
def FnExactHodgsonWrongFalsely : Prop := fnExactHodgsonRow.holds Try.pinned (OpenSpec.ofChange fnExactHodgsonWrong)

/-- 'laws.FnExactTurns': WHATEVER THE INPUT: true; the input reads as it did. -/
def fnExactTurnsSpec : ChangeSpec := { name := "fnExactTurns", fn := fun _ => fun
  | [d] => { results := [.lit (.bool true)], args := [d] }
  | _ => none }
def fnExactTurnsRow : OpenClaim := { program := "ytgiodpjaglhgdaa", sum := "f4d8d5eea55cd5c01cf663810f47bdd3a5cfebddaf1d866392d34b5942a2ab08", func := "loop.example/g00255/laws.FnExactTurns", spec := "fnExactTurns", unfollowed := true, recurses := true, apart := false }
def FnExactTurnsSaid : Prop := fnExactTurnsRow.holds Try.pinned (OpenSpec.ofChange fnExactTurnsSpec)

/-- ITS FALSE NEIGHBOUR: 'it returns false'. Refute it at one input. -/
def fnExactTurnsWrong : ChangeSpec := { name := "fnExactTurns", fn := fun _ => fun
  | [d] => { results := [.lit (.bool false)], args := [d] }
  | _ => none }
def FnExactTurnsWrongFalsely : Prop := fnExactTurnsRow.holds Try.pinned (OpenSpec.ofChange fnExactTurnsWrong)

/- THE SECOND FORM. 'bulk': how many values and letters a reading holds, each counted each time it is reached (what is shared counts as often as it is met; a slice's spare places count too). A statement '..UptoSaid' is the law's where the arguments, and the package variables that the reading takes, are together of bulk at most 1048576: NARROWER than '..Said'. Prove '..Said' where nothing that the law and all that it calls make is longer than what came in: it says more and counts as full. Else prove '..UptoSaid'. A law counts once. -/
mutual
def uptoBulk {H : Type} : DataW H → Nat
  | .lit (.string bytes) => bytes.length + 1
  | .lit _ => 1
  | .nil => 1
  | .ptr d => uptoBulk d + 1
  | .slice elems spare => uptoBulkAll elems + uptoBulkAll spare + 1
  | .agg parts => uptoBulkAll parts + 1
  | .iface _ d => uptoBulk d + 1
  | .map entries => uptoBulkEntries entries + 1
  | .held _ => 1
def uptoBulkAll {H : Type} : List (DataW H) → Nat
  | [] => 0
  | d :: r => uptoBulk d + uptoBulkAll r
def uptoBulkEntries {H : Type} : List (Lit × DataW H) → Nat
  | [] => 0
  | x :: r => uptoBulkEntry x + uptoBulkEntries r
def uptoBulkEntry {H : Type} : Lit × DataW H → Nat
  | (.string bytes, d) => bytes.length + uptoBulk d + 1
  | (_, d) => uptoBulk d + 1
 end
def uptoSmall : (H : Type) → List (DataW H) → Bool := fun _ ds => decide (uptoBulkAll ds ≤ 1048576)
def OpenSpec.upto (s : _root_.Go.ChangeSpec) : _root_.Go.OpenSpec := { _root_.Go.OpenSpec.ofChange s with cond := some uptoSmall }

/-- 'laws.FnQueued', WHERE WHAT IT READS IS OF BULK AT MOST 1048576: true; the input reads as it did. -/
def fnQueuedUptoRow : OpenClaim := { program := "ytgiodpjaglhgdaa", sum := "f4d8d5eea55cd5c01cf663810f47bdd3a5cfebddaf1d866392d34b5942a2ab08", func := "loop.example/g00255/laws.FnQueued", spec := "fnQueued", unfollowed := true, recurses := true, apart := false, narrowed := true }
def FnQueuedUptoSaid : Prop := fnQueuedUptoRow.holds Try.pinned (OpenSpec.upto fnQueuedSpec)

/-- 'laws.FnEnds', WHERE WHAT IT READS IS OF BULK AT MOST 1048576: true; the input reads as it did. -/
def fnEndsUptoRow : OpenClaim := { program := "ytgiodpjaglhgdaa", sum := "f4d8d5eea55cd5c01cf663810f47bdd3a5cfebddaf1d866392d34b5942a2ab08", func := "loop.example/g00255/laws.FnEnds", spec := "fnEnds", unfollowed := true, recurses := true, apart := false, narrowed := true }
def FnEndsUptoSaid : Prop := fnEndsUptoRow.holds Try.pinned (OpenSpec.upto fnEndsSpec)

/-- 'laws.FnJackson', WHERE WHAT IT READS IS OF BULK AT MOST 1048576: true; the input reads as it did. -/
def fnJacksonUptoRow : OpenClaim := { program := "ytgiodpjaglhgdaa", sum := "f4d8d5eea55cd5c01cf663810f47bdd3a5cfebddaf1d866392d34b5942a2ab08", func := "loop.example/g00255/laws.FnJackson", spec := "fnJackson", unfollowed := true, recurses := true, apart := false, narrowed := true }
def FnJacksonUptoSaid : Prop := fnJacksonUptoRow.holds Try.pinned (OpenSpec.upto fnJacksonSpec)

/-- 'laws.FnHodgson', WHERE WHAT IT READS IS OF BULK AT MOST 1048576: true; the input reads as it did. -/
def fnHodgsonUptoRow : OpenClaim := { program := "ytgiodpjaglhgdaa", sum := "f4d8d5eea55cd5c01cf663810f47bdd3a5cfebddaf1d866392d34b5942a2ab08", func := "loop.example/g00255/laws.FnHodgson", spec := "fnHodgson", unfollowed := true, recurses := true, apart := false, narrowed := true }
def FnHodgsonUptoSaid : Prop := fnHodgsonUptoRow.holds Try.pinned (OpenSpec.upto fnHodgsonSpec)

/-- 'laws.FnExactJackson', WHERE WHAT IT READS IS OF BULK AT MOST 1048576: true; the input reads as it did. -/
def fnExactJacksonUptoRow : OpenClaim := { program := "ytgiodpjaglhgdaa", sum := "f4d8d5eea55cd5c01cf663810f47bdd3a5cfebddaf1d866392d34b5942a2ab08", func := "loop.example/g00255/laws.FnExactJackson", spec := "fnExactJackson", unfollowed := true, recurses := true, apart := false, narrowed := true }
def FnExactJacksonUptoSaid : Prop := fnExactJacksonUptoRow.holds Try.pinned (OpenSpec.upto fnExactJacksonSpec)

/-- 'laws.FnExactSmith', WHERE WHAT IT READS IS OF BULK AT MOST 1048576: true; the input reads as it did. -/
def fnExactSmithUptoRow : OpenClaim := { program := "ytgiodpjaglhgdaa", sum := "f4d8d5eea55cd5c01cf663810f47bdd3a5cfebddaf1d866392d34b5942a2ab08", func := "loop.example/g00255/laws.FnExactSmith", spec := "fnExactSmith", unfollowed := true, recurses := true, apart := false, narrowed := true }
def FnExactSmithUptoSaid : Prop := fnExactSmithUptoRow.holds Try.pinned (OpenSpec.upto fnExactSmithSpec)

/-- 'laws.FnExactShortest', WHERE WHAT IT READS IS OF BULK AT MOST 1048576: true; the input reads as it did. -/
def fnExactShortestUptoRow : OpenClaim := { program := "ytgiodpjaglhgdaa", sum := "f4d8d5eea55cd5c01cf663810f47bdd3a5cfebddaf1d866392d34b5942a2ab08", func := "loop.example/g00255/laws.FnExactShortest", spec := "fnExactShortest", unfollowed := true, recurses := true, apart := false, narrowed := true }
def FnExactShortestUptoSaid : Prop := fnExactShortestUptoRow.holds Try.pinned (OpenSpec.upto fnExactShortestSpec)

/-- 'laws.FnExactHodgson', WHERE WHAT IT READS IS OF BULK AT MOST 1048576: true; the input reads as it did. -/
def fnExactHodgsonUptoRow : OpenClaim := { program := "ytgiodpjaglhgdaa", sum := "f4d8d5eea55cd5c01cf663810f47bdd3a5cfebddaf1d866392d34b5942a2ab08", func := "loop.example/g00255/laws.FnExactHodgson", spec := "fnExactHodgson", unfollowed := true, recurses := true, apart := false, narrowed := true }
def FnExactHodgsonUptoSaid : Prop := fnExactHodgsonUptoRow.holds Try.pinned (OpenSpec.upto fnExactHodgsonSpec)

/-- 'laws.FnExactTurns', WHERE WHAT IT READS IS OF BULK AT MOST 1048576: true; the input reads as it did. -/
def fnExactTurnsUptoRow : OpenClaim := { program := "ytgiodpjaglhgdaa", sum := "f4d8d5eea55cd5c01cf663810f47bdd3a5cfebddaf1d866392d34b5942a2ab08", func := "loop.example/g00255/laws.FnExactTurns", spec := "fnExactTurns", unfollowed := true, recurses := true, apart := false, narrowed := true }
def FnExactTurnsUptoSaid : Prop := fnExactTurnsUptoRow.holds Try.pinned (OpenSpec.upto fnExactTurnsSpec)

end Rows
end Go.Proofs.Ytgiodpjaglhgdaa
