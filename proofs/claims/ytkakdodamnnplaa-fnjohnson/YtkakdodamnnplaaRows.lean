/-
  No cell of these rows narrows 'for every input' (looked for: loops, veiled, ifaces, maps, wideKeys, modest, calm, conditions, laid).
  DERIVED. THE GIVEN ROWS OF THIS SEAT. 6 by the template 'for every input the law returns true; each argument reads behind the call as it read before'; 0 by the template 'total and deterministic' (their statements: YtkakdodamnnplaaTotals.lean).
  GIVEN WITH THE SEED: the statements are not yours to turn. If you find one false, say at which input.
  Laid BY PROGRAM, IN A SANDBOX (cutbox-rows.mjs): the forced cells as the released guide's own fill.sh prints them over the translation 19aff9a807135d1d… (all of the seat's roots in one cut). By AI agents, Wed Nov 11 2026. No macro, syntax, notation, axiom, sorry.
-/
import Derived.Test.YtkakdodamnnplaaChecked
import GoSem.Claim
import GoSem.ClaimJoined
import GoSem.ClaimMapViews
import Derived.JoinedTies
import Derived.KernelRfl
namespace Go.Proofs.Ytkakdodamnnplaa
/- THE CELL 'sum', in the pinned program and in every row, IS THE sha256 OF THE DUMP (.gsa) THAT YtkakdodamnnplaaProg.lean LOADS. Nothing in Lean hashes anything: it is a label: what it is worth is what the hold of that sum in a sandbox is worth. -/
noncomputable def Try.pinned : Pinned := { name := "ytkakdodamnnplaa", sum := "19aff9a807135d1da62480797a5e48ab8a4a7b680c64d906c1036e77a6ca1cf3", checked := Try.checked }
namespace Rows
def none {H : Type} : Left H := { results := [], args := [] }

/-- 'laws.FnJohnson': WHATEVER THE INPUT: true; the input reads as it did. -/
def fnJohnsonSpec : ChangeSpec := { name := "fnJohnson", fn := fun _ => fun
  | [d] => { results := [.lit (.bool true)], args := [d] }
  | _ => none }
def fnJohnsonRow : OpenClaim := { program := "ytkakdodamnnplaa", sum := "19aff9a807135d1da62480797a5e48ab8a4a7b680c64d906c1036e77a6ca1cf3", func := "loop.example/g00255/laws.FnJohnson", spec := "fnJohnson", unfollowed := true, recurses := true, apart := false }
def FnJohnsonSaid : Prop := fnJohnsonRow.holds Try.pinned (OpenSpec.ofChange fnJohnsonSpec)

/-- ITS FALSE NEIGHBOUR: 'it returns false'. Refute it at one input. -/
def fnJohnsonWrong : ChangeSpec := { name := "fnJohnson", fn := fun _ => fun
  | [d] => { results := [.lit (.bool false)], args := [d] }
  | _ => none }
def FnJohnsonWrongFalsely : Prop := fnJohnsonRow.holds Try.pinned (OpenSpec.ofChange fnJohnsonWrong)

/-- 'laws.FnMirrored': WHATEVER THE INPUT: true; the input reads as it did. -/
def fnMirroredSpec : ChangeSpec := { name := "fnMirrored", fn := fun _ => fun
  | [d] => { results := [.lit (.bool true)], args := [d] }
  | _ => none }
def fnMirroredRow : OpenClaim := { program := "ytkakdodamnnplaa", sum := "19aff9a807135d1da62480797a5e48ab8a4a7b680c64d906c1036e77a6ca1cf3", func := "loop.example/g00255/laws.FnMirrored", spec := "fnMirrored", unfollowed := true, recurses := true, apart := false }
def FnMirroredSaid : Prop := fnMirroredRow.holds Try.pinned (OpenSpec.ofChange fnMirroredSpec)

/-- ITS FALSE NEIGHBOUR: 'it returns false'. Refute it at one input. -/
def fnMirroredWrong : ChangeSpec := { name := "fnMirrored", fn := fun _ => fun
  | [d] => { results := [.lit (.bool false)], args := [d] }
  | _ => none }
def FnMirroredWrongFalsely : Prop := fnMirroredRow.holds Try.pinned (OpenSpec.ofChange fnMirroredWrong)

/-- 'laws.FnExactPassesOk': WHATEVER THE INPUT: true; the input reads as it did. -/
def fnExactPassesOkSpec : ChangeSpec := { name := "fnExactPassesOk", fn := fun _ => fun
  | [d] => { results := [.lit (.bool true)], args := [d] }
  | _ => none }
def fnExactPassesOkRow : OpenClaim := { program := "ytkakdodamnnplaa", sum := "19aff9a807135d1da62480797a5e48ab8a4a7b680c64d906c1036e77a6ca1cf3", func := "loop.example/g00255/laws.FnExactPassesOk", spec := "fnExactPassesOk", unfollowed := true, recurses := true, apart := false }
def FnExactPassesOkSaid : Prop := fnExactPassesOkRow.holds Try.pinned (OpenSpec.ofChange fnExactPassesOkSpec)

/-- ITS FALSE NEIGHBOUR: 'it returns false'. Refute it at one input. -/
def fnExactPassesOkWrong : ChangeSpec := { name := "fnExactPassesOk", fn := fun _ => fun
  | [d] => { results := [.lit (.bool false)], args := [d] }
  | _ => none }
def FnExactPassesOkWrongFalsely : Prop := fnExactPassesOkRow.holds Try.pinned (OpenSpec.ofChange fnExactPassesOkWrong)

/-- 'laws.FnExactThrough': WHATEVER THE INPUT: true; the input reads as it did. -/
def fnExactThroughSpec : ChangeSpec := { name := "fnExactThrough", fn := fun _ => fun
  | [d] => { results := [.lit (.bool true)], args := [d] }
  | _ => none }
def fnExactThroughRow : OpenClaim := { program := "ytkakdodamnnplaa", sum := "19aff9a807135d1da62480797a5e48ab8a4a7b680c64d906c1036e77a6ca1cf3", func := "loop.example/g00255/laws.FnExactThrough", spec := "fnExactThrough", unfollowed := true, recurses := true, apart := false }
def FnExactThroughSaid : Prop := fnExactThroughRow.holds Try.pinned (OpenSpec.ofChange fnExactThroughSpec)

/-- ITS FALSE NEIGHBOUR: 'it returns false'. Refute it at one input. -/
def fnExactThroughWrong : ChangeSpec := { name := "fnExactThrough", fn := fun _ => fun
  | [d] => { results := [.lit (.bool false)], args := [d] }
  | _ => none }
def FnExactThroughWrongFalsely : Prop := fnExactThroughRow.holds Try.pinned (OpenSpec.ofChange fnExactThroughWrong)

/-- 'laws.FnExactJohnson': WHATEVER THE INPUT: true; the input reads as it did. -/
def fnExactJohnsonSpec : ChangeSpec := { name := "fnExactJohnson", fn := fun _ => fun
  | [d] => { results := [.lit (.bool true)], args := [d] }
  | _ => none }
def fnExactJohnsonRow : OpenClaim := { program := "ytkakdodamnnplaa", sum := "19aff9a807135d1da62480797a5e48ab8a4a7b680c64d906c1036e77a6ca1cf3", func := "loop.example/g00255/laws.FnExactJohnson", spec := "fnExactJohnson", unfollowed := true, recurses := true, apart := false }
def FnExactJohnsonSaid : Prop := fnExactJohnsonRow.holds Try.pinned (OpenSpec.ofChange fnExactJohnsonSpec)

/-- ITS FALSE NEIGHBOUR: 'it returns false'. Refute it at one input. -/
def fnExactJohnsonWrong : ChangeSpec := { name := "fnExactJohnson", fn := fun _ => fun
  | [d] => { results := [.lit (.bool false)], args := [d] }
  | _ => none }
def FnExactJohnsonWrongFalsely : Prop := fnExactJohnsonRow.holds Try.pinned (OpenSpec.ofChange fnExactJohnsonWrong)

/-- 'laws.FnExactIdle': WHATEVER THE INPUT: true; the input reads as it did. -/
def fnExactIdleSpec : ChangeSpec := { name := "fnExactIdle", fn := fun _ => fun
  | [d] => { results := [.lit (.bool true)], args := [d] }
  | _ => none }
def fnExactIdleRow : OpenClaim := { program := "ytkakdodamnnplaa", sum := "19aff9a807135d1da62480797a5e48ab8a4a7b680c64d906c1036e77a6ca1cf3", func := "loop.example/g00255/laws.FnExactIdle", spec := "fnExactIdle", unfollowed := true, recurses := true, apart := false }
def FnExactIdleSaid : Prop := fnExactIdleRow.holds Try.pinned (OpenSpec.ofChange fnExactIdleSpec)

/-- ITS FALSE NEIGHBOUR: 'it returns false'. Refute it at one input. -/
def fnExactIdleWrong : ChangeSpec := { name := "fnExactIdle", fn := fun _ => fun
  | [d] => { results := [.lit (.bool false)], args := [d] }
  | _ => none }
def FnExactIdleWrongFalsely : Prop := fnExactIdleRow.holds Try.pinned (OpenSpec.ofChange fnExactIdleWrong)

/- THE SECOND FORM. 'bulk': how many values and letters a reading holds, each counted each time it is reached (what is shared counts as often as it is met; a slice's spare places count too). A statement '..UptoSaid' is the law's where the arguments, and the package variables that the reading takes, are together of bulk at most 1048576: NARROWER than '..Said'. Prove '..Said' where nothing that the law and all that it calls make is longer than what came in: it says more and counts as full. Else prove '..UptoSaid'. A law counts once. -/
mutual
def uptoBulk {H : Type} : DataW H → Nat
  | .lit (.string bytes) => bytes.length + 1
  | .lit _ => 1
  | .nil => 1
  | .ptr d => uptoBulk d + 1
  | .slice elems spare => uptoBulkAll elems + uptoBulkAll spare + 1
  | .agg parts => uptoBulkAll parts + 1
  | .iface _ d => uptoBulk d + 1
  | .map entries => uptoBulkEntries entries + 1
  | .held _ => 1
def uptoBulkAll {H : Type} : List (DataW H) → Nat
  | [] => 0
  | d :: r => uptoBulk d + uptoBulkAll r
def uptoBulkEntries {H : Type} : List (Lit × DataW H) → Nat
  | [] => 0
  | x :: r => uptoBulkEntry x + uptoBulkEntries r
def uptoBulkEntry {H : Type} : Lit × DataW H → Nat
  | (.string bytes, d) => bytes.length + uptoBulk d + 1
  | (_, d) => uptoBulk d + 1
 end
def uptoSmall : (H : Type) → List (DataW H) → Bool := fun _ ds => decide (uptoBulkAll ds ≤ 1048576)
def OpenSpec.upto (s : _root_.Go.ChangeSpec) : _root_.Go.OpenSpec := { _root_.Go.OpenSpec.ofChange s with cond := some uptoSmall }

/-- 'laws.FnJohnson', WHERE WHAT IT READS IS OF BULK AT MOST 1048576: true; the input reads as it did. -/
def fnJohnsonUptoRow : OpenClaim := { program := "ytkakdodamnnplaa", sum := "19aff9a807135d1da62480797a5e48ab8a4a7b680c64d906c1036e77a6ca1cf3", func := "loop.example/g00255/laws.FnJohnson", spec := "fnJohnson", unfollowed := true, recurses := true, apart := false, narrowed := true }
def FnJohnsonUptoSaid : Prop := fnJohnsonUptoRow.holds Try.pinned (OpenSpec.upto fnJohnsonSpec)

/-- 'laws.FnMirrored', WHERE WHAT IT READS IS OF BULK AT MOST 1048576: true; the input reads as it did. -/
def fnMirroredUptoRow : OpenClaim := { program := "ytkakdodamnnplaa", sum := "19aff9a807135d1da62480797a5e48ab8a4a7b680c64d906c1036e77a6ca1cf3", func := "loop.example/g00255/laws.FnMirrored", spec := "fnMirrored", unfollowed := true, recurses := true, apart := false, narrowed := true }
def FnMirroredUptoSaid : Prop := fnMirroredUptoRow.holds Try.pinned (OpenSpec.upto fnMirroredSpec)

/-- 'laws.FnExactPassesOk', WHERE WHAT IT READS IS OF BULK AT MOST 1048576: true; the input reads as it did. -/
def fnExactPassesOkUptoRow : OpenClaim := { program := "ytkakdodamnnplaa", sum := "19aff9a807135d1da62480797a5e48ab8a4a7b680c64d906c1036e77a6ca1cf3", func := "loop.example/g00255/laws.FnExactPassesOk", spec := "fnExactPassesOk", unfollowed := true, recurses := true, apart := false, narrowed := true }
def FnExactPassesOkUptoSaid : Prop := fnExactPassesOkUptoRow.holds Try.pinned (OpenSpec.upto fnExactPassesOkSpec)

/-- 'laws.FnExactThrough', WHERE WHAT IT READS IS OF BULK AT MOST 1048576: true; the input reads as it did. -/
def fnExactThroughUptoRow : OpenClaim := { program := "ytkakdodamnnplaa", sum := "19aff9a807135d1da62480797a5e48ab8a4a7b680c64d906c1036e77a6ca1cf3", func := "loop.example/g00255/laws.FnExactThrough", spec := "fnExactThrough", unfollowed := true, recurses := true, apart := false, narrowed := true }
def FnExactThroughUptoSaid : Prop := fnExactThroughUptoRow.holds Try.pinned (OpenSpec.upto fnExactThroughSpec)

/-- 'laws.FnExactJohnson', WHERE WHAT IT READS IS OF BULK AT MOST 1048576: true; the input reads as it did. -/
def fnExactJohnsonUptoRow : OpenClaim := { program := "ytkakdodamnnplaa", sum := "19aff9a807135d1da62480797a5e48ab8a4a7b680c64d906c1036e77a6ca1cf3", func := "loop.example/g00255/laws.FnExactJohnson", spec := "fnExactJohnson", unfollowed := true, recurses := true, apart := false, narrowed := true }
def FnExactJohnsonUptoSaid : Prop := fnExactJohnsonUptoRow.holds Try.pinned (OpenSpec.upto fnExactJohnsonSpec)

/-- 'laws.FnExactIdle', WHERE WHAT IT READS IS OF BULK AT MOST 1048576: true; the input reads as it did. -/
def fnExactIdleUptoRow : OpenClaim := { program := "ytkakdodamnnplaa", sum := "19aff9a807135d1da62480797a5e48ab8a4a7b680c64d906c1036e77a6ca1cf3", func := "loop.example/g00255/laws.FnExactIdle", spec := "fnExactIdle", unfollowed := true, recurses := true, apart := false, narrowed := true }
def FnExactIdleUptoSaid : Prop := fnExactIdleUptoRow.holds Try.pinned (OpenSpec.upto fnExactIdleSpec)

end Rows
end Go.Proofs.Ytkakdodamnnplaa
