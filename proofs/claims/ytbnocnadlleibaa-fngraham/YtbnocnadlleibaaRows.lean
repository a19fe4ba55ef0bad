/-
  No cell of these rows narrows 'for every input' (looked for: loops, veiled, ifaces, maps, wideKeys, modest, calm, conditions, laid).
  DERIVED. THE GIVEN ROWS OF THIS SEAT. 7 by the template 'for every input the law returns true; each argument reads behind the call as it read before'; 0 by the template 'total and deterministic' (their statements: YtbnocnadlleibaaTotals.lean).
  GIVEN WITH THE SEED: the statements are not yours to turn. If you find one false, say at which input.
  Laid BY PROGRAM, IN A SANDBOX (cutbox-rows.mjs): the forced cells as the released guide's own fill.sh prints them over the translation d73d532df105a20d… (all of the seat's roots in one cut). By AI agents, Wed Nov 11 2026. No macro, syntax, notation, axiom, sorry.
-/
import Derived.Test.YtbnocnadlleibaaChecked
import GoSem.Claim
import GoSem.ClaimJoined
import GoSem.ClaimMapViews
import Derived.JoinedTies
import Derived.KernelRfl
namespace Go.Proofs.Ytbnocnadlleibaa
/- THE CELL 'sum', in the pinned program and in every row, IS THE sha256 OF THE DUMP (.gsa) THAT YtbnocnadlleibaaProg.lean LOADS. Nothing in Lean hashes anything: it is a label: what it is worth is what the hold of that sum in a sandbox is worth. -/
noncomputable def Try.pinned : Pinned := { name := "ytbnocnadlleibaa", sum := "d73d532df105a20d7902472d669952e0d717687b2ccf236c8e3323c65668afdf", checked := Try.checked }
namespace Rows
def none {H : Type} : Left H := { results := [], args := [] }

/-- 'laws.FnGraham': WHATEVER THE INPUT: true; the input reads as it did. -/
def fnGrahamSpec : ChangeSpec := { name := "fnGraham", fn := fun _ => fun
  | [d] => { results := [.lit (.bool true)], args := [d] }
  | _ => none }
def fnGrahamRow : OpenClaim := { program := "ytbnocnadlleibaa", sum := "d73d532df105a20d7902472d669952e0d717687b2ccf236c8e3323c65668afdf", func := "loop.example/g00255/laws.FnGraham", spec := "fnGraham", unfollowed := true, recurses := true, apart := false }
def FnGrahamSaid : Prop := fnGrahamRow.holds Try.pinned (OpenSpec.ofChange fnGrahamSpec)

/-- ITS FALSE NEIGHBOUR: 'it returns false'. Refute it at one input. -/
def fnGrahamWrong : ChangeSpec := { name := "fnGraham", fn := fun _ => fun
  | [d] => { results := [.lit (.bool false)], args := [d] }
  | _ => none }
def FnGrahamWrongFalsely : Prop := fnGrahamRow.holds Try.pinned (OpenSpec.ofChange fnGrahamWrong)

/-- 'laws.FnMachines': WHATEVER THE INPUT: true; the input reads as it did. -/
def fnMachinesSpec : ChangeSpec := { name := "fnMachines", fn := fun _ => fun
  | [d] => { results := [.lit (.bool true)], args := [d] }
  | _ => none }
def fnMachinesRow : OpenClaim := { program := "ytbnocnadlleibaa", sum := "d73d532df105a20d7902472d669952e0d717687b2ccf236c8e3323c65668afdf", func := "loop.example/g00255/laws.FnMachines", spec := "fnMachines", unfollowed := true, recurses := true, apart := false }
def FnMachinesSaid : Prop := fnMachinesRow.holds Try.pinned (OpenSpec.ofChange fnMachinesSpec)

/-- ITS FALSE NEIGHBOUR: 'it returns false'. Refute it at one input. -/
def fnMachinesWrong : ChangeSpec := { name := "fnMachines", fn := fun _ => fun
  | [d] => { results := [.lit (.bool false)], args := [d] }
  | _ => none }
def FnMachinesWrongFalsely : Prop := fnMachinesRow.holds Try.pinned (OpenSpec.ofChange fnMachinesWrong)

/-- 'laws.FnExactSpread': WHATEVER THE INPUT: true; the input reads as it did. -/
def fnExactSpreadSpec : ChangeSpec := { name := "fnExactSpread", fn := fun _ => fun
  | [d1, d2] => { results := [.lit (.bool true)], args := [d1, d2] }
  | _ => none }
def fnExactSpreadRow : OpenClaim := { program := "ytbnocnadlleibaa", sum := "d73d532df105a20d7902472d669952e0d717687b2ccf236c8e3323c65668afdf", func := "loop.example/g00255/laws.FnExactSpread", spec := "fnExactSpread", unfollowed := true, recurses := true, apart := false }
def FnExactSpreadSaid : Prop := fnExactSpreadRow.holds Try.pinned (OpenSpec.ofChange fnExactSpreadSpec)

/-- ITS FALSE NEIGHBOUR: 'it returns false'. Refute it at one input. -/
def fnExactSpreadWrong : ChangeSpec := { name := "fnExactSpread", fn := fun _ => fun
  | [d1, d2] => { results := [.lit (.bool false)], args := [d1, d2] }
  | _ => none }
def FnExactSpreadWrongFalsely : Prop := fnExactSpreadRow.holds Try.pinned (OpenSpec.ofChange fnExactSpreadWrong)

/-- 'laws.FnExactSpan': WHATEVER THE INPUT: true; the input reads as it did. -/
def fnExactSpanSpec : ChangeSpec := { name := "fnExactSpan", fn := fun _ => fun
  | [d1, d2, d3] => { results := [.lit (.bool true)], args := [d1, d2, d3] }
  | _ => none }
def fnExactSpanRow : OpenClaim := { program := "ytbnocnadlleibaa", sum := "d73d532df105a20d7902472d669952e0d717687b2ccf236c8e3323c65668afdf", func := "loop.example/g00255/laws.FnExactSpan", spec := "fnExactSpan", unfollowed := true, recurses := true, apart := false }
def FnExactSpanSaid : Prop := fnExactSpanRow.holds Try.pinned (OpenSpec.ofChange fnExactSpanSpec)

/-- ITS FALSE NEIGHBOUR: 'it returns false'. Refute it at one input. -/
def fnExactSpanWrong : ChangeSpec := { name := "fnExactSpan", fn := fun _ => fun
  | [d1, d2, d3] => { results := [.lit (.bool false)], args := [d1, d2, d3] }
  | _ => none }
def FnExactSpanWrongFalsely : Prop := fnExactSpanRow.holds Try.pinned (OpenSpec.ofChange fnExactSpanWrong)

/-- 'laws.FnExactLongest': WHATEVER THE INPUT: true; the input reads as it did. -/
def fnExactLongestSpec : ChangeSpec := { name := "fnExactLongest", fn := fun _ => fun
  | [d] => { results := [.lit (.bool true)], args := [d] }
  | _ => none }
def fnExactLongestRow : OpenClaim := { program := "ytbnocnadlleibaa", sum := "d73d532df105a20d7902472d669952e0d717687b2ccf236c8e3323c65668afdf", func := "loop.example/g00255/laws.FnExactLongest", spec := "fnExactLongest", unfollowed := true, recurses := true, apart := false }
def FnExactLongestSaid : Prop := fnExactLongestRow.holds Try.pinned (OpenSpec.ofChange fnExactLongestSpec)

/-- ITS FALSE NEIGHBOUR: 'it returns false'. Refute it at one input. -/
def fnExactLongestWrong : ChangeSpec := { name := "fnExactLongest", fn := fun _ => fun
  | [d] => { results := [.lit (.bool false)], args := [d] }
  | _ => none }
def FnExactLongestWrongFalsely : Prop := fnExactLongestRow.holds Try.pinned (OpenSpec.ofChange fnExactLongestWrong)

/-- 'laws.FnExactOptimum': WHATEVER THE INPUT: true; the input reads as it did. -/
def fnExactOptimumSpec : ChangeSpec := { name := "fnExactOptimum", fn := fun _ => fun
  | [d1, d2] => { results := [.lit (.bool true)], args := [d1, d2] }
  | _ => none }
def fnExactOptimumRow : OpenClaim := { program := "ytbnocnadlleibaa", sum := "d73d532df105a20d7902472d669952e0d717687b2ccf236c8e3323c65668afdf", func := "loop.example/g00255/laws.FnExactOptimum", spec := "fnExactOptimum", unfollowed := true, recurses := true, apart := false }
def FnExactOptimumSaid : Prop := fnExactOptimumRow.holds Try.pinned (OpenSpec.ofChange fnExactOptimumSpec)

/-- ITS FALSE NEIGHBOUR: 'it returns false'. Refute it at one input. -/
def fnExactOptimumWrong : ChangeSpec := { name := "fnExactOptimum", fn := fun _ => fun
  | [d1, d2] => { results := [.lit (.bool false)], args := [d1, d2] }
  | _ => none }
def FnExactOptimumWrongFalsely : Prop := fnExactOptimumRow.holds Try.pinned (OpenSpec.ofChange fnExactOptimumWrong)

/-- 'laws.FnExactBound': WHATEVER THE INPUT: true; the input reads as it did. -/
def fnExactBoundSpec : ChangeSpec := { name := "fnExactBound", fn := fun _ => fun
  | [d1, d2] => { results := [.lit (.bool true)], args := [d1, d2] }
  | _ => none }
def fnExactBoundRow : OpenClaim := { program := "ytbnocnadlleibaa", sum := "d73d532df105a20d7902472d669952e0d717687b2ccf236c8e3323c65668afdf", func := "loop.example/g00255/laws.FnExactBound", spec := "fnExactBound", unfollowed := true, recurses := true, apart := false }
def FnExactBoundSaid : Prop := fnExactBoundRow.holds Try.pinned (OpenSpec.ofChange fnExactBoundSpec)

/-- ITS FALSE NEIGHBOUR: 'it returns false'. Refute it at one input. -/
def fnExactBoundWrong : ChangeSpec := { name := "fnExactBound", fn := fun _ => fun
  | [d1, d2] => { results := [.lit (.bool false)], args := [d1, d2] }
  | _ => none }
def FnExactBoundWrongFalsely : Prop := fnExactBoundRow.holds Try.pinned (OpenSpec.ofChange fnExactBoundWrong)

/- THE SECOND FORM. 'bulk': how many values and letters a reading holds, each counted each time it is reached (what is shared counts as often as it is met; a slice's spare places count too). A statement '..UptoSaid' is the law's where the arguments, and the package variables that the reading takes, are together of bulk at most 1048576: NARROWER than '..Said'. Prove '..Said' where nothing that the law and all that it calls make is longer than what came in: it says more and counts as full. Else prove '..UptoSaid'. A law counts once. -/
mutual
def uptoBulk {H : Type} : DataW H → Nat
  | .lit (.string bytes) => bytes.length + 1
  | .lit _ => 1
  | .nil => 1
  | .ptr d => uptoBulk d + 1
  | .slice elems spare => uptoBulkAll elems + uptoBulkAll spare + 1
  | .agg parts => uptoBulkAll parts + 1
  | .iface _ d => uptoBulk d + 1
  | .map entries => uptoBulkEntries entries + 1
  | .held _ => 1
def uptoBulkAll {H : Type} : List (DataW H) → Nat
  | [] => 0
  | d :: r => uptoBulk d + uptoBulkAll r
def uptoBulkEntries {H : Type} : List (Lit × DataW H) → Nat
  | [] => 0
  | x :: r => uptoBulkEntry x + uptoBulkEntries r
def uptoBulkEntry {H : Type} : Lit × DataW H → Nat
  | (.string bytes, d) => bytes.length + uptoBulk d + 1
  | (_, d) => uptoBulk d + 1
 end
def uptoSmall : (H : Type) → List (DataW H) → Bool := fun _ ds => decide (uptoBulkAll ds ≤ 1048576)
def OpenSpec.upto (s : _root_.Go.ChangeSpec) : _root_.Go.OpenSpec := { _root_.Go.OpenSpec.ofChange s with cond := some uptoSmall }

/-- 'laws.FnGraham', WHERE WHAT IT READS IS OF BULK AT MOST 1048576: true; the input reads as it did. -/
def fnGrahamUptoRow : OpenClaim := { program := "ytbnocnadlleibaa", sum := "d73d532df105a20d7902472d669952e0d717687b2ccf236c8e3323c65668afdf", func := "loop.example/g00255/laws.FnGraham", spec := "fnGraham", unfollowed := true, recurses := true, apart := false, narrowed := true }
def FnGrahamUptoSaid : Prop := fnGrahamUptoRow.holds Try.pinned (OpenSpec.upto fnGrahamSpec)

/-- 'laws.FnMachines', WHERE WHAT IT READS IS OF BULK AT MOST 1048576: true; the input reads as it did. -/
def fnMachinesUptoRow : OpenClaim := { program := "ytbnocnadlleibaa", sum := "d73d532df105a20d7902472d669952e0d717687b2ccf236c8e3323c65668afdf", func := "loop.example/g00255/laws.FnMachines", spec := "fnMachines", unfollowed := true, recurses := true, apart := false, narrowed := true }
def FnMachinesUptoSaid : Prop := fnMachinesUptoRow.holds Try.pinned (OpenSpec.upto fnMachinesSpec)

/-- 'laws.FnExactSpread', WHERE WHAT IT READS IS OF BULK AT MOST 1048576: true; the input reads as it did. -/
def fnExactSpreadUptoRow : OpenClaim := { program := "ytbnocnadlleibaa", sum := "d73d532df105a20d7902472d669952e0d717687b2ccf236c8e3323c65668afdf", func := "loop.example/g00255/laws.FnExactSpread", spec := "fnExactSpread", unfollowed := true, recurses := true, apart := false, narrowed := true }
def FnExactSpreadUptoSaid : Prop := fnExactSpreadUptoRow.holds Try.pinned (OpenSpec.upto fnExactSpreadSpec)

/-- 'laws.FnExactSpan', WHERE WHAT IT READS IS OF BULK AT MOST 1048576: true; the input reads as it did. -/
def fnExactSpanUptoRow : OpenClaim := { program := "ytbnocnadlleibaa", sum := "d73d532df105a20d7902472d669952e0d717687b2ccf236c8e3323c65668afdf", func := "loop.example/g00255/laws.FnExactSpan", spec := "fnExactSpan", unfollowed := true, recurses := true, apart := false, narrowed := true }
def FnExactSpanUptoSaid : Prop := fnExactSpanUptoRow.holds Try.pinned (OpenSpec.upto fnExactSpanSpec)

/-- 'laws.FnExactLongest', WHERE WHAT IT READS IS OF BULK AT MOST 1048576: true; the input reads as it did. -/
def fnExactLongestUptoRow : OpenClaim := { program := "ytbnocnadlleibaa", sum := "d73d532df105a20d7902472d669952e0d717687b2ccf236c8e3323c65668afdf", func := "loop.example/g00255/laws.FnExactLongest", spec := "fnExactLongest", unfollowed := true, recurses := true, apart := false, narrowed := true }
def FnExactLongestUptoSaid : Prop := fnExactLongestUptoRow.holds Try.pinned (OpenSpec.upto fnExactLongestSpec)

/-- 'laws.FnExactOptimum', WHERE WHAT IT READS IS OF BULK AT MOST 1048576: true; the input reads as it did. -/
def fnExactOptimumUptoRow : OpenClaim := { program := "ytbnocnadlleibaa", sum := "d73d532df105a20d7902472d669952e0d717687b2ccf236c8e3323c65668afdf", func := "loop.example/g00255/laws.FnExactOptimum", spec := "fnExactOptimum", unfollowed := true, recurses := true, apart := false, narrowed := true }
def FnExactOptimumUptoSaid : Prop := fnExactOptimumUptoRow.holds Try.pinned (OpenSpec.upto fnExactOptimumSpec)

/-- 'laws.FnExactBound', WHERE WHAT IT READS IS OF BULK AT MOST 1048576: true; the input reads as it did. -/
def fnExactBoundUptoRow : OpenClaim := { program := "ytbnocnadlleibaa", sum := "d73d532df105a20d7902472d669952e0d717687b2ccf236c8e3323c65668afdf", func := "loop.example/g00255/laws.FnExactBound", spec := "fnExactBound", unfollowed := true, recurses := true, apart := false, narrowed := true }
def FnExactBoundUptoSaid : Prop := fnExactBoundUptoRow.holds Try.pinned (OpenSpec.upto fnExactBoundSpec)

end Rows
end Go.Proofs.Ytbnocnadlleibaa
