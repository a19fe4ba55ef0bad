/-
  No cell of these rows narrows 'for every input' (looked for: loops, veiled, ifaces, maps, wideKeys, modest, calm, conditions, laid).
  DERIVED. THE GIVEN ROWS OF THIS SEAT. 6 by the template 'for every input the law returns true; each argument reads behind the call as it read before'; 0 by the template 'total and deterministic' (their statements: YtnbeaeekfahijaaTotals.lean).
  GIVEN WITH THE SEED: the statements are not yours to turn. If you find one false, say at which input.
  Laid BY PROGRAM, IN A SANDBOX (cutbox-rows.mjs): the forced cells as the released guide's own fill.sh prints them over the translation 5ab646e94811e5f6… (all of the seat's roots in one cut). By AI agents, Wed Nov 11 2026. No macro, syntax, notation, axiom, sorry.
-/
import Derived.Test.YtnbeaeekfahijaaChecked
import GoSem.Claim
import GoSem.ClaimJoined
import GoSem.ClaimMapViews
import Derived.JoinedTies
import Derived.KernelRfl
namespace Go.Proofs.Ytnbeaeekfahijaa
/- THE CELL 'sum', in the pinned program and in every row, IS THE sha256 OF THE DUMP (.gsa) THAT YtnbeaeekfahijaaProg.lean LOADS. Nothing in Lean hashes anything: it is a label: what it is worth is what the hold of that sum in a sandbox is worth. -/
noncomputable def Try.pinned : Pinned := { name := "ytnbeaeekfahijaa", sum := "5ab646e94811e5f6122c8ec36138cecaf7b5dbaeb62e356f170195c2ce490f3c", checked := Try.checked }
namespace Rows
def none {H : Type} : Left H := { results := [], args := [] }

/-- 'laws.FnJackson': WHATEVER THE INPUT: true; the input reads as it did. -/
def fnJacksonSpec : ChangeSpec := { name := "fnJackson", fn := fun _ => fun
  | [d] => { results := [.lit (.bool true)], args := [d] }
  | _ => none }
def fnJacksonRow : OpenClaim := { program := "ytnbeaeekfahijaa", sum := "5ab646e94811e5f6122c8ec36138cecaf7b5dbaeb62e356f170195c2ce490f3c", func := "loop.example/g00255/laws.FnJackson", spec := "fnJackson", unfollowed := true, recurses := true, apart := false }
def FnJacksonSaid : Prop := fnJacksonRow.holds Try.pinned (OpenSpec.ofChange fnJacksonSpec)

/-- ITS FALSE NEIGHBOUR: 'it returns false'. Refute it at one input. -/
def fnJacksonWrong : ChangeSpec := { name := "fnJackson", fn := fun _ => fun
  | [d] => { results := [.lit (.bool false)], args := [d] }
  | _ => none }
def FnJacksonWrongFalsely : Prop := fnJacksonRow.holds Try.pinned (OpenSpec.ofChange fnJacksonWrong)

/-- 'laws.FnHodgson': WHATEVER THE INPUT: true; the input reads as it did. -/
def fnHodgsonSpec : ChangeSpec := { name := "fnHodgson", fn := fun _ => fun
  | [d] => { results := [.lit (.bool true)], args := [d] }
  | _ => none }
def fnHodgsonRow : OpenClaim := { program := "ytnbeaeekfahijaa", sum := "5ab646e94811e5f6122c8ec36138cecaf7b5dbaeb62e356f170195c2ce490f3c", func := "loop.example/g00255/laws.FnHodgson", spec := "fnHodgson", unfollowed := true, recurses := true, apart := false }
def FnHodgsonSaid : Prop := fnHodgsonRow.holds Try.pinned (OpenSpec.ofChange fnHodgsonSpec)

/-- ITS FALSE NEIGHBOUR: 'it returns false'. Refute it at one input. -/
def fnHodgsonWrong : ChangeSpec := { name := "fnHodgson", fn := fun _ => fun
  | [d] => { results := [.lit (.bool false)], args := [d] }
  | _ => none }
def FnHodgsonWrongFalsely : Prop := fnHodgsonRow.holds Try.pinned (OpenSpec.ofChange fnHodgsonWrong)

/-- 'laws.FnExactJackson': WHATEVER THE INPUT: true; the input reads as it did. -/
def fnExactJacksonSpec : ChangeSpec := { name := "fnExactJackson", fn := fun _ => fun
  | [d] => { results := [.lit (.bool true)], args := [d] }
  | _ => none }
def fnExactJacksonRow : OpenClaim := { program := "ytnbeaeekfahijaa", sum := "5ab646e94811e5f6122c8ec36138cecaf7b5dbaeb62e356f170195c2ce490f3c", func := "loop.example/g00255/laws.FnExactJackson", spec := "fnExactJackson", unfollowed := true, recurses := true, apart := false }
def FnExactJacksonSaid : Prop := fnExactJacksonRow.holds Try.pinned (OpenSpec.ofChange fnExactJacksonSpec)

/-- ITS FALSE NEIGHBOUR: 'it returns false'. Refute it at one input. -/
def fnExactJacksonWrong : ChangeSpec := { name := "fnExactJackson", fn := fun _ => fun
  | [d] => { results := [.lit (.bool false)], args := [d] }
  | _ => none }
def FnExactJacksonWrongFalsely : Prop := fnExactJacksonRow.holds Try.pinned (OpenSpec.ofChange fnExactJacksonWrong)

/-- 'laws.FnExactSmith': WHATEVER THE INPUT: true; the input reads as it did. -/
def fnExactSmithSpec : ChangeSpec := { name := "fnExactSmith", fn := fun _ => fun
  | [d] => { results := [.lit (.bool true)], args := [d] }
  | _ => none }
def fnExactSmithRow : OpenClaim := { program := "ytnbeaeekfahijaa", sum := "5ab646e94811e5f6122c8ec36138cecaf7b5dbaeb62e356f170195c2ce490f3c", func := "loop.example/g00255/laws.FnExactSmith", spec := "fnExactSmith", unfollowed := true, recurses := true, apart := false }
def FnExactSmithSaid : Prop := fnExactSmithRow.holds Try.pinned (OpenSpec.ofChange fnExactSmithSpec)

/-- ITS FALSE NEIGHBOUR: 'it returns false'. Refute it at one input. -/
def fnExactSmithWrong : ChangeSpec := { name := "fnExactSmith", fn := fun _ => fun
  | [d] => { results := [.lit (.bool false)], args := [d] }
  | _ => none }
def FnExactSmithWrongFalsely : Prop := fnExactSmithRow.holds Try.pinned (OpenSpec.ofChange fnExactSmithWrong)

/-- 'laws.FnExactShortest': WHATEVER THE INPUT: true; the input reads as it did. -/
def fnExactShortestSpec : ChangeSpec := { name := "fnExactShortest", fn := fun _ => fun
  | [d] => { results := [.lit (.bool true)], args := [d] }
  | _ => none }
def fnExactShortestRow : OpenClaim := { program := "ytnbeaeekfahijaa", sum := "5ab646e94811e5f6122c8ec36138cecaf7b5dbaeb62e356f170195c2ce490f3c", func := "loop.example/g00255/laws.FnExactShortest", spec := "fnExactShortest", unfollowed := true, recurses := true, apart := false }
def FnExactShortestSaid : Prop := fnExactShortestRow.holds Try.pinned (OpenSpec.ofChange fnExactShortestSpec)

/-- ITS FALSE NEIGHBOUR: 'it returns false'. Refute it at one input. -/
def fnExactShortestWrong : ChangeSpec := { name := "fnExactShortest", fn := fun _ => fun
  | [d] => { results := [.lit (.bool false)], args := [d] }
  | _ => none }
def FnExactShortestWrongFalsely : Prop := fnExactShortestRow.holds Try.pinned (OpenSpec.ofChange fnExactShortestWrong)

/-- 'laws.FnExactHodgson': WHATEVER THE INPUT: true; the input reads as it did. -/
def fnExactHodgsonSpec : ChangeSpec := { name := "fnExactHodgson", fn := fun _ => fun
  | [d] => { results := [.lit (.bool true)], args := [d] }
  | _ => none }
def fnExactHodgsonRow : OpenClaim := { program := "ytnbeaeekfahijaa", sum := "5ab646e94811e5f6122c8ec36138cecaf7b5dbaeb62e356f170195c2ce490f3c", func := "loop.example/g00255/laws.FnExactHodgson", spec := "fnExactHodgson", unfollowed := true, recurses := true, apart := false }
def FnExactHodgsonSaid : Prop := fnExactHodgsonRow.holds Try.pinned (OpenSpec.ofChange fnExactHodgsonSpec)

/-- ITS FALSE NEIGHBOUR: 'it returns false'. Refute it at one input. -/
def fnExactHodgsonWrong : ChangeSpec := { name := "fnExactHodgson", fn := fun _ => fun
  | [d] => { results := [.lit (.bool false)], args := [d] }
  | _ => none }
def FnExactHodgsonWrongFalsely : Prop := fnExactHodgsonRow.holds Try.pinned (OpenSpec.ofChange fnExactHodgsonWrong)

/- THE SECOND FORM. 'bulk': how many values and letters a reading holds, each counted each time it is reached (what is shared counts as often as it is met; a slice's spare places count too). A statement '..UptoSaid' is the law's where the arguments, and the package variables that the reading takes, are together of bulk at most 1048576: NARROWER than '..Said'. Prove '..Said' where nothing that the law and all that it calls make is longer than what came in: it says more and counts as full. Else prove '..UptoSaid'. A law counts once. -/
mutual
def uptoBulk {H : Type} : DataW H → Nat
  | .lit (.string bytes) => bytes.length + 1
  | .lit _ => 1
  | .nil => 1
  | .ptr d => uptoBulk d + 1
  | .slice elems spare => uptoBulkAll elems + uptoBulkAll spare + 1
  | .agg parts => uptoBulkAll parts + 1
  | .iface _ d => uptoBulk d + 1
  | .map entries => uptoBulkEntries entries + 1
  | .held _ => 1
def uptoBulkAll {H : Type} : List (DataW H) → Nat
  | [] => 0
  | d :: r => uptoBulk d + uptoBulkAll r
def uptoBulkEntries {H : Type} : List (Lit × DataW H) → Nat
  | [] => 0
  | x :: r => uptoBulkEntry x + uptoBulkEntries r
def uptoBulkEntry {H : Type} : Lit × DataW H → Nat
  | (.string bytes, d) => bytes.length + uptoBulk d + 1
  | (_, d) => uptoBulk d + 1
 end
def uptoSmall : (H : Type) → List (DataW H) → Bool := fun _ ds => decide (uptoBulkAll ds ≤ 1048576)
def OpenSpec.upto (s : _root_.Go.ChangeSpec) : _root_.Go.OpenSpec := { _root_.Go.OpenSpec.ofChange s with cond := some uptoSmall }

/-- 'laws.FnJackson', WHERE WHAT IT READS IS OF BULK AT MOST 1048576: true; the input reads as it did. -/
def fnJacksonUptoRow : OpenClaim := { program := "ytnbeaeekfahijaa", sum := "5ab646e94811e5f6122c8ec36138cecaf7b5dbaeb62e356f170195c2ce490f3c", func := "loop.example/g00255/laws.FnJackson", spec := "fnJackson", unfollowed := true, recurses := true, apart := false, narrowed := true }
def FnJacksonUptoSaid : Prop := fnJacksonUptoRow.holds Try.pinned (OpenSpec.upto fnJacksonSpec)

/-- 'laws.FnHodgson', WHERE WHAT IT READS IS OF BULK AT MOST 1048576: true; the input reads as it did. -/
def fnHodgsonUptoRow : OpenClaim := { program := "ytnbeaeekfahijaa", sum := "5ab646e94811e5f6122c8ec36138cecaf7b5dbaeb62e356f170195c2ce490f3c", func := "loop.example/g00255/laws.FnHodgson", spec := "fnHodgson", unfollowed := true, recurses := true, apart := false, narrowed := true }
def FnHodgsonUptoSaid : Prop := fnHodgsonUptoRow.holds Try.pinned (OpenSpec.upto fnHodgsonSpec)

/-- 'laws.FnExactJackson', WHERE WHAT IT READS IS OF BULK AT MOST 1048576: true; the input reads as it did. -/
def fnExactJacksonUptoRow : OpenClaim := { program := "ytnbeaeekfahijaa", sum := "5ab646e94811e5f6122c8ec36138cecaf7b5dbaeb62e356f170195c2ce490f3c", func := "loop.example/g00255/laws.FnExactJackson", spec := "fnExactJackson", unfollowed := true, recurses := true, apart := false, narrowed := true }
def FnExactJacksonUptoSaid : Prop := fnExactJacksonUptoRow.holds Try.pinned (OpenSpec.upto fnExactJacksonSpec)

/-- 'laws.FnExactSmith', WHERE WHAT IT READS IS OF BULK AT MOST 1048576: true; the input reads as it did. -/
def fnExactSmithUptoRow : OpenClaim := { program := "ytnbeaeekfahijaa", sum := "5ab646e94811e5f6122c8ec36138cecaf7b5dbaeb62e356f170195c2ce490f3c", func := "loop.example/g00255/laws.FnExactSmith", spec := "fnExactSmith", unfollowed := true, recurses := true, apart := false, narrowed := true }
def FnExactSmithUptoSaid : Prop := fnExactSmithUptoRow.holds Try.pinned (OpenSpec.upto fnExactSmithSpec)

/-- 'laws.FnExactShortest', WHERE WHAT IT READS IS OF BULK AT MOST 1048576: true; the input reads as it did. -/
def fnExactShortestUptoRow : OpenClaim := { program := "ytnbeaeekfahijaa", sum := "5ab646e94811e5f6122c8ec36138cecaf7b5dbaeb62e356f170195c2ce490f3c", func := "loop.example/g00255/laws.FnExactShortest", spec := "fnExactShortest", unfollowed := true, recurses := true, apart := false, narrowed := true }
def FnExactShortestUptoSaid : Prop := fnExactShortestUptoRow.holds Try.pinned (OpenSpec.upto fnExactShortestSpec)

/-- 'laws.FnExactHodgson', WHERE WHAT IT READS IS OF BULK AT MOST 1048576: true; the input reads as it did. -/
def fnExactHodgsonUptoRow : OpenClaim := { program := "ytnbeaeekfahijaa", sum := "5ab646e94811e5f6122c8ec36138cecaf7b5dbaeb62e356f170195c2ce490f3c", func := "loop.example/g00255/laws.FnExactHodgson", spec := "fnExactHodgson", unfollowed := true, recurses := true, apart := false, narrowed := true }
def FnExactHodgsonUptoSaid : Prop := fnExactHodgsonUptoRow.holds Try.pinned (OpenSpec.upto fnExactHodgsonSpec)

end Rows
end Go.Proofs.Ytnbeaeekfahijaa
