/-
  No cell of these rows narrows 'for every input' (looked for: loops, veiled, ifaces, maps, wideKeys, modest, calm, conditions, laid).
  DERIVED. THE GIVEN ROWS OF THIS SEAT. 3 by the template 'for every input the law returns true; each argument reads behind the call as it read before'; 0 by the template 'total and deterministic' (their statements: YtddmjdooocmgnagTotals.lean).
  GIVEN WITH THE SEED: the statements are not yours to turn. If you find one false, say at which input.
  Laid BY PROGRAM, IN A SANDBOX (cutbox-rows.mjs): the forced cells as the released guide's own fill.sh prints them over the translation 4d1f4db76760e94b… (all of the seat's roots in one cut). By AI agents, Wed Nov 11 2026. No macro, syntax, notation, axiom, sorry.
-/
import Derived.Test.YtddmjdooocmgnagChecked
import GoSem.Claim
import GoSem.ClaimJoined
import GoSem.ClaimMapViews
import Derived.JoinedTies
import Derived.KernelRfl
namespace Go.Proofs.Ytddmjdooocmgnag
/- THE CELL 'sum', in the pinned program and in every row, IS THE sha256 OF THE DUMP (.gsa) THAT YtddmjdooocmgnagProg.lean LOADS. Nothing in Lean hashes anything: it is a label: what it is worth is what the hold of that sum in a sandbox is worth. -/
noncomputable def Try.pinned : Pinned := { name := "ytddmjdooocmgnag", sum := "4d1f4db76760e94b33570697b66bb0f7ea0c077ec54c2f0960870813657f823d", checked := Try.checked }
namespace Rows
def none {H : Type} : Left H := { results := [], args := [] }

/-- 'laws.FnExactTimeOk': WHATEVER THE INPUT: true; the input reads as it did. -/
def fnExactTimeOkSpec : ChangeSpec := { name := "fnExactTimeOk", fn := fun _ => fun
  | [d] => { results := [.lit (.bool true)], args := [d] }
  | _ => none }
def fnExactTimeOkRow : OpenClaim := { program := "ytddmjdooocmgnag", sum := "4d1f4db76760e94b33570697b66bb0f7ea0c077ec54c2f0960870813657f823d", func := "loop.example/g00255/laws.FnExactTimeOk", spec := "fnExactTimeOk", apart := false }
def FnExactTimeOkSaid : Prop := fnExactTimeOkRow.holds Try.pinned (OpenSpec.ofChange fnExactTimeOkSpec)

/-- ITS FALSE NEIGHBOUR: 'it returns false'. Refute it at one input. -/
def fnExactTimeOkWrong : ChangeSpec := { name := "fnExactTimeOk", fn := fun _ => fun
  | [d] => { results := [.lit (.bool false)], args := [d] }
  | _ => none }
def FnExactTimeOkWrongFalsely : Prop := fnExactTimeOkRow.holds Try.pinned (OpenSpec.ofChange fnExactTimeOkWrong)

/-- 'laws.FnExactLater': WHATEVER THE INPUT: true; the input reads as it did. -/
def fnExactLaterSpec : ChangeSpec := { name := "fnExactLater", fn := fun _ => fun
  | [d1, d2] => { results := [.lit (.bool true)], args := [d1, d2] }
  | _ => none }
def fnExactLaterRow : OpenClaim := { program := "ytddmjdooocmgnag", sum := "4d1f4db76760e94b33570697b66bb0f7ea0c077ec54c2f0960870813657f823d", func := "loop.example/g00255/laws.FnExactLater", spec := "fnExactLater", unfollowed := true, recurses := true, apart := false }
def FnExactLaterSaid : Prop := fnExactLaterRow.holds Try.pinned (OpenSpec.ofChange fnExactLaterSpec)

/-- ITS FALSE NEIGHBOUR: 'it returns false'. Refute it at one input. -/
def fnExactLaterWrong : ChangeSpec := { name := "fnExactLater", fn := fun _ => fun
  | [d1, d2] => { results := [.lit (.bool false)], args := [d1, d2] }
  | _ => none }
def FnExactLaterWrongFalsely : Prop := fnExactLaterRow.holds Try.pinned (OpenSpec.ofChange fnExactLaterWrong)

/-- 'laws.FnExactUntil': WHATEVER THE INPUT: true; the input reads as it did. -/
def fnExactUntilSpec : ChangeSpec := { name := "fnExactUntil", fn := fun _ => fun
  | [d1, d2] => { results := [.lit (.bool true)], args := [d1, d2] }
  | _ => none }
def fnExactUntilRow : OpenClaim := { program := "ytddmjdooocmgnag", sum := "4d1f4db76760e94b33570697b66bb0f7ea0c077ec54c2f0960870813657f823d", func := "loop.example/g00255/laws.FnExactUntil", spec := "fnExactUntil", unfollowed := true, recurses := true, apart := false }
def FnExactUntilSaid : Prop := fnExactUntilRow.holds Try.pinned (OpenSpec.ofChange fnExactUntilSpec)

/-- ITS FALSE NEIGHBOUR: 'it returns false'. Refute it at one input. -/
def fnExactUntilWrong : ChangeSpec := { name := "fnExactUntil", fn := fun _ => fun
  | [d1, d2] => { results := [.lit (.bool false)], args := [d1, d2] }
  | _ => none }
def FnExactUntilWrongFalsely : Prop := fnExactUntilRow.holds Try.pinned (OpenSpec.ofChange fnExactUntilWrong)

/- THE SECOND FORM. 'bulk': how many values and letters a reading holds, each counted each time it is reached (what is shared counts as often as it is met; a slice's spare places count too). A statement '..UptoSaid' is the law's where the arguments, and the package variables that the reading takes, are together of bulk at most 1048576: NARROWER than '..Said'. Prove '..Said' where nothing that the law and all that it calls make is longer than what came in: it says more and counts as full. Else prove '..UptoSaid'. A law counts once. -/
mutual
def uptoBulk {H : Type} : DataW H → Nat
  | .lit (.string bytes) => bytes.length + 1
  | .lit _ => 1
  | .nil => 1
  | .ptr d => uptoBulk d + 1
  | .slice elems spare => uptoBulkAll elems + uptoBulkAll spare + 1
  | .agg parts => uptoBulkAll parts + 1
  | .iface _ d => uptoBulk d + 1
  | .map entries => uptoBulkEntries entries + 1
  | .held _ => 1
def uptoBulkAll {H : Type} : List (DataW H) → Nat
  | [] => 0
  | d :: r => uptoBulk d + uptoBulkAll r
def uptoBulkEntries {H : Type} : List (Lit × DataW H) → Nat
  | [] => 0
  | x :: r => uptoBulkEntry x + uptoBulkEntries r
def uptoBulkEntry {H : Type} : Lit × DataW H → Nat
  | (.string bytes, d) => bytes.length + uptoBulk d + 1
  | (_, d) => uptoBulk d + 1
 end
def uptoSmall : (H : Type) → List (DataW H) → Bool := fun _ ds => decide (uptoBulkAll ds ≤ 1048576)
def OpenSpec.upto (s : _root_.Go.ChangeSpec) : _root_.Go.OpenSpec := { _root_.Go.OpenSpec.ofChange s with cond := some uptoSmall }

/-- 'laws.FnExactTimeOk', WHERE WHAT IT READS IS OF BULK AT MOST 1048576: true; the input reads as it did. -/
def fnExactTimeOkUptoRow : OpenClaim := { program := "ytddmjdooocmgnag", sum := "4d1f4db76760e94b33570697b66bb0f7ea0c077ec54c2f0960870813657f823d", func := "loop.example/g00255/laws.FnExactTimeOk", spec := "fnExactTimeOk", apart := false, narrowed := true }
def FnExactTimeOkUptoSaid : Prop := fnExactTimeOkUptoRow.holds Try.pinned (OpenSpec.upto fnExactTimeOkSpec)

/-- 'laws.FnExactLater', WHERE WHAT IT READS IS OF BULK AT MOST 1048576: true; the input reads as it did. -/
def fnExactLaterUptoRow : OpenClaim := { program := "ytddmjdooocmgnag", sum := "4d1f4db76760e94b33570697b66bb0f7ea0c077ec54c2f0960870813657f823d", func := "loop.example/g00255/laws.FnExactLater", spec := "fnExactLater", unfollowed := true, recurses := true, apart := false, narrowed := true }
def FnExactLaterUptoSaid : Prop := fnExactLaterUptoRow.holds Try.pinned (OpenSpec.upto fnExactLaterSpec)

/-- 'laws.FnExactUntil', WHERE WHAT IT READS IS OF BULK AT MOST 1048576: true; the input reads as it did. -/
def fnExactUntilUptoRow : OpenClaim := { program := "ytddmjdooocmgnag", sum := "4d1f4db76760e94b33570697b66bb0f7ea0c077ec54c2f0960870813657f823d", func := "loop.example/g00255/laws.FnExactUntil", spec := "fnExactUntil", unfollowed := true, recurses := true, apart := false, narrowed := true }
def FnExactUntilUptoSaid : Prop := fnExactUntilUptoRow.holds Try.pinned (OpenSpec.upto fnExactUntilSpec)

end Rows
end Go.Proofs.Ytddmjdooocmgnag
