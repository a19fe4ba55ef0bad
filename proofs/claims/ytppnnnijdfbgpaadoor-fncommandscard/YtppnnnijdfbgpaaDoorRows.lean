/-
  NARROWER THAN 'FOR EVERY INPUT', by the rows' own cells (each row's printed sentence says how): FnCommands: laid · FnExactCommandOk: laid · FnExactShowCommand: laid · FnExactReadCommand: laid.
  DERIVED. THE GIVEN ROWS OF THIS SEAT. 4 by the template 'for every input the law returns true; each argument reads behind the call as it read before'; 0 by the template 'total and deterministic' (their statements: YtppnnnijdfbgpaaDoorTotals.lean).
  GIVEN WITH THE SEED: the statements are not yours to turn. If you find one false, say at which input.
  Laid BY PROGRAM, IN A SANDBOX (cutbox-rows.mjs): the forced cells as the released guide's own fill.sh prints them over the translation c0626614fb1deb16… (all of the seat's roots in one cut). By AI agents, Wed Nov 11 2026. No macro, syntax, notation, axiom, sorry.
-/
import Derived.Test.YtppnnnijdfbgpaaDoorChecked
import GoSem.Claim
import GoSem.ClaimJoined
import GoSem.ClaimMapViews
import Derived.JoinedTies
import Derived.KernelRfl
namespace Go.Proofs.YtppnnnijdfbgpaaDoor
/- THE CELL 'sum', in the pinned program and in every row, IS THE sha256 OF THE DUMP (.gsa) THAT YtppnnnijdfbgpaaDoorProg.lean LOADS. Nothing in Lean hashes anything: it is a label: what it is worth is what the hold of that sum in a sandbox is worth. -/
noncomputable def Tryd.pinned : Pinned := { name := "ytppnnnijdfbgpaadoor", sum := "c0626614fb1deb16fc16d85ca5fbfc24ad6a361922aa7a82e21d69ca1c030606", checked := Tryd.checked }
namespace Rows
def none {H : Type} : Left H := { results := [], args := [] }

/- WHAT THE LISTED PACKAGE-LEVEL VARIABLES READ AS WHEN THE CALL BEGINS. Each datum BY PROGRAM (the guide's laid-datum.mjs) off the statement by which the dump's own 'gosem.cut.vars' lays the variable. In a bare row this is a premise. The card (YtppnnnijdfbgpaaDoorCards.lean) ties it to the program's text. -/
def laid_math_bits_deBruijn32tab {H : Type} : DataW H := .agg [.lit (.int .u8 0), .lit (.int .u8 1), .lit (.int .u8 28), .lit (.int .u8 2), .lit (.int .u8 29), .lit (.int .u8 14), .lit (.int .u8 24), .lit (.int .u8 3), .lit (.int .u8 30), .lit (.int .u8 22), .lit (.int .u8 20), .lit (.int .u8 15), .lit (.int .u8 25), .lit (.int .u8 17), .lit (.int .u8 4), .lit (.int .u8 8), .lit (.int .u8 31), .lit (.int .u8 27), .lit (.int .u8 13), .lit (.int .u8 23), .lit (.int .u8 21), .lit (.int .u8 19), .lit (.int .u8 16), .lit (.int .u8 7), .lit (.int .u8 26), .lit (.int .u8 12), .lit (.int .u8 18), .lit (.int .u8 6), .lit (.int .u8 11), .lit (.int .u8 5), .lit (.int .u8 10), .lit (.int .u8 9)]
def laid_math_bits_deBruijn64tab {H : Type} : DataW H := .agg [.lit (.int .u8 0), .lit (.int .u8 1), .lit (.int .u8 56), .lit (.int .u8 2), .lit (.int .u8 57), .lit (.int .u8 49), .lit (.int .u8 28), .lit (.int .u8 3), .lit (.int .u8 61), .lit (.int .u8 58), .lit (.int .u8 42), .lit (.int .u8 50), .lit (.int .u8 38), .lit (.int .u8 29), .lit (.int .u8 17), .lit (.int .u8 4), .lit (.int .u8 62), .lit (.int .u8 47), .lit (.int .u8 59), .lit (.int .u8 36), .lit (.int .u8 45), .lit (.int .u8 43), .lit (.int .u8 51), .lit (.int .u8 22), .lit (.int .u8 53), .lit (.int .u8 39), .lit (.int .u8 33), .lit (.int .u8 30), .lit (.int .u8 24), .lit (.int .u8 18), .lit (.int .u8 12), .lit (.int .u8 5), .lit (.int .u8 63), .lit (.int .u8 55), .lit (.int .u8 48), .lit (.int .u8 27), .lit (.int .u8 60), .lit (.int .u8 41), .lit (.int .u8 37), .lit (.int .u8 16), .lit (.int .u8 46), .lit (.int .u8 35), .lit (.int .u8 44), .lit (.int .u8 21), .lit (.int .u8 52), .lit (.int .u8 32), .lit (.int .u8 23), .lit (.int .u8 11), .lit (.int .u8 54), .lit (.int .u8 26), .lit (.int .u8 40), .lit (.int .u8 15), .lit (.int .u8 34), .lit (.int .u8 20), .lit (.int .u8 31), .lit (.int .u8 10), .lit (.int .u8 25), .lit (.int .u8 14), .lit (.int .u8 19), .lit (.int .u8 9), .lit (.int .u8 13), .lit (.int .u8 8), .lit (.int .u8 7), .lit (.int .u8 6)]
def laid_internal_strconv_uint64pow10 {H : Type} : DataW H := .agg [.lit (.int .u64 1), .lit (.int .u64 10), .lit (.int .u64 100), .lit (.int .u64 1000), .lit (.int .u64 10000), .lit (.int .u64 100000), .lit (.int .u64 1000000), .lit (.int .u64 10000000), .lit (.int .u64 100000000), .lit (.int .u64 1000000000), .lit (.int .u64 10000000000), .lit (.int .u64 100000000000), .lit (.int .u64 1000000000000), .lit (.int .u64 10000000000000), .lit (.int .u64 100000000000000), .lit (.int .u64 1000000000000000), .lit (.int .u64 10000000000000000), .lit (.int .u64 100000000000000000), .lit (.int .u64 1000000000000000000), .lit (.int .u64 10000000000000000000)]
def laid_loop_example_g00255_impl_shapes {H : Type} : DataW H := .agg [.agg [.lit (.string []), .agg [.agg [.lit (.int .i64 0), .lit (.int .i64 0)], .agg [.lit (.int .i64 0), .lit (.int .i64 0)], .agg [.lit (.int .i64 0), .lit (.int .i64 0)]]], .agg [.lit (.string [115, 117, 98, 109, 105, 116]), .agg [.agg [.lit (.int .i64 1), .lit (.int .i64 1000)], .agg [.lit (.int .i64 1), .lit (.int .i64 10000)], .agg [.lit (.int .i64 0), .lit (.int .i64 9)]]], .agg [.lit (.string [99, 97, 110, 99, 101, 108]), .agg [.agg [.lit (.int .i64 1), .lit (.int .i64 1000000)], .agg [.lit (.int .i64 0), .lit (.int .i64 0)], .agg [.lit (.int .i64 0), .lit (.int .i64 0)]]], .agg [.lit (.string [116, 105, 99, 107]), .agg [.agg [.lit (.int .i64 0), .lit (.int .i64 1000000000)], .agg [.lit (.int .i64 0), .lit (.int .i64 0)], .agg [.lit (.int .i64 0), .lit (.int .i64 0)]]], .agg [.lit (.string [100, 114, 97, 105, 110]), .agg [.agg [.lit (.int .i64 0), .lit (.int .i64 7)], .agg [.lit (.int .i64 0), .lit (.int .i64 0)], .agg [.lit (.int .i64 0), .lit (.int .i64 0)]]], .agg [.lit (.string [117, 112]), .agg [.agg [.lit (.int .i64 0), .lit (.int .i64 7)], .agg [.lit (.int .i64 0), .lit (.int .i64 0)], .agg [.lit (.int .i64 0), .lit (.int .i64 0)]]], .agg [.lit (.string [100, 111, 119, 110]), .agg [.agg [.lit (.int .i64 0), .lit (.int .i64 7)], .agg [.lit (.int .i64 0), .lit (.int .i64 0)], .agg [.lit (.int .i64 0), .lit (.int .i64 0)]]], .agg [.lit (.string [100, 111, 110, 101]), .agg [.agg [.lit (.int .i64 1), .lit (.int .i64 1000000)], .agg [.lit (.int .i64 1), .lit (.int .i64 1000000)], .agg [.lit (.int .i64 0), .lit (.int .i64 0)]]]]

/-- 'laws.FnCommands': WHATEVER THE INPUT: true; the input reads as it did. -/
def fnCommandsSpec : ChangeSpec := { name := "fnCommands", vars := ["loop.example/g00255/impl.shapes"], fn := fun _ => fun
  | [d, g1] => { results := [.lit (.bool true)], args := [d], vars := [g1] }
  | _ => none }
def fnCommandsRow : OpenClaim := { program := "ytppnnnijdfbgpaadoor", sum := "c0626614fb1deb16fc16d85ca5fbfc24ad6a361922aa7a82e21d69ca1c030606", func := "loop.example/g00255/laws.FnCommands", spec := "fnCommands", named := ["loop.example/g00255/impl.shapes", "internal/strconv.uint64pow10", "math/bits.deBruijn32tab", "math/bits.deBruijn64tab"], apart := false, laid := [("math/bits.deBruijn32tab", laid_math_bits_deBruijn32tab), ("math/bits.deBruijn64tab", laid_math_bits_deBruijn64tab), ("internal/strconv.uint64pow10", laid_internal_strconv_uint64pow10), ("loop.example/g00255/impl.shapes", laid_loop_example_g00255_impl_shapes)] }
def FnCommandsSaid : Prop := fnCommandsRow.holds Tryd.pinned (OpenSpec.ofChange fnCommandsSpec)

/-- ITS FALSE NEIGHBOUR: 'it returns false'. Refute it at one input. -/
def fnCommandsWrong : ChangeSpec := { name := "fnCommands", vars := ["loop.example/g00255/impl.shapes"], fn := fun _ => fun
  | [d, g1] => { results := [.lit (.bool false)], args := [d], vars := [g1] }
  | _ => none }
def FnCommandsWrongFalsely : Prop := fnCommandsRow.holds Tryd.pinned (OpenSpec.ofChange fnCommandsWrong)

/-- 'laws.FnExactCommandOk': WHATEVER THE INPUT: true; the input reads as it did. -/
def fnExactCommandOkSpec : ChangeSpec := { name := "fnExactCommandOk", vars := ["loop.example/g00255/impl.shapes"], fn := fun _ => fun
  | [d, g1] => { results := [.lit (.bool true)], args := [d], vars := [g1] }
  | _ => none }
def fnExactCommandOkRow : OpenClaim := { program := "ytppnnnijdfbgpaadoor", sum := "c0626614fb1deb16fc16d85ca5fbfc24ad6a361922aa7a82e21d69ca1c030606", func := "loop.example/g00255/laws.FnExactCommandOk", spec := "fnExactCommandOk", named := ["loop.example/g00255/impl.shapes"], apart := false, laid := [("loop.example/g00255/impl.shapes", laid_loop_example_g00255_impl_shapes)] }
def FnExactCommandOkSaid : Prop := fnExactCommandOkRow.holds Tryd.pinned (OpenSpec.ofChange fnExactCommandOkSpec)

/-- ITS FALSE NEIGHBOUR: 'it returns false'. Refute it at one input. -/
def fnExactCommandOkWrong : ChangeSpec := { name := "fnExactCommandOk", vars := ["loop.example/g00255/impl.shapes"], fn := fun _ => fun
  | [d, g1] => { results := [.lit (.bool false)], args := [d], vars := [g1] }
  | _ => none }
def FnExactCommandOkWrongFalsely : Prop := fnExactCommandOkRow.holds Tryd.pinned (OpenSpec.ofChange fnExactCommandOkWrong)

/-- 'laws.FnExactShowCommand': WHATEVER THE INPUT: true; the input reads as it did. -/
def fnExactShowCommandSpec : ChangeSpec := { name := "fnExactShowCommand", vars := ["loop.example/g00255/impl.shapes"], fn := fun _ => fun
  | [d, g1] => { results := [.lit (.bool true)], args := [d], vars := [g1] }
  | _ => none }
def fnExactShowCommandRow : OpenClaim := { program := "ytppnnnijdfbgpaadoor", sum := "c0626614fb1deb16fc16d85ca5fbfc24ad6a361922aa7a82e21d69ca1c030606", func := "loop.example/g00255/laws.FnExactShowCommand", spec := "fnExactShowCommand", named := ["loop.example/g00255/impl.shapes", "internal/strconv.uint64pow10", "math/bits.deBruijn32tab", "math/bits.deBruijn64tab"], apart := false, laid := [("math/bits.deBruijn32tab", laid_math_bits_deBruijn32tab), ("math/bits.deBruijn64tab", laid_math_bits_deBruijn64tab), ("internal/strconv.uint64pow10", laid_internal_strconv_uint64pow10), ("loop.example/g00255/impl.shapes", laid_loop_example_g00255_impl_shapes)] }
def FnExactShowCommandSaid : Prop := fnExactShowCommandRow.holds Tryd.pinned (OpenSpec.ofChange fnExactShowCommandSpec)

/-- ITS FALSE NEIGHBOUR: 'it returns false'. Refute it at one input. -/
def fnExactShowCommandWrong : ChangeSpec := { name := "fnExactShowCommand", vars := ["loop.example/g00255/impl.shapes"], fn := fun _ => fun
  | [d, g1] => { results := [.lit (.bool false)], args := [d], vars := [g1] }
  | _ => none }
def FnExactShowCommandWrongFalsely : Prop := fnExactShowCommandRow.holds Tryd.pinned (OpenSpec.ofChange fnExactShowCommandWrong)

/-- 'laws.FnExactReadCommand': WHATEVER THE INPUT: true; the input reads as it did. -/
def fnExactReadCommandSpec : ChangeSpec := { name := "fnExactReadCommand", vars := ["loop.example/g00255/impl.shapes"], fn := fun _ => fun
  | [d, g1] => { results := [.lit (.bool true)], args := [d], vars := [g1] }
  | _ => none }
def fnExactReadCommandRow : OpenClaim := { program := "ytppnnnijdfbgpaadoor", sum := "c0626614fb1deb16fc16d85ca5fbfc24ad6a361922aa7a82e21d69ca1c030606", func := "loop.example/g00255/laws.FnExactReadCommand", spec := "fnExactReadCommand", named := ["loop.example/g00255/impl.shapes"], apart := false, laid := [("loop.example/g00255/impl.shapes", laid_loop_example_g00255_impl_shapes)] }
def FnExactReadCommandSaid : Prop := fnExactReadCommandRow.holds Tryd.pinned (OpenSpec.ofChange fnExactReadCommandSpec)

/-- ITS FALSE NEIGHBOUR: 'it returns false'. Refute it at one input. -/
def fnExactReadCommandWrong : ChangeSpec := { name := "fnExactReadCommand", vars := ["loop.example/g00255/impl.shapes"], fn := fun _ => fun
  | [d, g1] => { results := [.lit (.bool false)], args := [d], vars := [g1] }
  | _ => none }
def FnExactReadCommandWrongFalsely : Prop := fnExactReadCommandRow.holds Tryd.pinned (OpenSpec.ofChange fnExactReadCommandWrong)

/- THE SECOND FORM. 'bulk': how many values and letters a reading holds, each counted each time it is reached (what is shared counts as often as it is met; a slice's spare places count too). A statement '..UptoSaid' is the law's where the arguments, and the package variables that the reading takes, are together of bulk at most 1048576: NARROWER than '..Said'. Prove '..Said' where nothing that the law and all that it calls make is longer than what came in: it says more and counts as full. Else prove '..UptoSaid'. A law counts once. -/
mutual
def uptoBulk {H : Type} : DataW H → Nat
  | .lit (.string bytes) => bytes.length + 1
  | .lit _ => 1
  | .nil => 1
  | .ptr d => uptoBulk d + 1
  | .slice elems spare => uptoBulkAll elems + uptoBulkAll spare + 1
  | .agg parts => uptoBulkAll parts + 1
  | .iface _ d => uptoBulk d + 1
  | .map entries => uptoBulkEntries entries + 1
  | .held _ => 1
def uptoBulkAll {H : Type} : List (DataW H) → Nat
  | [] => 0
  | d :: r => uptoBulk d + uptoBulkAll r
def uptoBulkEntries {H : Type} : List (Lit × DataW H) → Nat
  | [] => 0
  | x :: r => uptoBulkEntry x + uptoBulkEntries r
def uptoBulkEntry {H : Type} : Lit × DataW H → Nat
  | (.string bytes, d) => bytes.length + uptoBulk d + 1
  | (_, d) => uptoBulk d + 1
 end
def uptoSmall : (H : Type) → List (DataW H) → Bool := fun _ ds => decide (uptoBulkAll ds ≤ 1048576)
def OpenSpec.upto (s : _root_.Go.ChangeSpec) : _root_.Go.OpenSpec := { _root_.Go.OpenSpec.ofChange s with cond := some uptoSmall }

/-- 'laws.FnCommands', WHERE WHAT IT READS IS OF BULK AT MOST 1048576: true; the input reads as it did. -/
def fnCommandsUptoRow : OpenClaim := { program := "ytppnnnijdfbgpaadoor", sum := "c0626614fb1deb16fc16d85ca5fbfc24ad6a361922aa7a82e21d69ca1c030606", func := "loop.example/g00255/laws.FnCommands", spec := "fnCommands", named := ["loop.example/g00255/impl.shapes", "internal/strconv.uint64pow10", "math/bits.deBruijn32tab", "math/bits.deBruijn64tab"], apart := false, laid := [("math/bits.deBruijn32tab", laid_math_bits_deBruijn32tab), ("math/bits.deBruijn64tab", laid_math_bits_deBruijn64tab), ("internal/strconv.uint64pow10", laid_internal_strconv_uint64pow10), ("loop.example/g00255/impl.shapes", laid_loop_example_g00255_impl_shapes)], narrowed := true }
def FnCommandsUptoSaid : Prop := fnCommandsUptoRow.holds Tryd.pinned (OpenSpec.upto fnCommandsSpec)

/-- 'laws.FnExactCommandOk', WHERE WHAT IT READS IS OF BULK AT MOST 1048576: true; the input reads as it did. -/
def fnExactCommandOkUptoRow : OpenClaim := { program := "ytppnnnijdfbgpaadoor", sum := "c0626614fb1deb16fc16d85ca5fbfc24ad6a361922aa7a82e21d69ca1c030606", func := "loop.example/g00255/laws.FnExactCommandOk", spec := "fnExactCommandOk", named := ["loop.example/g00255/impl.shapes"], apart := false, laid := [("loop.example/g00255/impl.shapes", laid_loop_example_g00255_impl_shapes)], narrowed := true }
def FnExactCommandOkUptoSaid : Prop := fnExactCommandOkUptoRow.holds Tryd.pinned (OpenSpec.upto fnExactCommandOkSpec)

/-- 'laws.FnExactShowCommand', WHERE WHAT IT READS IS OF BULK AT MOST 1048576: true; the input reads as it did. -/
def fnExactShowCommandUptoRow : OpenClaim := { program := "ytppnnnijdfbgpaadoor", sum := "c0626614fb1deb16fc16d85ca5fbfc24ad6a361922aa7a82e21d69ca1c030606", func := "loop.example/g00255/laws.FnExactShowCommand", spec := "fnExactShowCommand", named := ["loop.example/g00255/impl.shapes", "internal/strconv.uint64pow10", "math/bits.deBruijn32tab", "math/bits.deBruijn64tab"], apart := false, laid := [("math/bits.deBruijn32tab", laid_math_bits_deBruijn32tab), ("math/bits.deBruijn64tab", laid_math_bits_deBruijn64tab), ("internal/strconv.uint64pow10", laid_internal_strconv_uint64pow10), ("loop.example/g00255/impl.shapes", laid_loop_example_g00255_impl_shapes)], narrowed := true }
def FnExactShowCommandUptoSaid : Prop := fnExactShowCommandUptoRow.holds Tryd.pinned (OpenSpec.upto fnExactShowCommandSpec)

/-- 'laws.FnExactReadCommand', WHERE WHAT IT READS IS OF BULK AT MOST 1048576: true; the input reads as it did. -/
def fnExactReadCommandUptoRow : OpenClaim := { program := "ytppnnnijdfbgpaadoor", sum := "c0626614fb1deb16fc16d85ca5fbfc24ad6a361922aa7a82e21d69ca1c030606", func := "loop.example/g00255/laws.FnExactReadCommand", spec := "fnExactReadCommand", named := ["loop.example/g00255/impl.shapes"], apart := false, laid := [("loop.example/g00255/impl.shapes", laid_loop_example_g00255_impl_shapes)], narrowed := true }
def FnExactReadCommandUptoSaid : Prop := fnExactReadCommandUptoRow.holds Tryd.pinned (OpenSpec.upto fnExactReadCommandSpec)

end Rows
end Go.Proofs.YtppnnnijdfbgpaaDoor
