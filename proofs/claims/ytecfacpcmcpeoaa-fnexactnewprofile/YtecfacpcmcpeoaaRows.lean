/-
  No cell of these rows narrows 'for every input' (looked for: loops, veiled, ifaces, maps, wideKeys, modest, calm, conditions, laid).
  DERIVED. THE GIVEN ROWS OF THIS SEAT. 10 by the template 'for every input the law returns true; each argument reads behind the call as it read before'; 0 by the template 'total and deterministic' (their statements: YtecfacpcmcpeoaaTotals.lean).
  GIVEN WITH THE SEED: the statements are not yours to turn. If you find one false, say at which input.
  Laid BY PROGRAM, IN A SANDBOX (cutbox-rows.mjs): the forced cells as the released guide's own fill.sh prints them over the translation 9246ad48bbb8f0d1… (all of the seat's roots in one cut). By AI agents, Wed Nov 11 2026. No macro, syntax, notation, axiom, sorry.
-/
import Derived.Test.YtecfacpcmcpeoaaChecked
import GoSem.Claim
import GoSem.ClaimJoined
import GoSem.ClaimMapViews
import Derived.JoinedTies
import Derived.KernelRfl
namespace Go.Proofs.Ytecfacpcmcpeoaa
/- THE CELL 'sum', in the pinned program and in every row, IS THE sha256 OF THE DUMP (.gsa) THAT YtecfacpcmcpeoaaProg.lean LOADS. Nothing in Lean hashes anything: it is a label: what it is worth is what the hold of that sum in a sandbox is worth. -/
noncomputable def Try.pinned : Pinned := { name := "ytecfacpcmcpeoaa", sum := "9246ad48bbb8f0d1176cf31c85bda4c06840786501a999bf4ed7e4decd8516bf", checked := Try.checked }
namespace Rows
def none {H : Type} : Left H := { results := [], args := [] }

/-- 'laws.FnFit': WHATEVER THE INPUT: true; the input reads as it did. -/
def fnFitSpec : ChangeSpec := { name := "fnFit", fn := fun _ => fun
  | [d] => { results := [.lit (.bool true)], args := [d] }
  | _ => none }
def fnFitRow : OpenClaim := { program := "ytecfacpcmcpeoaa", sum := "9246ad48bbb8f0d1176cf31c85bda4c06840786501a999bf4ed7e4decd8516bf", func := "loop.example/g00255/laws.FnFit", spec := "fnFit", unfollowed := true, recurses := true, apart := false }
def FnFitSaid : Prop := fnFitRow.holds Try.pinned (OpenSpec.ofChange fnFitSpec)

/-- ITS FALSE NEIGHBOUR: 'it returns false'. Refute it at one input. -/
def fnFitWrong : ChangeSpec := { name := "fnFit", fn := fun _ => fun
  | [d] => { results := [.lit (.bool false)], args := [d] }
  | _ => none }
def FnFitWrongFalsely : Prop := fnFitRow.holds Try.pinned (OpenSpec.ofChange fnFitWrong)

/-- 'laws.FnAreas': WHATEVER THE INPUT: true; the input reads as it did. -/
def fnAreasSpec : ChangeSpec := { name := "fnAreas", fn := fun _ => fun
  | [d] => { results := [.lit (.bool true)], args := [d] }
  | _ => none }
def fnAreasRow : OpenClaim := { program := "ytecfacpcmcpeoaa", sum := "9246ad48bbb8f0d1176cf31c85bda4c06840786501a999bf4ed7e4decd8516bf", func := "loop.example/g00255/laws.FnAreas", spec := "fnAreas", unfollowed := true, recurses := true, apart := false }
def FnAreasSaid : Prop := fnAreasRow.holds Try.pinned (OpenSpec.ofChange fnAreasSpec)

/-- ITS FALSE NEIGHBOUR: 'it returns false'. Refute it at one input. -/
def fnAreasWrong : ChangeSpec := { name := "fnAreas", fn := fun _ => fun
  | [d] => { results := [.lit (.bool false)], args := [d] }
  | _ => none }
def FnAreasWrongFalsely : Prop := fnAreasRow.holds Try.pinned (OpenSpec.ofChange fnAreasWrong)

/-- 'laws.FnSooner': WHATEVER THE INPUT: true; the input reads as it did. -/
def fnSoonerSpec : ChangeSpec := { name := "fnSooner", fn := fun _ => fun
  | [d] => { results := [.lit (.bool true)], args := [d] }
  | _ => none }
def fnSoonerRow : OpenClaim := { program := "ytecfacpcmcpeoaa", sum := "9246ad48bbb8f0d1176cf31c85bda4c06840786501a999bf4ed7e4decd8516bf", func := "loop.example/g00255/laws.FnSooner", spec := "fnSooner", unfollowed := true, recurses := true, apart := false }
def FnSoonerSaid : Prop := fnSoonerRow.holds Try.pinned (OpenSpec.ofChange fnSoonerSpec)

/-- ITS FALSE NEIGHBOUR: 'it returns false'. Refute it at one input. -/
def fnSoonerWrong : ChangeSpec := { name := "fnSooner", fn := fun _ => fun
  | [d] => { results := [.lit (.bool false)], args := [d] }
  | _ => none }
def FnSoonerWrongFalsely : Prop := fnSoonerRow.holds Try.pinned (OpenSpec.ofChange fnSoonerWrong)

/-- 'laws.FnExactProfileOk': WHATEVER THE INPUT: true; the input reads as it did. -/
def fnExactProfileOkSpec : ChangeSpec := { name := "fnExactProfileOk", fn := fun _ => fun
  | [d] => { results := [.lit (.bool true)], args := [d] }
  | _ => none }
def fnExactProfileOkRow : OpenClaim := { program := "ytecfacpcmcpeoaa", sum := "9246ad48bbb8f0d1176cf31c85bda4c06840786501a999bf4ed7e4decd8516bf", func := "loop.example/g00255/laws.FnExactProfileOk", spec := "fnExactProfileOk", apart := false }
def FnExactProfileOkSaid : Prop := fnExactProfileOkRow.holds Try.pinned (OpenSpec.ofChange fnExactProfileOkSpec)

/-- ITS FALSE NEIGHBOUR: 'it returns false'. Refute it at one input. -/
def fnExactProfileOkWrong : ChangeSpec := { name := "fnExactProfileOk", fn := fun _ => fun
  | [d] => { results := [.lit (.bool false)], args := [d] }
  | _ => none }
def FnExactProfileOkWrongFalsely : Prop := fnExactProfileOkRow.holds Try.pinned (OpenSpec.ofChange fnExactProfileOkWrong)

/-- 'laws.FnExactNewProfile': WHATEVER THE INPUT: true; the input reads as it did. -/
def fnExactNewProfileSpec : ChangeSpec := { name := "fnExactNewProfile", fn := fun _ => fun
  | [d] => { results := [.lit (.bool true)], args := [d] }
  | _ => none }
def fnExactNewProfileRow : OpenClaim := { program := "ytecfacpcmcpeoaa", sum := "9246ad48bbb8f0d1176cf31c85bda4c06840786501a999bf4ed7e4decd8516bf", func := "loop.example/g00255/laws.FnExactNewProfile", spec := "fnExactNewProfile", apart := false }
def FnExactNewProfileSaid : Prop := fnExactNewProfileRow.holds Try.pinned (OpenSpec.ofChange fnExactNewProfileSpec)

/-- ITS FALSE NEIGHBOUR: 'it returns false'. Refute it at one input. -/
def fnExactNewProfileWrong : ChangeSpec := { name := "fnExactNewProfile", fn := fun _ => fun
  | [d] => { results := [.lit (.bool false)], args := [d] }
  | _ => none }
def FnExactNewProfileWrongFalsely : Prop := fnExactNewProfileRow.holds Try.pinned (OpenSpec.ofChange fnExactNewProfileWrong)

/-- 'laws.FnExactFreeAt': WHATEVER THE INPUT: true; the input reads as it did. -/
def fnExactFreeAtSpec : ChangeSpec := { name := "fnExactFreeAt", fn := fun _ => fun
  | [d1, d2] => { results := [.lit (.bool true)], args := [d1, d2] }
  | _ => none }
def fnExactFreeAtRow : OpenClaim := { program := "ytecfacpcmcpeoaa", sum := "9246ad48bbb8f0d1176cf31c85bda4c06840786501a999bf4ed7e4decd8516bf", func := "loop.example/g00255/laws.FnExactFreeAt", spec := "fnExactFreeAt", unfollowed := true, recurses := true, apart := false }
def FnExactFreeAtSaid : Prop := fnExactFreeAtRow.holds Try.pinned (OpenSpec.ofChange fnExactFreeAtSpec)

/-- ITS FALSE NEIGHBOUR: 'it returns false'. Refute it at one input. -/
def fnExactFreeAtWrong : ChangeSpec := { name := "fnExactFreeAt", fn := fun _ => fun
  | [d1, d2] => { results := [.lit (.bool false)], args := [d1, d2] }
  | _ => none }
def FnExactFreeAtWrongFalsely : Prop := fnExactFreeAtRow.holds Try.pinned (OpenSpec.ofChange fnExactFreeAtWrong)

/-- 'laws.FnExactLeast': WHATEVER THE INPUT: true; the input reads as it did. -/
def fnExactLeastSpec : ChangeSpec := { name := "fnExactLeast", fn := fun _ => fun
  | [d1, d2, d3] => { results := [.lit (.bool true)], args := [d1, d2, d3] }
  | _ => none }
def fnExactLeastRow : OpenClaim := { program := "ytecfacpcmcpeoaa", sum := "9246ad48bbb8f0d1176cf31c85bda4c06840786501a999bf4ed7e4decd8516bf", func := "loop.example/g00255/laws.FnExactLeast", spec := "fnExactLeast", unfollowed := true, recurses := true, apart := false }
def FnExactLeastSaid : Prop := fnExactLeastRow.holds Try.pinned (OpenSpec.ofChange fnExactLeastSpec)

/-- ITS FALSE NEIGHBOUR: 'it returns false'. Refute it at one input. -/
def fnExactLeastWrong : ChangeSpec := { name := "fnExactLeast", fn := fun _ => fun
  | [d1, d2, d3] => { results := [.lit (.bool false)], args := [d1, d2, d3] }
  | _ => none }
def FnExactLeastWrongFalsely : Prop := fnExactLeastRow.holds Try.pinned (OpenSpec.ofChange fnExactLeastWrong)

/-- 'laws.FnExactFit': WHATEVER THE INPUT: true; the input reads as it did. -/
def fnExactFitSpec : ChangeSpec := { name := "fnExactFit", fn := fun _ => fun
  | [d1, d2, d3, d4] => { results := [.lit (.bool true)], args := [d1, d2, d3, d4] }
  | _ => none }
def fnExactFitRow : OpenClaim := { program := "ytecfacpcmcpeoaa", sum := "9246ad48bbb8f0d1176cf31c85bda4c06840786501a999bf4ed7e4decd8516bf", func := "loop.example/g00255/laws.FnExactFit", spec := "fnExactFit", unfollowed := true, recurses := true, apart := false }
def FnExactFitSaid : Prop := fnExactFitRow.holds Try.pinned (OpenSpec.ofChange fnExactFitSpec)

/-- ITS FALSE NEIGHBOUR: 'it returns false'. Refute it at one input. -/
def fnExactFitWrong : ChangeSpec := { name := "fnExactFit", fn := fun _ => fun
  | [d1, d2, d3, d4] => { results := [.lit (.bool false)], args := [d1, d2, d3, d4] }
  | _ => none }
def FnExactFitWrongFalsely : Prop := fnExactFitRow.holds Try.pinned (OpenSpec.ofChange fnExactFitWrong)

/-- 'laws.FnExactArea': WHATEVER THE INPUT: true; the input reads as it did. -/
def fnExactAreaSpec : ChangeSpec := { name := "fnExactArea", fn := fun _ => fun
  | [d1, d2, d3] => { results := [.lit (.bool true)], args := [d1, d2, d3] }
  | _ => none }
def fnExactAreaRow : OpenClaim := { program := "ytecfacpcmcpeoaa", sum := "9246ad48bbb8f0d1176cf31c85bda4c06840786501a999bf4ed7e4decd8516bf", func := "loop.example/g00255/laws.FnExactArea", spec := "fnExactArea", unfollowed := true, recurses := true, apart := false }
def FnExactAreaSaid : Prop := fnExactAreaRow.holds Try.pinned (OpenSpec.ofChange fnExactAreaSpec)

/-- ITS FALSE NEIGHBOUR: 'it returns false'. Refute it at one input. -/
def fnExactAreaWrong : ChangeSpec := { name := "fnExactArea", fn := fun _ => fun
  | [d1, d2, d3] => { results := [.lit (.bool false)], args := [d1, d2, d3] }
  | _ => none }
def FnExactAreaWrongFalsely : Prop := fnExactAreaRow.holds Try.pinned (OpenSpec.ofChange fnExactAreaWrong)

/-- 'laws.FnExactLower': WHATEVER THE INPUT: true; the input reads as it did. -/
def fnExactLowerSpec : ChangeSpec := { name := "fnExactLower", fn := fun _ => fun
  | [d1, d2] => { results := [.lit (.bool true)], args := [d1, d2] }
  | _ => none }
def fnExactLowerRow : OpenClaim := { program := "ytecfacpcmcpeoaa", sum := "9246ad48bbb8f0d1176cf31c85bda4c06840786501a999bf4ed7e4decd8516bf", func := "loop.example/g00255/laws.FnExactLower", spec := "fnExactLower", unfollowed := true, recurses := true, apart := false }
def FnExactLowerSaid : Prop := fnExactLowerRow.holds Try.pinned (OpenSpec.ofChange fnExactLowerSpec)

/-- ITS FALSE NEIGHBOUR: 'it returns false'. Refute it at one input. -/
def fnExactLowerWrong : ChangeSpec := { name := "fnExactLower", fn := fun _ => fun
  | [d1, d2] => { results := [.lit (.bool false)], args := [d1, d2] }
  | _ => none }
def FnExactLowerWrongFalsely : Prop := fnExactLowerRow.holds Try.pinned (OpenSpec.ofChange fnExactLowerWrong)

/- THE SECOND FORM. 'bulk': how many values and letters a reading holds, each counted each time it is reached (what is shared counts as often as it is met; a slice's spare places count too). A statement '..UptoSaid' is the law's where the arguments, and the package variables that the reading takes, are together of bulk at most 1048576: NARROWER than '..Said'. Prove '..Said' where nothing that the law and all that it calls make is longer than what came in: it says more and counts as full. Else prove '..UptoSaid'. A law counts once. -/
mutual
def uptoBulk {H : Type} : DataW H → Nat
  | .lit (.string bytes) => bytes.length + 1
  | .lit _ => 1
  | .nil => 1
  | .ptr d => uptoBulk d + 1
  | .slice elems spare => uptoBulkAll elems + uptoBulkAll spare + 1
  | .agg parts => uptoBulkAll parts + 1
  | .iface _ d => uptoBulk d + 1
  | .map entries => uptoBulkEntries entries + 1
  | .held _ => 1
def uptoBulkAll {H : Type} : List (DataW H) → Nat
  | [] => 0
  | d :: r => uptoBulk d + uptoBulkAll r
def uptoBulkEntries {H : Type} : List (Lit × DataW H) → Nat
  | [] => 0
  | x :: r => uptoBulkEntry x + uptoBulkEntries r
def uptoBulkEntry {H : Type} : Lit × DataW H → Nat
  | (.string bytes, d) => bytes.length + uptoBulk d + 1
  | (_, d) => uptoBulk d + 1
 end
def uptoSmall : (H : Type) → List (DataW H) → Bool := fun _ ds => decide (uptoBulkAll ds ≤ 1048576)
def OpenSpec.upto (s : _root_.Go.ChangeSpec) : _root_.Go.OpenSpec := { _root_.Go.OpenSpec.ofChange s with cond := some uptoSmall }

/-- 'laws.FnFit', WHERE WHAT IT READS IS OF BULK AT MOST 1048576: true; the input reads as it did. -/
def fnFitUptoRow : OpenClaim := { program := "ytecfacpcmcpeoaa", sum := "9246ad48bbb8f0d1176cf31c85bda4c06840786501a999bf4ed7e4decd8516bf", func := "loop.example/g00255/laws.FnFit", spec := "fnFit", unfollowed := true, recurses := true, apart := false, narrowed := true }
def FnFitUptoSaid : Prop := fnFitUptoRow.holds Try.pinned (OpenSpec.upto fnFitSpec)

/-- 'laws.FnAreas', WHERE WHAT IT READS IS OF BULK AT MOST 1048576: true; the input reads as it did. -/
def fnAreasUptoRow : OpenClaim := { program := "ytecfacpcmcpeoaa", sum := "9246ad48bbb8f0d1176cf31c85bda4c06840786501a999bf4ed7e4decd8516bf", func := "loop.example/g00255/laws.FnAreas", spec := "fnAreas", unfollowed := true, recurses := true, apart := false, narrowed := true }
def FnAreasUptoSaid : Prop := fnAreasUptoRow.holds Try.pinned (OpenSpec.upto fnAreasSpec)

/-- 'laws.FnSooner', WHERE WHAT IT READS IS OF BULK AT MOST 1048576: true; the input reads as it did. -/
def fnSoonerUptoRow : OpenClaim := { program := "ytecfacpcmcpeoaa", sum := "9246ad48bbb8f0d1176cf31c85bda4c06840786501a999bf4ed7e4decd8516bf", func := "loop.example/g00255/laws.FnSooner", spec := "fnSooner", unfollowed := true, recurses := true, apart := false, narrowed := true }
def FnSoonerUptoSaid : Prop := fnSoonerUptoRow.holds Try.pinned (OpenSpec.upto fnSoonerSpec)

/-- 'laws.FnExactProfileOk', WHERE WHAT IT READS IS OF BULK AT MOST 1048576: true; the input reads as it did. -/
def fnExactProfileOkUptoRow : OpenClaim := { program := "ytecfacpcmcpeoaa", sum := "9246ad48bbb8f0d1176cf31c85bda4c06840786501a999bf4ed7e4decd8516bf", func := "loop.example/g00255/laws.FnExactProfileOk", spec := "fnExactProfileOk", apart := false, narrowed := true }
def FnExactProfileOkUptoSaid : Prop := fnExactProfileOkUptoRow.holds Try.pinned (OpenSpec.upto fnExactProfileOkSpec)

/-- 'laws.FnExactNewProfile', WHERE WHAT IT READS IS OF BULK AT MOST 1048576: true; the input reads as it did. -/
def fnExactNewProfileUptoRow : OpenClaim := { program := "ytecfacpcmcpeoaa", sum := "9246ad48bbb8f0d1176cf31c85bda4c06840786501a999bf4ed7e4decd8516bf", func := "loop.example/g00255/laws.FnExactNewProfile", spec := "fnExactNewProfile", apart := false, narrowed := true }
def FnExactNewProfileUptoSaid : Prop := fnExactNewProfileUptoRow.holds Try.pinned (OpenSpec.upto fnExactNewProfileSpec)

/-- 'laws.FnExactFreeAt', WHERE WHAT IT READS IS OF BULK AT MOST 1048576: true; the input reads as it did. -/
def fnExactFreeAtUptoRow : OpenClaim := { program := "ytecfacpcmcpeoaa", sum := "9246ad48bbb8f0d1176cf31c85bda4c06840786501a999bf4ed7e4decd8516bf", func := "loop.example/g00255/laws.FnExactFreeAt", spec := "fnExactFreeAt", unfollowed := true, recurses := true, apart := false, narrowed := true }
def FnExactFreeAtUptoSaid : Prop := fnExactFreeAtUptoRow.holds Try.pinned (OpenSpec.upto fnExactFreeAtSpec)

/-- 'laws.FnExactLeast', WHERE WHAT IT READS IS OF BULK AT MOST 1048576: true; the input reads as it did. -/
def fnExactLeastUptoRow : OpenClaim := { program := "ytecfacpcmcpeoaa", sum := "9246ad48bbb8f0d1176cf31c85bda4c06840786501a999bf4ed7e4decd8516bf", func := "loop.example/g00255/laws.FnExactLeast", spec := "fnExactLeast", unfollowed := true, recurses := true, apart := false, narrowed := true }
def FnExactLeastUptoSaid : Prop := fnExactLeastUptoRow.holds Try.pinned (OpenSpec.upto fnExactLeastSpec)

/-- 'laws.FnExactFit', WHERE WHAT IT READS IS OF BULK AT MOST 1048576: true; the input reads as it did. -/
def fnExactFitUptoRow : OpenClaim := { program := "ytecfacpcmcpeoaa", sum := "9246ad48bbb8f0d1176cf31c85bda4c06840786501a999bf4ed7e4decd8516bf", func := "loop.example/g00255/laws.FnExactFit", spec := "fnExactFit", unfollowed := true, recurses := true, apart := false, narrowed := true }
def FnExactFitUptoSaid : Prop := fnExactFitUptoRow.holds Try.pinned (OpenSpec.upto fnExactFitSpec)

/-- 'laws.FnExactArea', WHERE WHAT IT READS IS OF BULK AT MOST 1048576: true; the input reads as it did. -/
def fnExactAreaUptoRow : OpenClaim := { program := "ytecfacpcmcpeoaa", sum := "9246ad48bbb8f0d1176cf31c85bda4c06840786501a999bf4ed7e4decd8516bf", func := "loop.example/g00255/laws.FnExactArea", spec := "fnExactArea", unfollowed := true, recurses := true, apart := false, narrowed := true }
def FnExactAreaUptoSaid : Prop := fnExactAreaUptoRow.holds Try.pinned (OpenSpec.upto fnExactAreaSpec)

/-- 'laws.FnExactLower', WHERE WHAT IT READS IS OF BULK AT MOST 1048576: true; the input reads as it did. -/
def fnExactLowerUptoRow : OpenClaim := { program := "ytecfacpcmcpeoaa", sum := "9246ad48bbb8f0d1176cf31c85bda4c06840786501a999bf4ed7e4decd8516bf", func := "loop.example/g00255/laws.FnExactLower", spec := "fnExactLower", unfollowed := true, recurses := true, apart := false, narrowed := true }
def FnExactLowerUptoSaid : Prop := fnExactLowerUptoRow.holds Try.pinned (OpenSpec.upto fnExactLowerSpec)

end Rows
end Go.Proofs.Ytecfacpcmcpeoaa
