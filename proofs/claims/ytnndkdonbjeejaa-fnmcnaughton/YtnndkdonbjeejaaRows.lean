/-
  No cell of these rows narrows 'for every input' (looked for: loops, veiled, ifaces, maps, wideKeys, modest, calm, conditions, laid).
  DERIVED. THE GIVEN ROWS OF THIS SEAT. 4 by the template 'for every input the law returns true; each argument reads behind the call as it read before'; 0 by the template 'total and deterministic' (their statements: YtnndkdonbjeejaaTotals.lean).
  GIVEN WITH THE SEED: the statements are not yours to turn. If you find one false, say at which input.
  Laid BY PROGRAM, IN A SANDBOX (cutbox-rows.mjs): the forced cells as the released guide's own fill.sh prints them over the translation 1a32e0995662fe0f… (all of the seat's roots in one cut). By AI agents, Wed Nov 11 2026. No macro, syntax, notation, axiom, sorry.
-/
import Derived.Test.YtnndkdonbjeejaaChecked
import GoSem.Claim
import GoSem.ClaimJoined
import GoSem.ClaimMapViews
import Derived.JoinedTies
import Derived.KernelRfl
namespace Go.Proofs.Ytnndkdonbjeejaa
/- THE CELL 'sum', in the pinned program and in every row, IS THE sha256 OF THE DUMP (.gsa) THAT YtnndkdonbjeejaaProg.lean LOADS. Nothing in Lean hashes anything: it is a label: what it is worth is what the hold of that sum in a sandbox is worth. -/
noncomputable def Try.pinned : Pinned := { name := "ytnndkdonbjeejaa", sum := "1a32e0995662fe0fc32ccc17d310d334be3166c0d60db82ea5962f973d1218dd", checked := Try.checked }
namespace Rows
def none {H : Type} : Left H := { results := [], args := [] }

/-- 'laws.FnMcNaughton': WHATEVER THE INPUT: true; the input reads as it did. -/
def fnMcNaughtonSpec : ChangeSpec := { name := "fnMcNaughton", fn := fun _ => fun
  | [d] => { results := [.lit (.bool true)], args := [d] }
  | _ => none }
def fnMcNaughtonRow : OpenClaim := { program := "ytnndkdonbjeejaa", sum := "1a32e0995662fe0fc32ccc17d310d334be3166c0d60db82ea5962f973d1218dd", func := "loop.example/g00255/laws.FnMcNaughton", spec := "fnMcNaughton", unfollowed := true, recurses := true, apart := false }
def FnMcNaughtonSaid : Prop := fnMcNaughtonRow.holds Try.pinned (OpenSpec.ofChange fnMcNaughtonSpec)

/-- ITS FALSE NEIGHBOUR: 'it returns false'. Refute it at one input. -/
def fnMcNaughtonWrong : ChangeSpec := { name := "fnMcNaughton", fn := fun _ => fun
  | [d] => { results := [.lit (.bool false)], args := [d] }
  | _ => none }
def FnMcNaughtonWrongFalsely : Prop := fnMcNaughtonRow.holds Try.pinned (OpenSpec.ofChange fnMcNaughtonWrong)

/-- 'laws.FnExactPieces': WHATEVER THE INPUT: true; the input reads as it did. -/
def fnExactPiecesSpec : ChangeSpec := { name := "fnExactPieces", fn := fun _ => fun
  | [d1, d2] => { results := [.lit (.bool true)], args := [d1, d2] }
  | _ => none }
def fnExactPiecesRow : OpenClaim := { program := "ytnndkdonbjeejaa", sum := "1a32e0995662fe0fc32ccc17d310d334be3166c0d60db82ea5962f973d1218dd", func := "loop.example/g00255/laws.FnExactPieces", spec := "fnExactPieces", unfollowed := true, recurses := true, apart := false }
def FnExactPiecesSaid : Prop := fnExactPiecesRow.holds Try.pinned (OpenSpec.ofChange fnExactPiecesSpec)

/-- ITS FALSE NEIGHBOUR: 'it returns false'. Refute it at one input. -/
def fnExactPiecesWrong : ChangeSpec := { name := "fnExactPieces", fn := fun _ => fun
  | [d1, d2] => { results := [.lit (.bool false)], args := [d1, d2] }
  | _ => none }
def FnExactPiecesWrongFalsely : Prop := fnExactPiecesRow.holds Try.pinned (OpenSpec.ofChange fnExactPiecesWrong)

/-- 'laws.FnExactPiecesOk': WHATEVER THE INPUT: true; the input reads as it did. -/
def fnExactPiecesOkSpec : ChangeSpec := { name := "fnExactPiecesOk", fn := fun _ => fun
  | [d1, d2, d3] => { results := [.lit (.bool true)], args := [d1, d2, d3] }
  | _ => none }
def fnExactPiecesOkRow : OpenClaim := { program := "ytnndkdonbjeejaa", sum := "1a32e0995662fe0fc32ccc17d310d334be3166c0d60db82ea5962f973d1218dd", func := "loop.example/g00255/laws.FnExactPiecesOk", spec := "fnExactPiecesOk", unfollowed := true, recurses := true, apart := false }
def FnExactPiecesOkSaid : Prop := fnExactPiecesOkRow.holds Try.pinned (OpenSpec.ofChange fnExactPiecesOkSpec)

/-- ITS FALSE NEIGHBOUR: 'it returns false'. Refute it at one input. -/
def fnExactPiecesOkWrong : ChangeSpec := { name := "fnExactPiecesOk", fn := fun _ => fun
  | [d1, d2, d3] => { results := [.lit (.bool false)], args := [d1, d2, d3] }
  | _ => none }
def FnExactPiecesOkWrongFalsely : Prop := fnExactPiecesOkRow.holds Try.pinned (OpenSpec.ofChange fnExactPiecesOkWrong)

/-- 'laws.FnExactParts': WHATEVER THE INPUT: true; the input reads as it did. -/
def fnExactPartsSpec : ChangeSpec := { name := "fnExactParts", fn := fun _ => fun
  | [d1, d2] => { results := [.lit (.bool true)], args := [d1, d2] }
  | _ => none }
def fnExactPartsRow : OpenClaim := { program := "ytnndkdonbjeejaa", sum := "1a32e0995662fe0fc32ccc17d310d334be3166c0d60db82ea5962f973d1218dd", func := "loop.example/g00255/laws.FnExactParts", spec := "fnExactParts", apart := false }
def FnExactPartsSaid : Prop := fnExactPartsRow.holds Try.pinned (OpenSpec.ofChange fnExactPartsSpec)

/-- ITS FALSE NEIGHBOUR: 'it returns false'. Refute it at one input. -/
def fnExactPartsWrong : ChangeSpec := { name := "fnExactParts", fn := fun _ => fun
  | [d1, d2] => { results := [.lit (.bool false)], args := [d1, d2] }
  | _ => none }
def FnExactPartsWrongFalsely : Prop := fnExactPartsRow.holds Try.pinned (OpenSpec.ofChange fnExactPartsWrong)

/- THE SECOND FORM. 'bulk': how many values and letters a reading holds, each counted each time it is reached (what is shared counts as often as it is met; a slice's spare places count too). A statement '..UptoSaid' is the law's where the arguments, and the package variables that the reading takes, are together of bulk at most 1048576: NARROWER than '..Said'. Prove '..Said' where nothing that the law and all that it calls make is longer than what came in: it says more and counts as full. Else prove '..UptoSaid'. A law counts once. -/
mutual
def uptoBulk {H : Type} : DataW H → Nat
  | .lit (.string bytes) => bytes.length + 1
  | .lit _ => 1
  | .nil => 1
  | .ptr d => uptoBulk d + 1
  | .slice elems spare => uptoBulkAll elems + uptoBulkAll spare + 1
  | .agg parts => uptoBulkAll parts + 1
  | .iface _ d => uptoBulk d + 1
  | .map entries => uptoBulkEntries entries + 1
  | .held _ => 1
def uptoBulkAll {H : Type} : List (DataW H) → Nat
  | [] => 0
  | d :: r => uptoBulk d + uptoBulkAll r
def uptoBulkEntries {H : Type} : List (Lit × DataW H) → Nat
  | [] => 0
  | x :: r => uptoBulkEntry x + uptoBulkEntries r
def uptoBulkEntry {H : Type} : Lit × DataW H → Nat
  | (.string bytes, d) => bytes.length + uptoBulk d + 1
  | (_, d) => uptoBulk d + 1
 end
def uptoSmall : (H : Type) → List (DataW H) → Bool := fun _ ds => decide (uptoBulkAll ds ≤ 1048576)
def OpenSpec.upto (s : _root_.Go.ChangeSpec) : _root_.Go.OpenSpec := { _root_.Go.OpenSpec.ofChange s with cond := some uptoSmall }

/-- 'laws.FnMcNaughton', WHERE WHAT IT READS IS OF BULK AT MOST 1048576: true; the input reads as it did. -/
def fnMcNaughtonUptoRow : OpenClaim := { program := "ytnndkdonbjeejaa", sum := "1a32e0995662fe0fc32ccc17d310d334be3166c0d60db82ea5962f973d1218dd", func := "loop.example/g00255/laws.FnMcNaughton", spec := "fnMcNaughton", unfollowed := true, recurses := true, apart := false, narrowed := true }
def FnMcNaughtonUptoSaid : Prop := fnMcNaughtonUptoRow.holds Try.pinned (OpenSpec.upto fnMcNaughtonSpec)

/-- 'laws.FnExactPieces', WHERE WHAT IT READS IS OF BULK AT MOST 1048576: true; the input reads as it did. -/
def fnExactPiecesUptoRow : OpenClaim := { program := "ytnndkdonbjeejaa", sum := "1a32e0995662fe0fc32ccc17d310d334be3166c0d60db82ea5962f973d1218dd", func := "loop.example/g00255/laws.FnExactPieces", spec := "fnExactPieces", unfollowed := true, recurses := true, apart := false, narrowed := true }
def FnExactPiecesUptoSaid : Prop := fnExactPiecesUptoRow.holds Try.pinned (OpenSpec.upto fnExactPiecesSpec)

/-- 'laws.FnExactPiecesOk', WHERE WHAT IT READS IS OF BULK AT MOST 1048576: true; the input reads as it did. -/
def fnExactPiecesOkUptoRow : OpenClaim := { program := "ytnndkdonbjeejaa", sum := "1a32e0995662fe0fc32ccc17d310d334be3166c0d60db82ea5962f973d1218dd", func := "loop.example/g00255/laws.FnExactPiecesOk", spec := "fnExactPiecesOk", unfollowed := true, recurses := true, apart := false, narrowed := true }
def FnExactPiecesOkUptoSaid : Prop := fnExactPiecesOkUptoRow.holds Try.pinned (OpenSpec.upto fnExactPiecesOkSpec)

/-- 'laws.FnExactParts', WHERE WHAT IT READS IS OF BULK AT MOST 1048576: true; the input reads as it did. -/
def fnExactPartsUptoRow : OpenClaim := { program := "ytnndkdonbjeejaa", sum := "1a32e0995662fe0fc32ccc17d310d334be3166c0d60db82ea5962f973d1218dd", func := "loop.example/g00255/laws.FnExactParts", spec := "fnExactParts", apart := false, narrowed := true }
def FnExactPartsUptoSaid : Prop := fnExactPartsUptoRow.holds Try.pinned (OpenSpec.upto fnExactPartsSpec)

end Rows
end Go.Proofs.Ytnndkdonbjeejaa
