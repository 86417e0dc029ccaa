/-
  No cell of these rows narrows 'for every input' (looked for: loops, veiled, ifaces, maps, wideKeys, modest, calm, conditions, laid).
  DERIVED. THE GIVEN ROWS OF THIS SEAT. 5 by the template 'for every input the law returns true; each argument reads behind the call as it read before'; 0 by the template 'total and deterministic' (their statements: YtbkjcngehhdchaaTotals.lean).
  GIVEN WITH THE SEED: the statements are not yours to turn. If you find one false, say at which input.
  Laid BY PROGRAM, IN A SANDBOX (cutbox-rows.mjs): the forced cells as the released guide's own fill.sh prints them over the translation f772ecdf65162c13… (all of the seat's roots in one cut). By AI agents, Wed Nov 11 2026. No macro, syntax, notation, axiom, sorry.
-/
import Derived.Test.YtbkjcngehhdchaaChecked
import GoSem.Claim
import GoSem.ClaimJoined
import GoSem.ClaimMapViews
import Derived.JoinedTies
import Derived.KernelRfl
namespace Go.Proofs.Ytbkjcngehhdchaa
/- THE CELL 'sum', in the pinned program and in every row, IS THE sha256 OF THE DUMP (.gsa) THAT YtbkjcngehhdchaaProg.lean LOADS. Nothing in Lean hashes anything: it is a label: what it is worth is what the hold of that sum in a sandbox is worth. -/
noncomputable def Try.pinned : Pinned := { name := "ytbkjcngehhdchaa", sum := "f772ecdf65162c134928a0676b4b4c57db3ef5797c749613950575c1b5c0cec0", checked := Try.checked }
namespace Rows
def none {H : Type} : Left H := { results := [], args := [] }

/-- 'laws.FnExactSolidOf': WHATEVER THE INPUT: true; the input reads as it did. -/
def fnExactSolidOfSpec : ChangeSpec := { name := "fnExactSolidOf", fn := fun _ => fun
  | [d] => { results := [.lit (.bool true)], args := [d] }
  | _ => none }
def fnExactSolidOfRow : OpenClaim := { program := "ytbkjcngehhdchaa", sum := "f772ecdf65162c134928a0676b4b4c57db3ef5797c749613950575c1b5c0cec0", func := "loop.example/g00228/laws.FnExactSolidOf", spec := "fnExactSolidOf", inPlace := ["internal/abi.NoEscape"], unfollowed := true, recurses := true, plainKeys := false, apart := false }
def FnExactSolidOfSaid : Prop := fnExactSolidOfRow.holds Try.pinned (OpenSpec.ofChange fnExactSolidOfSpec)

/-- ITS FALSE NEIGHBOUR: 'it returns false'. Refute it at one input. -/
def fnExactSolidOfWrong : ChangeSpec := { name := "fnExactSolidOf", fn := fun _ => fun
  | [d] => { results := [.lit (.bool false)], args := [d] }
  | _ => none }
def FnExactSolidOfWrongFalsely : Prop := fnExactSolidOfRow.holds Try.pinned (OpenSpec.ofChange fnExactSolidOfWrong)

/-- 'laws.FnExactReadSolid': WHATEVER THE INPUT: true; the input reads as it did. -/
def fnExactReadSolidSpec : ChangeSpec := { name := "fnExactReadSolid", fn := fun _ => fun
  | [d] => { results := [.lit (.bool true)], args := [d] }
  | _ => none }
def fnExactReadSolidRow : OpenClaim := { program := "ytbkjcngehhdchaa", sum := "f772ecdf65162c134928a0676b4b4c57db3ef5797c749613950575c1b5c0cec0", func := "loop.example/g00228/laws.FnExactReadSolid", spec := "fnExactReadSolid", unfollowed := true, recurses := true, plainKeys := false, apart := false }
def FnExactReadSolidSaid : Prop := fnExactReadSolidRow.holds Try.pinned (OpenSpec.ofChange fnExactReadSolidSpec)

/-- ITS FALSE NEIGHBOUR: 'it returns false'. Refute it at one input. -/
def fnExactReadSolidWrong : ChangeSpec := { name := "fnExactReadSolid", fn := fun _ => fun
  | [d] => { results := [.lit (.bool false)], args := [d] }
  | _ => none }
def FnExactReadSolidWrongFalsely : Prop := fnExactReadSolidRow.holds Try.pinned (OpenSpec.ofChange fnExactReadSolidWrong)

/-- 'laws.FnExactExtract': WHATEVER THE INPUT: true; the input reads as it did. -/
def fnExactExtractSpec : ChangeSpec := { name := "fnExactExtract", fn := fun _ => fun
  | [d1, d2] => { results := [.lit (.bool true)], args := [d1, d2] }
  | _ => none }
def fnExactExtractRow : OpenClaim := { program := "ytbkjcngehhdchaa", sum := "f772ecdf65162c134928a0676b4b4c57db3ef5797c749613950575c1b5c0cec0", func := "loop.example/g00228/laws.FnExactExtract", spec := "fnExactExtract", unfollowed := true, recurses := true, plainKeys := false, apart := false }
def FnExactExtractSaid : Prop := fnExactExtractRow.holds Try.pinned (OpenSpec.ofChange fnExactExtractSpec)

/-- ITS FALSE NEIGHBOUR: 'it returns false'. Refute it at one input. -/
def fnExactExtractWrong : ChangeSpec := { name := "fnExactExtract", fn := fun _ => fun
  | [d1, d2] => { results := [.lit (.bool false)], args := [d1, d2] }
  | _ => none }
def FnExactExtractWrongFalsely : Prop := fnExactExtractRow.holds Try.pinned (OpenSpec.ofChange fnExactExtractWrong)

/-- 'laws.FnSolid': WHATEVER THE INPUT: true; the input reads as it did. -/
def fnSolidSpec : ChangeSpec := { name := "fnSolid", fn := fun _ => fun
  | [d] => { results := [.lit (.bool true)], args := [d] }
  | _ => none }
def fnSolidRow : OpenClaim := { program := "ytbkjcngehhdchaa", sum := "f772ecdf65162c134928a0676b4b4c57db3ef5797c749613950575c1b5c0cec0", func := "loop.example/g00228/laws.FnSolid", spec := "fnSolid", inPlace := ["internal/abi.NoEscape"], unfollowed := true, recurses := true, plainKeys := false, apart := false }
def FnSolidSaid : Prop := fnSolidRow.holds Try.pinned (OpenSpec.ofChange fnSolidSpec)

/-- ITS FALSE NEIGHBOUR: 'it returns false'. Refute it at one input. -/
def fnSolidWrong : ChangeSpec := { name := "fnSolid", fn := fun _ => fun
  | [d] => { results := [.lit (.bool false)], args := [d] }
  | _ => none }
def FnSolidWrongFalsely : Prop := fnSolidRow.holds Try.pinned (OpenSpec.ofChange fnSolidWrong)

/-- 'laws.FnSolidTexts': WHATEVER THE INPUT: true; the input reads as it did. -/
def fnSolidTextsSpec : ChangeSpec := { name := "fnSolidTexts", fn := fun _ => fun
  | [d] => { results := [.lit (.bool true)], args := [d] }
  | _ => none }
def fnSolidTextsRow : OpenClaim := { program := "ytbkjcngehhdchaa", sum := "f772ecdf65162c134928a0676b4b4c57db3ef5797c749613950575c1b5c0cec0", func := "loop.example/g00228/laws.FnSolidTexts", spec := "fnSolidTexts", inPlace := ["internal/abi.NoEscape"], unfollowed := true, recurses := true, plainKeys := false, apart := false }
def FnSolidTextsSaid : Prop := fnSolidTextsRow.holds Try.pinned (OpenSpec.ofChange fnSolidTextsSpec)

/-- ITS FALSE NEIGHBOUR: 'it returns false'. Refute it at one input. -/
def fnSolidTextsWrong : ChangeSpec := { name := "fnSolidTexts", fn := fun _ => fun
  | [d] => { results := [.lit (.bool false)], args := [d] }
  | _ => none }
def FnSolidTextsWrongFalsely : Prop := fnSolidTextsRow.holds Try.pinned (OpenSpec.ofChange fnSolidTextsWrong)

/- THE SECOND FORM. 'bulk': how many values and letters a reading holds, each counted each time it is reached (what is shared counts as often as it is met; a slice's spare places count too). A statement '..UptoSaid' is the law's where the arguments, and the package variables that the reading takes, are together of bulk at most 1048576: NARROWER than '..Said'. Prove '..Said' where nothing that the law and all that it calls make is longer than what came in: it says more and counts as full. Else prove '..UptoSaid'. A law counts once. -/
mutual
def uptoBulk {H : Type} : DataW H → Nat
  | .lit (.string bytes) => bytes.length + 1
  | .lit _ => 1
  | .nil => 1
  | .ptr d => uptoBulk d + 1
  | .slice elems spare => uptoBulkAll elems + uptoBulkAll spare + 1
  | .agg parts => uptoBulkAll parts + 1
  | .iface _ d => uptoBulk d + 1
  | .map entries => uptoBulkEntries entries + 1
  | .held _ => 1
def uptoBulkAll {H : Type} : List (DataW H) → Nat
  | [] => 0
  | d :: r => uptoBulk d + uptoBulkAll r
def uptoBulkEntries {H : Type} : List (Lit × DataW H) → Nat
  | [] => 0
  | x :: r => uptoBulkEntry x + uptoBulkEntries r
def uptoBulkEntry {H : Type} : Lit × DataW H → Nat
  | (.string bytes, d) => bytes.length + uptoBulk d + 1
  | (_, d) => uptoBulk d + 1
 end
def uptoSmall : (H : Type) → List (DataW H) → Bool := fun _ ds => decide (uptoBulkAll ds ≤ 1048576)
def OpenSpec.upto (s : _root_.Go.ChangeSpec) : _root_.Go.OpenSpec := { _root_.Go.OpenSpec.ofChange s with cond := some uptoSmall }

/-- 'laws.FnExactSolidOf', WHERE WHAT IT READS IS OF BULK AT MOST 1048576: true; the input reads as it did. -/
def fnExactSolidOfUptoRow : OpenClaim := { program := "ytbkjcngehhdchaa", sum := "f772ecdf65162c134928a0676b4b4c57db3ef5797c749613950575c1b5c0cec0", func := "loop.example/g00228/laws.FnExactSolidOf", spec := "fnExactSolidOf", inPlace := ["internal/abi.NoEscape"], unfollowed := true, recurses := true, plainKeys := false, apart := false, narrowed := true }
def FnExactSolidOfUptoSaid : Prop := fnExactSolidOfUptoRow.holds Try.pinned (OpenSpec.upto fnExactSolidOfSpec)

/-- 'laws.FnExactReadSolid', WHERE WHAT IT READS IS OF BULK AT MOST 1048576: true; the input reads as it did. -/
def fnExactReadSolidUptoRow : OpenClaim := { program := "ytbkjcngehhdchaa", sum := "f772ecdf65162c134928a0676b4b4c57db3ef5797c749613950575c1b5c0cec0", func := "loop.example/g00228/laws.FnExactReadSolid", spec := "fnExactReadSolid", unfollowed := true, recurses := true, plainKeys := false, apart := false, narrowed := true }
def FnExactReadSolidUptoSaid : Prop := fnExactReadSolidUptoRow.holds Try.pinned (OpenSpec.upto fnExactReadSolidSpec)

/-- 'laws.FnExactExtract', WHERE WHAT IT READS IS OF BULK AT MOST 1048576: true; the input reads as it did. -/
def fnExactExtractUptoRow : OpenClaim := { program := "ytbkjcngehhdchaa", sum := "f772ecdf65162c134928a0676b4b4c57db3ef5797c749613950575c1b5c0cec0", func := "loop.example/g00228/laws.FnExactExtract", spec := "fnExactExtract", unfollowed := true, recurses := true, plainKeys := false, apart := false, narrowed := true }
def FnExactExtractUptoSaid : Prop := fnExactExtractUptoRow.holds Try.pinned (OpenSpec.upto fnExactExtractSpec)

/-- 'laws.FnSolid', WHERE WHAT IT READS IS OF BULK AT MOST 1048576: true; the input reads as it did. -/
def fnSolidUptoRow : OpenClaim := { program := "ytbkjcngehhdchaa", sum := "f772ecdf65162c134928a0676b4b4c57db3ef5797c749613950575c1b5c0cec0", func := "loop.example/g00228/laws.FnSolid", spec := "fnSolid", inPlace := ["internal/abi.NoEscape"], unfollowed := true, recurses := true, plainKeys := false, apart := false, narrowed := true }
def FnSolidUptoSaid : Prop := fnSolidUptoRow.holds Try.pinned (OpenSpec.upto fnSolidSpec)

/-- 'laws.FnSolidTexts', WHERE WHAT IT READS IS OF BULK AT MOST 1048576: true; the input reads as it did. -/
def fnSolidTextsUptoRow : OpenClaim := { program := "ytbkjcngehhdchaa", sum := "f772ecdf65162c134928a0676b4b4c57db3ef5797c749613950575c1b5c0cec0", func := "loop.example/g00228/laws.FnSolidTexts", spec := "fnSolidTexts", inPlace := ["internal/abi.NoEscape"], unfollowed := true, recurses := true, plainKeys := false, apart := false, narrowed := true }
def FnSolidTextsUptoSaid : Prop := fnSolidTextsUptoRow.holds Try.pinned (OpenSpec.upto fnSolidTextsSpec)

end Rows
end Go.Proofs.Ytbkjcngehhdchaa
