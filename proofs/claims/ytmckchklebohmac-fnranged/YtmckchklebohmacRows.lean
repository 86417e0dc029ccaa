/-
  No cell of these rows narrows 'for every input' (looked for: loops, veiled, ifaces, maps, wideKeys, modest, calm, conditions, laid).
  DERIVED. THE GIVEN ROWS OF THIS SEAT. 5 by the template 'for every input the law returns true; each argument reads behind the call as it read before'; 0 by the template 'total and deterministic' (their statements: YtmckchklebohmacTotals.lean).
  GIVEN WITH THE SEED: the statements are not yours to turn. If you find one false, say at which input.
  Laid BY PROGRAM, IN A SANDBOX (cutbox-rows.mjs): the forced cells as the released guide's own fill.sh prints them over the translation 0ea115c6d83d5033… (all of the seat's roots in one cut). By AI agents, Wed Nov 11 2026. No macro, syntax, notation, axiom, sorry.
-/
import Derived.Test.YtmckchklebohmacChecked
import GoSem.Claim
import GoSem.ClaimJoined
import GoSem.ClaimMapViews
import Derived.JoinedTies
import Derived.KernelRfl
namespace Go.Proofs.Ytmckchklebohmac
/- THE CELL 'sum', in the pinned program and in every row, IS THE sha256 OF THE DUMP (.gsa) THAT YtmckchklebohmacProg.lean LOADS. Nothing in Lean hashes anything: it is a label: what it is worth is what the hold of that sum in a sandbox is worth. -/
noncomputable def Try.pinned : Pinned := { name := "ytmckchklebohmac", sum := "0ea115c6d83d5033acaf33ff28224ee203514e8ff0e4668de9a3c3862a3bbd2d", checked := Try.checked }
namespace Rows
def none {H : Type} : Left H := { results := [], args := [] }

/-- 'laws.FnRanged': WHATEVER THE INPUT: true; the input reads as it did. -/
def fnRangedSpec : ChangeSpec := { name := "fnRanged", fn := fun _ => fun
  | [d] => { results := [.lit (.bool true)], args := [d] }
  | _ => none }
def fnRangedRow : OpenClaim := { program := "ytmckchklebohmac", sum := "0ea115c6d83d5033acaf33ff28224ee203514e8ff0e4668de9a3c3862a3bbd2d", func := "loop.example/g00228/laws.FnRanged", spec := "fnRanged", plainKeys := false, apart := false }
def FnRangedSaid : Prop := fnRangedRow.holds Try.pinned (OpenSpec.ofChange fnRangedSpec)

/-- ITS FALSE NEIGHBOUR: 'it returns false'. Refute it at one input. -/
def fnRangedWrong : ChangeSpec := { name := "fnRanged", fn := fun _ => fun
  | [d] => { results := [.lit (.bool false)], args := [d] }
  | _ => none }
def FnRangedWrongFalsely : Prop := fnRangedRow.holds Try.pinned (OpenSpec.ofChange fnRangedWrong)

/-- 'laws.FnMoves': WHATEVER THE INPUT: true; the input reads as it did. -/
def fnMovesSpec : ChangeSpec := { name := "fnMoves", fn := fun _ => fun
  | [d] => { results := [.lit (.bool true)], args := [d] }
  | _ => none }
def fnMovesRow : OpenClaim := { program := "ytmckchklebohmac", sum := "0ea115c6d83d5033acaf33ff28224ee203514e8ff0e4668de9a3c3862a3bbd2d", func := "loop.example/g00228/laws.FnMoves", spec := "fnMoves", plainKeys := false, apart := false }
def FnMovesSaid : Prop := fnMovesRow.holds Try.pinned (OpenSpec.ofChange fnMovesSpec)

/-- ITS FALSE NEIGHBOUR: 'it returns false'. Refute it at one input. -/
def fnMovesWrong : ChangeSpec := { name := "fnMoves", fn := fun _ => fun
  | [d] => { results := [.lit (.bool false)], args := [d] }
  | _ => none }
def FnMovesWrongFalsely : Prop := fnMovesRow.holds Try.pinned (OpenSpec.ofChange fnMovesWrong)

/-- 'laws.FnTokened': WHATEVER THE INPUT: true; the input reads as it did. -/
def fnTokenedSpec : ChangeSpec := { name := "fnTokened", fn := fun _ => fun
  | [d] => { results := [.lit (.bool true)], args := [d] }
  | _ => none }
def fnTokenedRow : OpenClaim := { program := "ytmckchklebohmac", sum := "0ea115c6d83d5033acaf33ff28224ee203514e8ff0e4668de9a3c3862a3bbd2d", func := "loop.example/g00228/laws.FnTokened", spec := "fnTokened", plainKeys := false, apart := false }
def FnTokenedSaid : Prop := fnTokenedRow.holds Try.pinned (OpenSpec.ofChange fnTokenedSpec)

/-- ITS FALSE NEIGHBOUR: 'it returns false'. Refute it at one input. -/
def fnTokenedWrong : ChangeSpec := { name := "fnTokened", fn := fun _ => fun
  | [d] => { results := [.lit (.bool false)], args := [d] }
  | _ => none }
def FnTokenedWrongFalsely : Prop := fnTokenedRow.holds Try.pinned (OpenSpec.ofChange fnTokenedWrong)

/-- 'laws.FnLongest': WHATEVER THE INPUT: true; the input reads as it did. -/
def fnLongestSpec : ChangeSpec := { name := "fnLongest", fn := fun _ => fun
  | [d] => { results := [.lit (.bool true)], args := [d] }
  | _ => none }
def fnLongestRow : OpenClaim := { program := "ytmckchklebohmac", sum := "0ea115c6d83d5033acaf33ff28224ee203514e8ff0e4668de9a3c3862a3bbd2d", func := "loop.example/g00228/laws.FnLongest", spec := "fnLongest", plainKeys := false, apart := false }
def FnLongestSaid : Prop := fnLongestRow.holds Try.pinned (OpenSpec.ofChange fnLongestSpec)

/-- ITS FALSE NEIGHBOUR: 'it returns false'. Refute it at one input. -/
def fnLongestWrong : ChangeSpec := { name := "fnLongest", fn := fun _ => fun
  | [d] => { results := [.lit (.bool false)], args := [d] }
  | _ => none }
def FnLongestWrongFalsely : Prop := fnLongestRow.holds Try.pinned (OpenSpec.ofChange fnLongestWrong)

/-- 'laws.FnUntokened': WHATEVER THE INPUT: true; the input reads as it did. -/
def fnUntokenedSpec : ChangeSpec := { name := "fnUntokened", fn := fun _ => fun
  | [d] => { results := [.lit (.bool true)], args := [d] }
  | _ => none }
def fnUntokenedRow : OpenClaim := { program := "ytmckchklebohmac", sum := "0ea115c6d83d5033acaf33ff28224ee203514e8ff0e4668de9a3c3862a3bbd2d", func := "loop.example/g00228/laws.FnUntokened", spec := "fnUntokened", plainKeys := false, apart := false }
def FnUntokenedSaid : Prop := fnUntokenedRow.holds Try.pinned (OpenSpec.ofChange fnUntokenedSpec)

/-- ITS FALSE NEIGHBOUR: 'it returns false'. Refute it at one input. -/
def fnUntokenedWrong : ChangeSpec := { name := "fnUntokened", fn := fun _ => fun
  | [d] => { results := [.lit (.bool false)], args := [d] }
  | _ => none }
def FnUntokenedWrongFalsely : Prop := fnUntokenedRow.holds Try.pinned (OpenSpec.ofChange fnUntokenedWrong)

/- THE SECOND FORM. 'bulk': how many values and letters a reading holds, each counted each time it is reached (what is shared counts as often as it is met; a slice's spare places count too). A statement '..UptoSaid' is the law's where the arguments, and the package variables that the reading takes, are together of bulk at most 1048576: NARROWER than '..Said'. Prove '..Said' where nothing that the law and all that it calls make is longer than what came in: it says more and counts as full. Else prove '..UptoSaid'. A law counts once. -/
mutual
def uptoBulk {H : Type} : DataW H → Nat
  | .lit (.string bytes) => bytes.length + 1
  | .lit _ => 1
  | .nil => 1
  | .ptr d => uptoBulk d + 1
  | .slice elems spare => uptoBulkAll elems + uptoBulkAll spare + 1
  | .agg parts => uptoBulkAll parts + 1
  | .iface _ d => uptoBulk d + 1
  | .map entries => uptoBulkEntries entries + 1
  | .held _ => 1
def uptoBulkAll {H : Type} : List (DataW H) → Nat
  | [] => 0
  | d :: r => uptoBulk d + uptoBulkAll r
def uptoBulkEntries {H : Type} : List (Lit × DataW H) → Nat
  | [] => 0
  | x :: r => uptoBulkEntry x + uptoBulkEntries r
def uptoBulkEntry {H : Type} : Lit × DataW H → Nat
  | (.string bytes, d) => bytes.length + uptoBulk d + 1
  | (_, d) => uptoBulk d + 1
 end
def uptoSmall : (H : Type) → List (DataW H) → Bool := fun _ ds => decide (uptoBulkAll ds ≤ 1048576)
def OpenSpec.upto (s : _root_.Go.ChangeSpec) : _root_.Go.OpenSpec := { _root_.Go.OpenSpec.ofChange s with cond := some uptoSmall }

/-- 'laws.FnRanged', WHERE WHAT IT READS IS OF BULK AT MOST 1048576: true; the input reads as it did. -/
def fnRangedUptoRow : OpenClaim := { program := "ytmckchklebohmac", sum := "0ea115c6d83d5033acaf33ff28224ee203514e8ff0e4668de9a3c3862a3bbd2d", func := "loop.example/g00228/laws.FnRanged", spec := "fnRanged", plainKeys := false, apart := false, narrowed := true }
def FnRangedUptoSaid : Prop := fnRangedUptoRow.holds Try.pinned (OpenSpec.upto fnRangedSpec)

/-- 'laws.FnMoves', WHERE WHAT IT READS IS OF BULK AT MOST 1048576: true; the input reads as it did. -/
def fnMovesUptoRow : OpenClaim := { program := "ytmckchklebohmac", sum := "0ea115c6d83d5033acaf33ff28224ee203514e8ff0e4668de9a3c3862a3bbd2d", func := "loop.example/g00228/laws.FnMoves", spec := "fnMoves", plainKeys := false, apart := false, narrowed := true }
def FnMovesUptoSaid : Prop := fnMovesUptoRow.holds Try.pinned (OpenSpec.upto fnMovesSpec)

/-- 'laws.FnTokened', WHERE WHAT IT READS IS OF BULK AT MOST 1048576: true; the input reads as it did. -/
def fnTokenedUptoRow : OpenClaim := { program := "ytmckchklebohmac", sum := "0ea115c6d83d5033acaf33ff28224ee203514e8ff0e4668de9a3c3862a3bbd2d", func := "loop.example/g00228/laws.FnTokened", spec := "fnTokened", plainKeys := false, apart := false, narrowed := true }
def FnTokenedUptoSaid : Prop := fnTokenedUptoRow.holds Try.pinned (OpenSpec.upto fnTokenedSpec)

/-- 'laws.FnLongest', WHERE WHAT IT READS IS OF BULK AT MOST 1048576: true; the input reads as it did. -/
def fnLongestUptoRow : OpenClaim := { program := "ytmckchklebohmac", sum := "0ea115c6d83d5033acaf33ff28224ee203514e8ff0e4668de9a3c3862a3bbd2d", func := "loop.example/g00228/laws.FnLongest", spec := "fnLongest", plainKeys := false, apart := false, narrowed := true }
def FnLongestUptoSaid : Prop := fnLongestUptoRow.holds Try.pinned (OpenSpec.upto fnLongestSpec)

/-- 'laws.FnUntokened', WHERE WHAT IT READS IS OF BULK AT MOST 1048576: true; the input reads as it did. -/
def fnUntokenedUptoRow : OpenClaim := { program := "ytmckchklebohmac", sum := "0ea115c6d83d5033acaf33ff28224ee203514e8ff0e4668de9a3c3862a3bbd2d", func := "loop.example/g00228/laws.FnUntokened", spec := "fnUntokened", plainKeys := false, apart := false, narrowed := true }
def FnUntokenedUptoSaid : Prop := fnUntokenedUptoRow.holds Try.pinned (OpenSpec.upto fnUntokenedSpec)

end Rows
end Go.Proofs.Ytmckchklebohmac
