/-
  No cell of these rows narrows 'for every input' (looked for: loops, veiled, ifaces, maps, wideKeys, modest, calm, conditions, laid).
  DERIVED. THE GIVEN ROWS OF THIS SEAT. 5 by the template 'for every input the law returns true; each argument reads behind the call as it read before'; 0 by the template 'total and deterministic' (their statements: YtckpnggjboafpamTotals.lean).
  GIVEN WITH THE SEED: the statements are not yours to turn. If you find one false, say at which input.
  Laid BY PROGRAM, IN A SANDBOX (cutbox-rows.mjs): the forced cells as the released guide's own fill.sh prints them over the translation abaace3149a6889b… (all of the seat's roots in one cut). By AI agents, Wed Nov 11 2026. No macro, syntax, notation, axiom, sorry.
-/
import Derived.Test.YtckpnggjboafpamChecked
import GoSem.Claim
import GoSem.ClaimJoined
import GoSem.ClaimMapViews
import Derived.JoinedTies
import Derived.KernelRfl
namespace Go.Proofs.Ytckpnggjboafpam
/- THE CELL 'sum', in the pinned program and in every row, IS THE sha256 OF THE DUMP (.gsa) THAT YtckpnggjboafpamProg.lean LOADS. Nothing in Lean hashes anything: it is a label: what it is worth is what the hold of that sum in a sandbox is worth. -/
noncomputable def Try.pinned : Pinned := { name := "ytckpnggjboafpam", sum := "abaace3149a6889bc2d103ce6027f34c7ccc2e3d52a847569209e7b3c4f747b6", checked := Try.checked }
namespace Rows
def none {H : Type} : Left H := { results := [], args := [] }

/-- 'laws.FnExactRangeEncode': WHATEVER THE INPUT: true; the input reads as it did. -/
def fnExactRangeEncodeSpec : ChangeSpec := { name := "fnExactRangeEncode", fn := fun _ => fun
  | [d] => { results := [.lit (.bool true)], args := [d] }
  | _ => none }
def fnExactRangeEncodeRow : OpenClaim := { program := "ytckpnggjboafpam", sum := "abaace3149a6889bc2d103ce6027f34c7ccc2e3d52a847569209e7b3c4f747b6", func := "loop.example/g00228/laws.FnExactRangeEncode", spec := "fnExactRangeEncode", plainKeys := false, apart := false }
def FnExactRangeEncodeSaid : Prop := fnExactRangeEncodeRow.holds Try.pinned (OpenSpec.ofChange fnExactRangeEncodeSpec)

/-- ITS FALSE NEIGHBOUR: 'it returns false'. Refute it at one input. -/
def fnExactRangeEncodeWrong : ChangeSpec := { name := "fnExactRangeEncode", fn := fun _ => fun
  | [d] => { results := [.lit (.bool false)], args := [d] }
  | _ => none }
def FnExactRangeEncodeWrongFalsely : Prop := fnExactRangeEncodeRow.holds Try.pinned (OpenSpec.ofChange fnExactRangeEncodeWrong)

/-- 'laws.FnExactRangeDecode': WHATEVER THE INPUT: true; the input reads as it did. -/
def fnExactRangeDecodeSpec : ChangeSpec := { name := "fnExactRangeDecode", fn := fun _ => fun
  | [d1, d2] => { results := [.lit (.bool true)], args := [d1, d2] }
  | _ => none }
def fnExactRangeDecodeRow : OpenClaim := { program := "ytckpnggjboafpam", sum := "abaace3149a6889bc2d103ce6027f34c7ccc2e3d52a847569209e7b3c4f747b6", func := "loop.example/g00228/laws.FnExactRangeDecode", spec := "fnExactRangeDecode", plainKeys := false, apart := false }
def FnExactRangeDecodeSaid : Prop := fnExactRangeDecodeRow.holds Try.pinned (OpenSpec.ofChange fnExactRangeDecodeSpec)

/-- ITS FALSE NEIGHBOUR: 'it returns false'. Refute it at one input. -/
def fnExactRangeDecodeWrong : ChangeSpec := { name := "fnExactRangeDecode", fn := fun _ => fun
  | [d1, d2] => { results := [.lit (.bool false)], args := [d1, d2] }
  | _ => none }
def FnExactRangeDecodeWrongFalsely : Prop := fnExactRangeDecodeRow.holds Try.pinned (OpenSpec.ofChange fnExactRangeDecodeWrong)

/-- 'laws.FnExactMoved': WHATEVER THE INPUT: true; the input reads as it did. -/
def fnExactMovedSpec : ChangeSpec := { name := "fnExactMoved", fn := fun _ => fun
  | [d1, d2] => { results := [.lit (.bool true)], args := [d1, d2] }
  | _ => none }
def fnExactMovedRow : OpenClaim := { program := "ytckpnggjboafpam", sum := "abaace3149a6889bc2d103ce6027f34c7ccc2e3d52a847569209e7b3c4f747b6", func := "loop.example/g00228/laws.FnExactMoved", spec := "fnExactMoved", plainKeys := false, apart := false }
def FnExactMovedSaid : Prop := fnExactMovedRow.holds Try.pinned (OpenSpec.ofChange fnExactMovedSpec)

/-- ITS FALSE NEIGHBOUR: 'it returns false'. Refute it at one input. -/
def fnExactMovedWrong : ChangeSpec := { name := "fnExactMoved", fn := fun _ => fun
  | [d1, d2] => { results := [.lit (.bool false)], args := [d1, d2] }
  | _ => none }
def FnExactMovedWrongFalsely : Prop := fnExactMovedRow.holds Try.pinned (OpenSpec.ofChange fnExactMovedWrong)

/-- 'laws.FnExactTokenOk': WHATEVER THE INPUT: true; the input reads as it did. -/
def fnExactTokenOkSpec : ChangeSpec := { name := "fnExactTokenOk", fn := fun _ => fun
  | [d1, d2] => { results := [.lit (.bool true)], args := [d1, d2] }
  | _ => none }
def fnExactTokenOkRow : OpenClaim := { program := "ytckpnggjboafpam", sum := "abaace3149a6889bc2d103ce6027f34c7ccc2e3d52a847569209e7b3c4f747b6", func := "loop.example/g00228/laws.FnExactTokenOk", spec := "fnExactTokenOk", plainKeys := false, apart := false }
def FnExactTokenOkSaid : Prop := fnExactTokenOkRow.holds Try.pinned (OpenSpec.ofChange fnExactTokenOkSpec)

/-- ITS FALSE NEIGHBOUR: 'it returns false'. Refute it at one input. -/
def fnExactTokenOkWrong : ChangeSpec := { name := "fnExactTokenOk", fn := fun _ => fun
  | [d1, d2] => { results := [.lit (.bool false)], args := [d1, d2] }
  | _ => none }
def FnExactTokenOkWrongFalsely : Prop := fnExactTokenOkRow.holds Try.pinned (OpenSpec.ofChange fnExactTokenOkWrong)

/-- 'laws.FnExactLongest': WHATEVER THE INPUT: true; the input reads as it did. -/
def fnExactLongestSpec : ChangeSpec := { name := "fnExactLongest", fn := fun _ => fun
  | [d1, d2] => { results := [.lit (.bool true)], args := [d1, d2] }
  | _ => none }
def fnExactLongestRow : OpenClaim := { program := "ytckpnggjboafpam", sum := "abaace3149a6889bc2d103ce6027f34c7ccc2e3d52a847569209e7b3c4f747b6", func := "loop.example/g00228/laws.FnExactLongest", spec := "fnExactLongest", plainKeys := false, apart := false }
def FnExactLongestSaid : Prop := fnExactLongestRow.holds Try.pinned (OpenSpec.ofChange fnExactLongestSpec)

/-- ITS FALSE NEIGHBOUR: 'it returns false'. Refute it at one input. -/
def fnExactLongestWrong : ChangeSpec := { name := "fnExactLongest", fn := fun _ => fun
  | [d1, d2] => { results := [.lit (.bool false)], args := [d1, d2] }
  | _ => none }
def FnExactLongestWrongFalsely : Prop := fnExactLongestRow.holds Try.pinned (OpenSpec.ofChange fnExactLongestWrong)

/- THE SECOND FORM. 'bulk': how many values and letters a reading holds, each counted each time it is reached (what is shared counts as often as it is met; a slice's spare places count too). A statement '..UptoSaid' is the law's where the arguments, and the package variables that the reading takes, are together of bulk at most 1048576: NARROWER than '..Said'. Prove '..Said' where nothing that the law and all that it calls make is longer than what came in: it says more and counts as full. Else prove '..UptoSaid'. A law counts once. -/
mutual
def uptoBulk {H : Type} : DataW H → Nat
  | .lit (.string bytes) => bytes.length + 1
  | .lit _ => 1
  | .nil => 1
  | .ptr d => uptoBulk d + 1
  | .slice elems spare => uptoBulkAll elems + uptoBulkAll spare + 1
  | .agg parts => uptoBulkAll parts + 1
  | .iface _ d => uptoBulk d + 1
  | .map entries => uptoBulkEntries entries + 1
  | .held _ => 1
def uptoBulkAll {H : Type} : List (DataW H) → Nat
  | [] => 0
  | d :: r => uptoBulk d + uptoBulkAll r
def uptoBulkEntries {H : Type} : List (Lit × DataW H) → Nat
  | [] => 0
  | x :: r => uptoBulkEntry x + uptoBulkEntries r
def uptoBulkEntry {H : Type} : Lit × DataW H → Nat
  | (.string bytes, d) => bytes.length + uptoBulk d + 1
  | (_, d) => uptoBulk d + 1
 end
def uptoSmall : (H : Type) → List (DataW H) → Bool := fun _ ds => decide (uptoBulkAll ds ≤ 1048576)
def OpenSpec.upto (s : _root_.Go.ChangeSpec) : _root_.Go.OpenSpec := { _root_.Go.OpenSpec.ofChange s with cond := some uptoSmall }

/-- 'laws.FnExactRangeEncode', WHERE WHAT IT READS IS OF BULK AT MOST 1048576: true; the input reads as it did. -/
def fnExactRangeEncodeUptoRow : OpenClaim := { program := "ytckpnggjboafpam", sum := "abaace3149a6889bc2d103ce6027f34c7ccc2e3d52a847569209e7b3c4f747b6", func := "loop.example/g00228/laws.FnExactRangeEncode", spec := "fnExactRangeEncode", plainKeys := false, apart := false, narrowed := true }
def FnExactRangeEncodeUptoSaid : Prop := fnExactRangeEncodeUptoRow.holds Try.pinned (OpenSpec.upto fnExactRangeEncodeSpec)

/-- 'laws.FnExactRangeDecode', WHERE WHAT IT READS IS OF BULK AT MOST 1048576: true; the input reads as it did. -/
def fnExactRangeDecodeUptoRow : OpenClaim := { program := "ytckpnggjboafpam", sum := "abaace3149a6889bc2d103ce6027f34c7ccc2e3d52a847569209e7b3c4f747b6", func := "loop.example/g00228/laws.FnExactRangeDecode", spec := "fnExactRangeDecode", plainKeys := false, apart := false, narrowed := true }
def FnExactRangeDecodeUptoSaid : Prop := fnExactRangeDecodeUptoRow.holds Try.pinned (OpenSpec.upto fnExactRangeDecodeSpec)

/-- 'laws.FnExactMoved', WHERE WHAT IT READS IS OF BULK AT MOST 1048576: true; the input reads as it did. -/
def fnExactMovedUptoRow : OpenClaim := { program := "ytckpnggjboafpam", sum := "abaace3149a6889bc2d103ce6027f34c7ccc2e3d52a847569209e7b3c4f747b6", func := "loop.example/g00228/laws.FnExactMoved", spec := "fnExactMoved", plainKeys := false, apart := false, narrowed := true }
def FnExactMovedUptoSaid : Prop := fnExactMovedUptoRow.holds Try.pinned (OpenSpec.upto fnExactMovedSpec)

/-- 'laws.FnExactTokenOk', WHERE WHAT IT READS IS OF BULK AT MOST 1048576: true; the input reads as it did. -/
def fnExactTokenOkUptoRow : OpenClaim := { program := "ytckpnggjboafpam", sum := "abaace3149a6889bc2d103ce6027f34c7ccc2e3d52a847569209e7b3c4f747b6", func := "loop.example/g00228/laws.FnExactTokenOk", spec := "fnExactTokenOk", plainKeys := false, apart := false, narrowed := true }
def FnExactTokenOkUptoSaid : Prop := fnExactTokenOkUptoRow.holds Try.pinned (OpenSpec.upto fnExactTokenOkSpec)

/-- 'laws.FnExactLongest', WHERE WHAT IT READS IS OF BULK AT MOST 1048576: true; the input reads as it did. -/
def fnExactLongestUptoRow : OpenClaim := { program := "ytckpnggjboafpam", sum := "abaace3149a6889bc2d103ce6027f34c7ccc2e3d52a847569209e7b3c4f747b6", func := "loop.example/g00228/laws.FnExactLongest", spec := "fnExactLongest", plainKeys := false, apart := false, narrowed := true }
def FnExactLongestUptoSaid : Prop := fnExactLongestUptoRow.holds Try.pinned (OpenSpec.upto fnExactLongestSpec)

end Rows
end Go.Proofs.Ytckpnggjboafpam
