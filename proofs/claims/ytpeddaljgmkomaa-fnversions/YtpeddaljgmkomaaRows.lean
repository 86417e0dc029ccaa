/-
  No cell of these rows narrows 'for every input' (looked for: loops, veiled, ifaces, maps, wideKeys, modest, calm, conditions, laid).
  DERIVED. THE GIVEN ROWS OF THIS SEAT. 10 by the template 'for every input the law returns true; each argument reads behind the call as it read before'; 0 by the template 'total and deterministic' (their statements: YtpeddaljgmkomaaTotals.lean).
  GIVEN WITH THE SEED: the statements are not yours to turn. If you find one false, say at which input.
  Laid BY PROGRAM, IN A SANDBOX (cutbox-rows.mjs): the forced cells as the released guide's own fill.sh prints them over the translation 6db048cfd3fdcf67… (all of the seat's roots in one cut). By AI agents, Wed Nov 11 2026. No macro, syntax, notation, axiom, sorry.
-/
import Derived.Test.YtpeddaljgmkomaaChecked
import GoSem.Claim
import GoSem.ClaimJoined
import GoSem.ClaimMapViews
import Derived.JoinedTies
import Derived.KernelRfl
namespace Go.Proofs.Ytpeddaljgmkomaa
/- THE CELL 'sum', in the pinned program and in every row, IS THE sha256 OF THE DUMP (.gsa) THAT YtpeddaljgmkomaaProg.lean LOADS. Nothing in Lean hashes anything: it is a label: what it is worth is what the hold of that sum in a sandbox is worth. -/
noncomputable def Try.pinned : Pinned := { name := "ytpeddaljgmkomaa", sum := "6db048cfd3fdcf67e6c03be8e99ec78f707d390b25cbe81c32a306019fdf239d", checked := Try.checked }
namespace Rows
def none {H : Type} : Left H := { results := [], args := [] }

/-- 'laws.FnExactChainOk': WHATEVER THE INPUT: true; the input reads as it did. -/
def fnExactChainOkSpec : ChangeSpec := { name := "fnExactChainOk", fn := fun _ => fun
  | [d] => { results := [.lit (.bool true)], args := [d] }
  | _ => none }
def fnExactChainOkRow : OpenClaim := { program := "ytpeddaljgmkomaa", sum := "6db048cfd3fdcf67e6c03be8e99ec78f707d390b25cbe81c32a306019fdf239d", func := "loop.example/g00228/laws.FnExactChainOk", spec := "fnExactChainOk", inPlace := ["internal/abi.NoEscape"], plainKeys := false, apart := false }
def FnExactChainOkSaid : Prop := fnExactChainOkRow.holds Try.pinned (OpenSpec.ofChange fnExactChainOkSpec)

/-- ITS FALSE NEIGHBOUR: 'it returns false'. Refute it at one input. -/
def fnExactChainOkWrong : ChangeSpec := { name := "fnExactChainOk", fn := fun _ => fun
  | [d] => { results := [.lit (.bool false)], args := [d] }
  | _ => none }
def FnExactChainOkWrongFalsely : Prop := fnExactChainOkRow.holds Try.pinned (OpenSpec.ofChange fnExactChainOkWrong)

/-- 'laws.FnExactVersionAt': WHATEVER THE INPUT: true; the input reads as it did. -/
def fnExactVersionAtSpec : ChangeSpec := { name := "fnExactVersionAt", fn := fun _ => fun
  | [d1, d2] => { results := [.lit (.bool true)], args := [d1, d2] }
  | _ => none }
def fnExactVersionAtRow : OpenClaim := { program := "ytpeddaljgmkomaa", sum := "6db048cfd3fdcf67e6c03be8e99ec78f707d390b25cbe81c32a306019fdf239d", func := "loop.example/g00228/laws.FnExactVersionAt", spec := "fnExactVersionAt", inPlace := ["internal/abi.NoEscape"], plainKeys := false, apart := false }
def FnExactVersionAtSaid : Prop := fnExactVersionAtRow.holds Try.pinned (OpenSpec.ofChange fnExactVersionAtSpec)

/-- ITS FALSE NEIGHBOUR: 'it returns false'. Refute it at one input. -/
def fnExactVersionAtWrong : ChangeSpec := { name := "fnExactVersionAt", fn := fun _ => fun
  | [d1, d2] => { results := [.lit (.bool false)], args := [d1, d2] }
  | _ => none }
def FnExactVersionAtWrongFalsely : Prop := fnExactVersionAtRow.holds Try.pinned (OpenSpec.ofChange fnExactVersionAtWrong)

/-- 'laws.FnExactDepthAt': WHATEVER THE INPUT: true; the input reads as it did. -/
def fnExactDepthAtSpec : ChangeSpec := { name := "fnExactDepthAt", fn := fun _ => fun
  | [d1, d2] => { results := [.lit (.bool true)], args := [d1, d2] }
  | _ => none }
def fnExactDepthAtRow : OpenClaim := { program := "ytpeddaljgmkomaa", sum := "6db048cfd3fdcf67e6c03be8e99ec78f707d390b25cbe81c32a306019fdf239d", func := "loop.example/g00228/laws.FnExactDepthAt", spec := "fnExactDepthAt", inPlace := ["internal/abi.NoEscape"], plainKeys := false, apart := false }
def FnExactDepthAtSaid : Prop := fnExactDepthAtRow.holds Try.pinned (OpenSpec.ofChange fnExactDepthAtSpec)

/-- ITS FALSE NEIGHBOUR: 'it returns false'. Refute it at one input. -/
def fnExactDepthAtWrong : ChangeSpec := { name := "fnExactDepthAt", fn := fun _ => fun
  | [d1, d2] => { results := [.lit (.bool false)], args := [d1, d2] }
  | _ => none }
def FnExactDepthAtWrongFalsely : Prop := fnExactDepthAtRow.holds Try.pinned (OpenSpec.ofChange fnExactDepthAtWrong)

/-- 'laws.FnExactAddVersion': WHATEVER THE INPUT: true; the input reads as it did. -/
def fnExactAddVersionSpec : ChangeSpec := { name := "fnExactAddVersion", fn := fun _ => fun
  | [d1, d2, d3] => { results := [.lit (.bool true)], args := [d1, d2, d3] }
  | _ => none }
def fnExactAddVersionRow : OpenClaim := { program := "ytpeddaljgmkomaa", sum := "6db048cfd3fdcf67e6c03be8e99ec78f707d390b25cbe81c32a306019fdf239d", func := "loop.example/g00228/laws.FnExactAddVersion", spec := "fnExactAddVersion", inPlace := ["internal/abi.NoEscape"], plainKeys := false, apart := false }
def FnExactAddVersionSaid : Prop := fnExactAddVersionRow.holds Try.pinned (OpenSpec.ofChange fnExactAddVersionSpec)

/-- ITS FALSE NEIGHBOUR: 'it returns false'. Refute it at one input. -/
def fnExactAddVersionWrong : ChangeSpec := { name := "fnExactAddVersion", fn := fun _ => fun
  | [d1, d2, d3] => { results := [.lit (.bool false)], args := [d1, d2, d3] }
  | _ => none }
def FnExactAddVersionWrongFalsely : Prop := fnExactAddVersionRow.holds Try.pinned (OpenSpec.ofChange fnExactAddVersionWrong)

/-- 'laws.FnExactWhole': WHATEVER THE INPUT: true; the input reads as it did. -/
def fnExactWholeSpec : ChangeSpec := { name := "fnExactWhole", fn := fun _ => fun
  | [d1, d2] => { results := [.lit (.bool true)], args := [d1, d2] }
  | _ => none }
def fnExactWholeRow : OpenClaim := { program := "ytpeddaljgmkomaa", sum := "6db048cfd3fdcf67e6c03be8e99ec78f707d390b25cbe81c32a306019fdf239d", func := "loop.example/g00228/laws.FnExactWhole", spec := "fnExactWhole", inPlace := ["internal/abi.NoEscape"], plainKeys := false, apart := false }
def FnExactWholeSaid : Prop := fnExactWholeRow.holds Try.pinned (OpenSpec.ofChange fnExactWholeSpec)

/-- ITS FALSE NEIGHBOUR: 'it returns false'. Refute it at one input. -/
def fnExactWholeWrong : ChangeSpec := { name := "fnExactWhole", fn := fun _ => fun
  | [d1, d2] => { results := [.lit (.bool false)], args := [d1, d2] }
  | _ => none }
def FnExactWholeWrongFalsely : Prop := fnExactWholeRow.holds Try.pinned (OpenSpec.ofChange fnExactWholeWrong)

/-- 'laws.FnExactSkip': WHATEVER THE INPUT: true; the input reads as it did. -/
def fnExactSkipSpec : ChangeSpec := { name := "fnExactSkip", fn := fun _ => fun
  | [d1, d2] => { results := [.lit (.bool true)], args := [d1, d2] }
  | _ => none }
def fnExactSkipRow : OpenClaim := { program := "ytpeddaljgmkomaa", sum := "6db048cfd3fdcf67e6c03be8e99ec78f707d390b25cbe81c32a306019fdf239d", func := "loop.example/g00228/laws.FnExactSkip", spec := "fnExactSkip", inPlace := ["internal/abi.NoEscape"], plainKeys := false, apart := false }
def FnExactSkipSaid : Prop := fnExactSkipRow.holds Try.pinned (OpenSpec.ofChange fnExactSkipSpec)

/-- ITS FALSE NEIGHBOUR: 'it returns false'. Refute it at one input. -/
def fnExactSkipWrong : ChangeSpec := { name := "fnExactSkip", fn := fun _ => fun
  | [d1, d2] => { results := [.lit (.bool false)], args := [d1, d2] }
  | _ => none }
def FnExactSkipWrongFalsely : Prop := fnExactSkipRow.holds Try.pinned (OpenSpec.ofChange fnExactSkipWrong)

/-- 'laws.FnExactChainBytes': WHATEVER THE INPUT: true; the input reads as it did. -/
def fnExactChainBytesSpec : ChangeSpec := { name := "fnExactChainBytes", fn := fun _ => fun
  | [d] => { results := [.lit (.bool true)], args := [d] }
  | _ => none }
def fnExactChainBytesRow : OpenClaim := { program := "ytpeddaljgmkomaa", sum := "6db048cfd3fdcf67e6c03be8e99ec78f707d390b25cbe81c32a306019fdf239d", func := "loop.example/g00228/laws.FnExactChainBytes", spec := "fnExactChainBytes", inPlace := ["internal/abi.NoEscape"], plainKeys := false, apart := false }
def FnExactChainBytesSaid : Prop := fnExactChainBytesRow.holds Try.pinned (OpenSpec.ofChange fnExactChainBytesSpec)

/-- ITS FALSE NEIGHBOUR: 'it returns false'. Refute it at one input. -/
def fnExactChainBytesWrong : ChangeSpec := { name := "fnExactChainBytes", fn := fun _ => fun
  | [d] => { results := [.lit (.bool false)], args := [d] }
  | _ => none }
def FnExactChainBytesWrongFalsely : Prop := fnExactChainBytesRow.holds Try.pinned (OpenSpec.ofChange fnExactChainBytesWrong)

/-- 'laws.FnVersions': WHATEVER THE INPUT: true; the input reads as it did. -/
def fnVersionsSpec : ChangeSpec := { name := "fnVersions", fn := fun _ => fun
  | [d] => { results := [.lit (.bool true)], args := [d] }
  | _ => none }
def fnVersionsRow : OpenClaim := { program := "ytpeddaljgmkomaa", sum := "6db048cfd3fdcf67e6c03be8e99ec78f707d390b25cbe81c32a306019fdf239d", func := "loop.example/g00228/laws.FnVersions", spec := "fnVersions", inPlace := ["internal/abi.NoEscape"], plainKeys := false, apart := false }
def FnVersionsSaid : Prop := fnVersionsRow.holds Try.pinned (OpenSpec.ofChange fnVersionsSpec)

/-- ITS FALSE NEIGHBOUR: 'it returns false'. Refute it at one input. -/
def fnVersionsWrong : ChangeSpec := { name := "fnVersions", fn := fun _ => fun
  | [d] => { results := [.lit (.bool false)], args := [d] }
  | _ => none }
def FnVersionsWrongFalsely : Prop := fnVersionsRow.holds Try.pinned (OpenSpec.ofChange fnVersionsWrong)

/-- 'laws.FnWhole': WHATEVER THE INPUT: true; the input reads as it did. -/
def fnWholeSpec : ChangeSpec := { name := "fnWhole", fn := fun _ => fun
  | [d] => { results := [.lit (.bool true)], args := [d] }
  | _ => none }
def fnWholeRow : OpenClaim := { program := "ytpeddaljgmkomaa", sum := "6db048cfd3fdcf67e6c03be8e99ec78f707d390b25cbe81c32a306019fdf239d", func := "loop.example/g00228/laws.FnWhole", spec := "fnWhole", inPlace := ["internal/abi.NoEscape"], plainKeys := false, apart := false }
def FnWholeSaid : Prop := fnWholeRow.holds Try.pinned (OpenSpec.ofChange fnWholeSpec)

/-- ITS FALSE NEIGHBOUR: 'it returns false'. Refute it at one input. -/
def fnWholeWrong : ChangeSpec := { name := "fnWhole", fn := fun _ => fun
  | [d] => { results := [.lit (.bool false)], args := [d] }
  | _ => none }
def FnWholeWrongFalsely : Prop := fnWholeRow.holds Try.pinned (OpenSpec.ofChange fnWholeWrong)

/-- 'laws.FnSkipped': WHATEVER THE INPUT: true; the input reads as it did. -/
def fnSkippedSpec : ChangeSpec := { name := "fnSkipped", fn := fun _ => fun
  | [d] => { results := [.lit (.bool true)], args := [d] }
  | _ => none }
def fnSkippedRow : OpenClaim := { program := "ytpeddaljgmkomaa", sum := "6db048cfd3fdcf67e6c03be8e99ec78f707d390b25cbe81c32a306019fdf239d", func := "loop.example/g00228/laws.FnSkipped", spec := "fnSkipped", inPlace := ["internal/abi.NoEscape"], plainKeys := false, apart := false }
def FnSkippedSaid : Prop := fnSkippedRow.holds Try.pinned (OpenSpec.ofChange fnSkippedSpec)

/-- ITS FALSE NEIGHBOUR: 'it returns false'. Refute it at one input. -/
def fnSkippedWrong : ChangeSpec := { name := "fnSkipped", fn := fun _ => fun
  | [d] => { results := [.lit (.bool false)], args := [d] }
  | _ => none }
def FnSkippedWrongFalsely : Prop := fnSkippedRow.holds Try.pinned (OpenSpec.ofChange fnSkippedWrong)

/- THE SECOND FORM. 'bulk': how many values and letters a reading holds, each counted each time it is reached (what is shared counts as often as it is met; a slice's spare places count too). A statement '..UptoSaid' is the law's where the arguments, and the package variables that the reading takes, are together of bulk at most 1048576: NARROWER than '..Said'. Prove '..Said' where nothing that the law and all that it calls make is longer than what came in: it says more and counts as full. Else prove '..UptoSaid'. A law counts once. -/
mutual
def uptoBulk {H : Type} : DataW H → Nat
  | .lit (.string bytes) => bytes.length + 1
  | .lit _ => 1
  | .nil => 1
  | .ptr d => uptoBulk d + 1
  | .slice elems spare => uptoBulkAll elems + uptoBulkAll spare + 1
  | .agg parts => uptoBulkAll parts + 1
  | .iface _ d => uptoBulk d + 1
  | .map entries => uptoBulkEntries entries + 1
  | .held _ => 1
def uptoBulkAll {H : Type} : List (DataW H) → Nat
  | [] => 0
  | d :: r => uptoBulk d + uptoBulkAll r
def uptoBulkEntries {H : Type} : List (Lit × DataW H) → Nat
  | [] => 0
  | x :: r => uptoBulkEntry x + uptoBulkEntries r
def uptoBulkEntry {H : Type} : Lit × DataW H → Nat
  | (.string bytes, d) => bytes.length + uptoBulk d + 1
  | (_, d) => uptoBulk d + 1
 end
def uptoSmall : (H : Type) → List (DataW H) → Bool := fun _ ds => decide (uptoBulkAll ds ≤ 1048576)
def OpenSpec.upto (s : _root_.Go.ChangeSpec) : _root_.Go.OpenSpec := { _root_.Go.OpenSpec.ofChange s with cond := some uptoSmall }

/-- 'laws.FnExactChainOk', WHERE WHAT IT READS IS OF BULK AT MOST 1048576: true; the input reads as it did. -/
def fnExactChainOkUptoRow : OpenClaim := { program := "ytpeddaljgmkomaa", sum := "6db048cfd3fdcf67e6c03be8e99ec78f707d390b25cbe81c32a306019fdf239d", func := "loop.example/g00228/laws.FnExactChainOk", spec := "fnExactChainOk", inPlace := ["internal/abi.NoEscape"], plainKeys := false, apart := false, narrowed := true }
def FnExactChainOkUptoSaid : Prop := fnExactChainOkUptoRow.holds Try.pinned (OpenSpec.upto fnExactChainOkSpec)

/-- 'laws.FnExactVersionAt', WHERE WHAT IT READS IS OF BULK AT MOST 1048576: true; the input reads as it did. -/
def fnExactVersionAtUptoRow : OpenClaim := { program := "ytpeddaljgmkomaa", sum := "6db048cfd3fdcf67e6c03be8e99ec78f707d390b25cbe81c32a306019fdf239d", func := "loop.example/g00228/laws.FnExactVersionAt", spec := "fnExactVersionAt", inPlace := ["internal/abi.NoEscape"], plainKeys := false, apart := false, narrowed := true }
def FnExactVersionAtUptoSaid : Prop := fnExactVersionAtUptoRow.holds Try.pinned (OpenSpec.upto fnExactVersionAtSpec)

/-- 'laws.FnExactDepthAt', WHERE WHAT IT READS IS OF BULK AT MOST 1048576: true; the input reads as it did. -/
def fnExactDepthAtUptoRow : OpenClaim := { program := "ytpeddaljgmkomaa", sum := "6db048cfd3fdcf67e6c03be8e99ec78f707d390b25cbe81c32a306019fdf239d", func := "loop.example/g00228/laws.FnExactDepthAt", spec := "fnExactDepthAt", inPlace := ["internal/abi.NoEscape"], plainKeys := false, apart := false, narrowed := true }
def FnExactDepthAtUptoSaid : Prop := fnExactDepthAtUptoRow.holds Try.pinned (OpenSpec.upto fnExactDepthAtSpec)

/-- 'laws.FnExactAddVersion', WHERE WHAT IT READS IS OF BULK AT MOST 1048576: true; the input reads as it did. -/
def fnExactAddVersionUptoRow : OpenClaim := { program := "ytpeddaljgmkomaa", sum := "6db048cfd3fdcf67e6c03be8e99ec78f707d390b25cbe81c32a306019fdf239d", func := "loop.example/g00228/laws.FnExactAddVersion", spec := "fnExactAddVersion", inPlace := ["internal/abi.NoEscape"], plainKeys := false, apart := false, narrowed := true }
def FnExactAddVersionUptoSaid : Prop := fnExactAddVersionUptoRow.holds Try.pinned (OpenSpec.upto fnExactAddVersionSpec)

/-- 'laws.FnExactWhole', WHERE WHAT IT READS IS OF BULK AT MOST 1048576: true; the input reads as it did. -/
def fnExactWholeUptoRow : OpenClaim := { program := "ytpeddaljgmkomaa", sum := "6db048cfd3fdcf67e6c03be8e99ec78f707d390b25cbe81c32a306019fdf239d", func := "loop.example/g00228/laws.FnExactWhole", spec := "fnExactWhole", inPlace := ["internal/abi.NoEscape"], plainKeys := false, apart := false, narrowed := true }
def FnExactWholeUptoSaid : Prop := fnExactWholeUptoRow.holds Try.pinned (OpenSpec.upto fnExactWholeSpec)

/-- 'laws.FnExactSkip', WHERE WHAT IT READS IS OF BULK AT MOST 1048576: true; the input reads as it did. -/
def fnExactSkipUptoRow : OpenClaim := { program := "ytpeddaljgmkomaa", sum := "6db048cfd3fdcf67e6c03be8e99ec78f707d390b25cbe81c32a306019fdf239d", func := "loop.example/g00228/laws.FnExactSkip", spec := "fnExactSkip", inPlace := ["internal/abi.NoEscape"], plainKeys := false, apart := false, narrowed := true }
def FnExactSkipUptoSaid : Prop := fnExactSkipUptoRow.holds Try.pinned (OpenSpec.upto fnExactSkipSpec)

/-- 'laws.FnExactChainBytes', WHERE WHAT IT READS IS OF BULK AT MOST 1048576: true; the input reads as it did. -/
def fnExactChainBytesUptoRow : OpenClaim := { program := "ytpeddaljgmkomaa", sum := "6db048cfd3fdcf67e6c03be8e99ec78f707d390b25cbe81c32a306019fdf239d", func := "loop.example/g00228/laws.FnExactChainBytes", spec := "fnExactChainBytes", inPlace := ["internal/abi.NoEscape"], plainKeys := false, apart := false, narrowed := true }
def FnExactChainBytesUptoSaid : Prop := fnExactChainBytesUptoRow.holds Try.pinned (OpenSpec.upto fnExactChainBytesSpec)

/-- 'laws.FnVersions', WHERE WHAT IT READS IS OF BULK AT MOST 1048576: true; the input reads as it did. -/
def fnVersionsUptoRow : OpenClaim := { program := "ytpeddaljgmkomaa", sum := "6db048cfd3fdcf67e6c03be8e99ec78f707d390b25cbe81c32a306019fdf239d", func := "loop.example/g00228/laws.FnVersions", spec := "fnVersions", inPlace := ["internal/abi.NoEscape"], plainKeys := false, apart := false, narrowed := true }
def FnVersionsUptoSaid : Prop := fnVersionsUptoRow.holds Try.pinned (OpenSpec.upto fnVersionsSpec)

/-- 'laws.FnWhole', WHERE WHAT IT READS IS OF BULK AT MOST 1048576: true; the input reads as it did. -/
def fnWholeUptoRow : OpenClaim := { program := "ytpeddaljgmkomaa", sum := "6db048cfd3fdcf67e6c03be8e99ec78f707d390b25cbe81c32a306019fdf239d", func := "loop.example/g00228/laws.FnWhole", spec := "fnWhole", inPlace := ["internal/abi.NoEscape"], plainKeys := false, apart := false, narrowed := true }
def FnWholeUptoSaid : Prop := fnWholeUptoRow.holds Try.pinned (OpenSpec.upto fnWholeSpec)

/-- 'laws.FnSkipped', WHERE WHAT IT READS IS OF BULK AT MOST 1048576: true; the input reads as it did. -/
def fnSkippedUptoRow : OpenClaim := { program := "ytpeddaljgmkomaa", sum := "6db048cfd3fdcf67e6c03be8e99ec78f707d390b25cbe81c32a306019fdf239d", func := "loop.example/g00228/laws.FnSkipped", spec := "fnSkipped", inPlace := ["internal/abi.NoEscape"], plainKeys := false, apart := false, narrowed := true }
def FnSkippedUptoSaid : Prop := fnSkippedUptoRow.holds Try.pinned (OpenSpec.upto fnSkippedSpec)

end Rows
end Go.Proofs.Ytpeddaljgmkomaa
