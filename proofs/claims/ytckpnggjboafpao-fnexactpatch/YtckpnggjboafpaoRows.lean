/-
  No cell of these rows narrows 'for every input' (looked for: loops, veiled, ifaces, maps, wideKeys, modest, calm, conditions, laid).
  DERIVED. THE GIVEN ROWS OF THIS SEAT. 6 by the template 'for every input the law returns true; each argument reads behind the call as it read before'; 0 by the template 'total and deterministic' (their statements: YtckpnggjboafpaoTotals.lean).
  GIVEN WITH THE SEED: the statements are not yours to turn. If you find one false, say at which input.
  Laid BY PROGRAM, IN A SANDBOX (cutbox-rows.mjs): the forced cells as the released guide's own fill.sh prints them over the translation a487c0cca98e346d… (all of the seat's roots in one cut). By AI agents, Wed Nov 11 2026. No macro, syntax, notation, axiom, sorry.
-/
import Derived.Test.YtckpnggjboafpaoChecked
import GoSem.Claim
import GoSem.ClaimJoined
import GoSem.ClaimMapViews
import Derived.JoinedTies
import Derived.KernelRfl
namespace Go.Proofs.Ytckpnggjboafpao
/- THE CELL 'sum', in the pinned program and in every row, IS THE sha256 OF THE DUMP (.gsa) THAT YtckpnggjboafpaoProg.lean LOADS. Nothing in Lean hashes anything: it is a label: what it is worth is what the hold of that sum in a sandbox is worth. -/
noncomputable def Try.pinned : Pinned := { name := "ytckpnggjboafpao", sum := "a487c0cca98e346de51aab5d5df6c5cc3d40ff88382425f6d75427c54a4bc6dc", checked := Try.checked }
namespace Rows
def none {H : Type} : Left H := { results := [], args := [] }

/-- 'laws.FnExactGear': WHATEVER THE INPUT: true; the input reads as it did. -/
def fnExactGearSpec : ChangeSpec := { name := "fnExactGear", fn := fun _ => fun
  | [d] => { results := [.lit (.bool true)], args := [d] }
  | _ => none }
def fnExactGearRow : OpenClaim := { program := "ytckpnggjboafpao", sum := "a487c0cca98e346de51aab5d5df6c5cc3d40ff88382425f6d75427c54a4bc6dc", func := "loop.example/g00228/laws.FnExactGear", spec := "fnExactGear", plainKeys := false, apart := false }
def FnExactGearSaid : Prop := fnExactGearRow.holds Try.pinned (OpenSpec.ofChange fnExactGearSpec)

/-- ITS FALSE NEIGHBOUR: 'it returns false'. Refute it at one input. -/
def fnExactGearWrong : ChangeSpec := { name := "fnExactGear", fn := fun _ => fun
  | [d] => { results := [.lit (.bool false)], args := [d] }
  | _ => none }
def FnExactGearWrongFalsely : Prop := fnExactGearRow.holds Try.pinned (OpenSpec.ofChange fnExactGearWrong)

/-- 'laws.FnExactCuts': WHATEVER THE INPUT: true; the input reads as it did. -/
def fnExactCutsSpec : ChangeSpec := { name := "fnExactCuts", fn := fun _ => fun
  | [d1, d2] => { results := [.lit (.bool true)], args := [d1, d2] }
  | _ => none }
def fnExactCutsRow : OpenClaim := { program := "ytckpnggjboafpao", sum := "a487c0cca98e346de51aab5d5df6c5cc3d40ff88382425f6d75427c54a4bc6dc", func := "loop.example/g00228/laws.FnExactCuts", spec := "fnExactCuts", unfollowed := true, recurses := true, plainKeys := false, apart := false }
def FnExactCutsSaid : Prop := fnExactCutsRow.holds Try.pinned (OpenSpec.ofChange fnExactCutsSpec)

/-- ITS FALSE NEIGHBOUR: 'it returns false'. Refute it at one input. -/
def fnExactCutsWrong : ChangeSpec := { name := "fnExactCuts", fn := fun _ => fun
  | [d1, d2] => { results := [.lit (.bool false)], args := [d1, d2] }
  | _ => none }
def FnExactCutsWrongFalsely : Prop := fnExactCutsRow.holds Try.pinned (OpenSpec.ofChange fnExactCutsWrong)

/-- 'laws.FnExactChunks': WHATEVER THE INPUT: true; the input reads as it did. -/
def fnExactChunksSpec : ChangeSpec := { name := "fnExactChunks", fn := fun _ => fun
  | [d1, d2] => { results := [.lit (.bool true)], args := [d1, d2] }
  | _ => none }
def fnExactChunksRow : OpenClaim := { program := "ytckpnggjboafpao", sum := "a487c0cca98e346de51aab5d5df6c5cc3d40ff88382425f6d75427c54a4bc6dc", func := "loop.example/g00228/laws.FnExactChunks", spec := "fnExactChunks", unfollowed := true, recurses := true, plainKeys := false, apart := false }
def FnExactChunksSaid : Prop := fnExactChunksRow.holds Try.pinned (OpenSpec.ofChange fnExactChunksSpec)

/-- ITS FALSE NEIGHBOUR: 'it returns false'. Refute it at one input. -/
def fnExactChunksWrong : ChangeSpec := { name := "fnExactChunks", fn := fun _ => fun
  | [d1, d2] => { results := [.lit (.bool false)], args := [d1, d2] }
  | _ => none }
def FnExactChunksWrongFalsely : Prop := fnExactChunksRow.holds Try.pinned (OpenSpec.ofChange fnExactChunksWrong)

/-- 'laws.FnExactPiecesOk': WHATEVER THE INPUT: true; the input reads as it did. -/
def fnExactPiecesOkSpec : ChangeSpec := { name := "fnExactPiecesOk", fn := fun _ => fun
  | [d1, d2] => { results := [.lit (.bool true)], args := [d1, d2] }
  | _ => none }
def fnExactPiecesOkRow : OpenClaim := { program := "ytckpnggjboafpao", sum := "a487c0cca98e346de51aab5d5df6c5cc3d40ff88382425f6d75427c54a4bc6dc", func := "loop.example/g00228/laws.FnExactPiecesOk", spec := "fnExactPiecesOk", plainKeys := false, apart := false }
def FnExactPiecesOkSaid : Prop := fnExactPiecesOkRow.holds Try.pinned (OpenSpec.ofChange fnExactPiecesOkSpec)

/-- ITS FALSE NEIGHBOUR: 'it returns false'. Refute it at one input. -/
def fnExactPiecesOkWrong : ChangeSpec := { name := "fnExactPiecesOk", fn := fun _ => fun
  | [d1, d2] => { results := [.lit (.bool false)], args := [d1, d2] }
  | _ => none }
def FnExactPiecesOkWrongFalsely : Prop := fnExactPiecesOkRow.holds Try.pinned (OpenSpec.ofChange fnExactPiecesOkWrong)

/-- 'laws.FnExactDeltaOf': WHATEVER THE INPUT: true; the input reads as it did. -/
def fnExactDeltaOfSpec : ChangeSpec := { name := "fnExactDeltaOf", fn := fun _ => fun
  | [d1, d2] => { results := [.lit (.bool true)], args := [d1, d2] }
  | _ => none }
def fnExactDeltaOfRow : OpenClaim := { program := "ytckpnggjboafpao", sum := "a487c0cca98e346de51aab5d5df6c5cc3d40ff88382425f6d75427c54a4bc6dc", func := "loop.example/g00228/laws.FnExactDeltaOf", spec := "fnExactDeltaOf", plainKeys := false, apart := false }
def FnExactDeltaOfSaid : Prop := fnExactDeltaOfRow.holds Try.pinned (OpenSpec.ofChange fnExactDeltaOfSpec)

/-- ITS FALSE NEIGHBOUR: 'it returns false'. Refute it at one input. -/
def fnExactDeltaOfWrong : ChangeSpec := { name := "fnExactDeltaOf", fn := fun _ => fun
  | [d1, d2] => { results := [.lit (.bool false)], args := [d1, d2] }
  | _ => none }
def FnExactDeltaOfWrongFalsely : Prop := fnExactDeltaOfRow.holds Try.pinned (OpenSpec.ofChange fnExactDeltaOfWrong)

/-- 'laws.FnExactPatch': WHATEVER THE INPUT: true; the input reads as it did. -/
def fnExactPatchSpec : ChangeSpec := { name := "fnExactPatch", fn := fun _ => fun
  | [d1, d2] => { results := [.lit (.bool true)], args := [d1, d2] }
  | _ => none }
def fnExactPatchRow : OpenClaim := { program := "ytckpnggjboafpao", sum := "a487c0cca98e346de51aab5d5df6c5cc3d40ff88382425f6d75427c54a4bc6dc", func := "loop.example/g00228/laws.FnExactPatch", spec := "fnExactPatch", inPlace := ["internal/abi.NoEscape"], plainKeys := false, apart := false }
def FnExactPatchSaid : Prop := fnExactPatchRow.holds Try.pinned (OpenSpec.ofChange fnExactPatchSpec)

/-- ITS FALSE NEIGHBOUR: 'it returns false'. Refute it at one input. -/
def fnExactPatchWrong : ChangeSpec := { name := "fnExactPatch", fn := fun _ => fun
  | [d1, d2] => { results := [.lit (.bool false)], args := [d1, d2] }
  | _ => none }
def FnExactPatchWrongFalsely : Prop := fnExactPatchRow.holds Try.pinned (OpenSpec.ofChange fnExactPatchWrong)

/- THE SECOND FORM. 'bulk': how many values and letters a reading holds, each counted each time it is reached (what is shared counts as often as it is met; a slice's spare places count too). A statement '..UptoSaid' is the law's where the arguments, and the package variables that the reading takes, are together of bulk at most 1048576: NARROWER than '..Said'. Prove '..Said' where nothing that the law and all that it calls make is longer than what came in: it says more and counts as full. Else prove '..UptoSaid'. A law counts once. -/
mutual
def uptoBulk {H : Type} : DataW H → Nat
  | .lit (.string bytes) => bytes.length + 1
  | .lit _ => 1
  | .nil => 1
  | .ptr d => uptoBulk d + 1
  | .slice elems spare => uptoBulkAll elems + uptoBulkAll spare + 1
  | .agg parts => uptoBulkAll parts + 1
  | .iface _ d => uptoBulk d + 1
  | .map entries => uptoBulkEntries entries + 1
  | .held _ => 1
def uptoBulkAll {H : Type} : List (DataW H) → Nat
  | [] => 0
  | d :: r => uptoBulk d + uptoBulkAll r
def uptoBulkEntries {H : Type} : List (Lit × DataW H) → Nat
  | [] => 0
  | x :: r => uptoBulkEntry x + uptoBulkEntries r
def uptoBulkEntry {H : Type} : Lit × DataW H → Nat
  | (.string bytes, d) => bytes.length + uptoBulk d + 1
  | (_, d) => uptoBulk d + 1
 end
def uptoSmall : (H : Type) → List (DataW H) → Bool := fun _ ds => decide (uptoBulkAll ds ≤ 1048576)
def OpenSpec.upto (s : _root_.Go.ChangeSpec) : _root_.Go.OpenSpec := { _root_.Go.OpenSpec.ofChange s with cond := some uptoSmall }

/-- 'laws.FnExactGear', WHERE WHAT IT READS IS OF BULK AT MOST 1048576: true; the input reads as it did. -/
def fnExactGearUptoRow : OpenClaim := { program := "ytckpnggjboafpao", sum := "a487c0cca98e346de51aab5d5df6c5cc3d40ff88382425f6d75427c54a4bc6dc", func := "loop.example/g00228/laws.FnExactGear", spec := "fnExactGear", plainKeys := false, apart := false, narrowed := true }
def FnExactGearUptoSaid : Prop := fnExactGearUptoRow.holds Try.pinned (OpenSpec.upto fnExactGearSpec)

/-- 'laws.FnExactCuts', WHERE WHAT IT READS IS OF BULK AT MOST 1048576: true; the input reads as it did. -/
def fnExactCutsUptoRow : OpenClaim := { program := "ytckpnggjboafpao", sum := "a487c0cca98e346de51aab5d5df6c5cc3d40ff88382425f6d75427c54a4bc6dc", func := "loop.example/g00228/laws.FnExactCuts", spec := "fnExactCuts", unfollowed := true, recurses := true, plainKeys := false, apart := false, narrowed := true }
def FnExactCutsUptoSaid : Prop := fnExactCutsUptoRow.holds Try.pinned (OpenSpec.upto fnExactCutsSpec)

/-- 'laws.FnExactChunks', WHERE WHAT IT READS IS OF BULK AT MOST 1048576: true; the input reads as it did. -/
def fnExactChunksUptoRow : OpenClaim := { program := "ytckpnggjboafpao", sum := "a487c0cca98e346de51aab5d5df6c5cc3d40ff88382425f6d75427c54a4bc6dc", func := "loop.example/g00228/laws.FnExactChunks", spec := "fnExactChunks", unfollowed := true, recurses := true, plainKeys := false, apart := false, narrowed := true }
def FnExactChunksUptoSaid : Prop := fnExactChunksUptoRow.holds Try.pinned (OpenSpec.upto fnExactChunksSpec)

/-- 'laws.FnExactPiecesOk', WHERE WHAT IT READS IS OF BULK AT MOST 1048576: true; the input reads as it did. -/
def fnExactPiecesOkUptoRow : OpenClaim := { program := "ytckpnggjboafpao", sum := "a487c0cca98e346de51aab5d5df6c5cc3d40ff88382425f6d75427c54a4bc6dc", func := "loop.example/g00228/laws.FnExactPiecesOk", spec := "fnExactPiecesOk", plainKeys := false, apart := false, narrowed := true }
def FnExactPiecesOkUptoSaid : Prop := fnExactPiecesOkUptoRow.holds Try.pinned (OpenSpec.upto fnExactPiecesOkSpec)

/-- 'laws.FnExactDeltaOf', WHERE WHAT IT READS IS OF BULK AT MOST 1048576: true; the input reads as it did. -/
def fnExactDeltaOfUptoRow : OpenClaim := { program := "ytckpnggjboafpao", sum := "a487c0cca98e346de51aab5d5df6c5cc3d40ff88382425f6d75427c54a4bc6dc", func := "loop.example/g00228/laws.FnExactDeltaOf", spec := "fnExactDeltaOf", plainKeys := false, apart := false, narrowed := true }
def FnExactDeltaOfUptoSaid : Prop := fnExactDeltaOfUptoRow.holds Try.pinned (OpenSpec.upto fnExactDeltaOfSpec)

/-- 'laws.FnExactPatch', WHERE WHAT IT READS IS OF BULK AT MOST 1048576: true; the input reads as it did. -/
def fnExactPatchUptoRow : OpenClaim := { program := "ytckpnggjboafpao", sum := "a487c0cca98e346de51aab5d5df6c5cc3d40ff88382425f6d75427c54a4bc6dc", func := "loop.example/g00228/laws.FnExactPatch", spec := "fnExactPatch", inPlace := ["internal/abi.NoEscape"], plainKeys := false, apart := false, narrowed := true }
def FnExactPatchUptoSaid : Prop := fnExactPatchUptoRow.holds Try.pinned (OpenSpec.upto fnExactPatchSpec)

end Rows
end Go.Proofs.Ytckpnggjboafpao
