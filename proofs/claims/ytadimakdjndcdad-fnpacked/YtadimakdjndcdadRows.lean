/-
  No cell of these rows narrows 'for every input' (looked for: loops, veiled, ifaces, maps, wideKeys, modest, calm, conditions, laid).
  DERIVED. THE GIVEN ROWS OF THIS SEAT. 6 by the template 'for every input the law returns true; each argument reads behind the call as it read before'; 0 by the template 'total and deterministic' (their statements: YtadimakdjndcdadTotals.lean).
  GIVEN WITH THE SEED: the statements are not yours to turn. If you find one false, say at which input.
  Laid BY PROGRAM, IN A SANDBOX (cutbox-rows.mjs): the forced cells as the released guide's own fill.sh prints them over the translation 8e19eafbb89d86b8… (all of the seat's roots in one cut). By AI agents, Wed Nov 11 2026. No macro, syntax, notation, axiom, sorry.
-/
import Derived.Test.YtadimakdjndcdadChecked
import GoSem.Claim
import GoSem.ClaimJoined
import GoSem.ClaimMapViews
import Derived.JoinedTies
import Derived.KernelRfl
namespace Go.Proofs.Ytadimakdjndcdad
/- THE CELL 'sum', in the pinned program and in every row, IS THE sha256 OF THE DUMP (.gsa) THAT YtadimakdjndcdadProg.lean LOADS. Nothing in Lean hashes anything: it is a label: what it is worth is what the hold of that sum in a sandbox is worth. -/
noncomputable def Try.pinned : Pinned := { name := "ytadimakdjndcdad", sum := "8e19eafbb89d86b865901b72ee9ff7e426145d4ae923dd78238cd57c527d0db4", checked := Try.checked }
namespace Rows
def none {H : Type} : Left H := { results := [], args := [] }

/-- 'laws.FnPacked': WHATEVER THE INPUT: true; the input reads as it did. -/
def fnPackedSpec : ChangeSpec := { name := "fnPacked", fn := fun _ => fun
  | [d] => { results := [.lit (.bool true)], args := [d] }
  | _ => none }
def fnPackedRow : OpenClaim := { program := "ytadimakdjndcdad", sum := "8e19eafbb89d86b865901b72ee9ff7e426145d4ae923dd78238cd57c527d0db4", func := "loop.example/g00228/laws.FnPacked", spec := "fnPacked", unfollowed := true, recurses := true, plainKeys := false, apart := false }
def FnPackedSaid : Prop := fnPackedRow.holds Try.pinned (OpenSpec.ofChange fnPackedSpec)

/-- ITS FALSE NEIGHBOUR: 'it returns false'. Refute it at one input. -/
def fnPackedWrong : ChangeSpec := { name := "fnPacked", fn := fun _ => fun
  | [d] => { results := [.lit (.bool false)], args := [d] }
  | _ => none }
def FnPackedWrongFalsely : Prop := fnPackedRow.holds Try.pinned (OpenSpec.ofChange fnPackedWrong)

/-- 'laws.FnUnpacked': WHATEVER THE INPUT: true; the input reads as it did. -/
def fnUnpackedSpec : ChangeSpec := { name := "fnUnpacked", fn := fun _ => fun
  | [d] => { results := [.lit (.bool true)], args := [d] }
  | _ => none }
def fnUnpackedRow : OpenClaim := { program := "ytadimakdjndcdad", sum := "8e19eafbb89d86b865901b72ee9ff7e426145d4ae923dd78238cd57c527d0db4", func := "loop.example/g00228/laws.FnUnpacked", spec := "fnUnpacked", unfollowed := true, recurses := true, plainKeys := false, apart := false }
def FnUnpackedSaid : Prop := fnUnpackedRow.holds Try.pinned (OpenSpec.ofChange fnUnpackedSpec)

/-- ITS FALSE NEIGHBOUR: 'it returns false'. Refute it at one input. -/
def fnUnpackedWrong : ChangeSpec := { name := "fnUnpacked", fn := fun _ => fun
  | [d] => { results := [.lit (.bool false)], args := [d] }
  | _ => none }
def FnUnpackedWrongFalsely : Prop := fnUnpackedRow.holds Try.pinned (OpenSpec.ofChange fnUnpackedWrong)

/-- 'laws.FnChunked': WHATEVER THE INPUT: true; the input reads as it did. -/
def fnChunkedSpec : ChangeSpec := { name := "fnChunked", fn := fun _ => fun
  | [d] => { results := [.lit (.bool true)], args := [d] }
  | _ => none }
def fnChunkedRow : OpenClaim := { program := "ytadimakdjndcdad", sum := "8e19eafbb89d86b865901b72ee9ff7e426145d4ae923dd78238cd57c527d0db4", func := "loop.example/g00228/laws.FnChunked", spec := "fnChunked", unfollowed := true, recurses := true, plainKeys := false, apart := false }
def FnChunkedSaid : Prop := fnChunkedRow.holds Try.pinned (OpenSpec.ofChange fnChunkedSpec)

/-- ITS FALSE NEIGHBOUR: 'it returns false'. Refute it at one input. -/
def fnChunkedWrong : ChangeSpec := { name := "fnChunked", fn := fun _ => fun
  | [d] => { results := [.lit (.bool false)], args := [d] }
  | _ => none }
def FnChunkedWrongFalsely : Prop := fnChunkedRow.holds Try.pinned (OpenSpec.ofChange fnChunkedWrong)

/-- 'laws.FnResynced': WHATEVER THE INPUT: true; the input reads as it did. -/
def fnResyncedSpec : ChangeSpec := { name := "fnResynced", fn := fun _ => fun
  | [d] => { results := [.lit (.bool true)], args := [d] }
  | _ => none }
def fnResyncedRow : OpenClaim := { program := "ytadimakdjndcdad", sum := "8e19eafbb89d86b865901b72ee9ff7e426145d4ae923dd78238cd57c527d0db4", func := "loop.example/g00228/laws.FnResynced", spec := "fnResynced", unfollowed := true, recurses := true, plainKeys := false, apart := false }
def FnResyncedSaid : Prop := fnResyncedRow.holds Try.pinned (OpenSpec.ofChange fnResyncedSpec)

/-- ITS FALSE NEIGHBOUR: 'it returns false'. Refute it at one input. -/
def fnResyncedWrong : ChangeSpec := { name := "fnResynced", fn := fun _ => fun
  | [d] => { results := [.lit (.bool false)], args := [d] }
  | _ => none }
def FnResyncedWrongFalsely : Prop := fnResyncedRow.holds Try.pinned (OpenSpec.ofChange fnResyncedWrong)

/-- 'laws.FnDeltas': WHATEVER THE INPUT: true; the input reads as it did. -/
def fnDeltasSpec : ChangeSpec := { name := "fnDeltas", fn := fun _ => fun
  | [d] => { results := [.lit (.bool true)], args := [d] }
  | _ => none }
def fnDeltasRow : OpenClaim := { program := "ytadimakdjndcdad", sum := "8e19eafbb89d86b865901b72ee9ff7e426145d4ae923dd78238cd57c527d0db4", func := "loop.example/g00228/laws.FnDeltas", spec := "fnDeltas", inPlace := ["internal/abi.NoEscape"], plainKeys := false, apart := false }
def FnDeltasSaid : Prop := fnDeltasRow.holds Try.pinned (OpenSpec.ofChange fnDeltasSpec)

/-- ITS FALSE NEIGHBOUR: 'it returns false'. Refute it at one input. -/
def fnDeltasWrong : ChangeSpec := { name := "fnDeltas", fn := fun _ => fun
  | [d] => { results := [.lit (.bool false)], args := [d] }
  | _ => none }
def FnDeltasWrongFalsely : Prop := fnDeltasRow.holds Try.pinned (OpenSpec.ofChange fnDeltasWrong)

/-- 'laws.FnPatched': WHATEVER THE INPUT: true; the input reads as it did. -/
def fnPatchedSpec : ChangeSpec := { name := "fnPatched", fn := fun _ => fun
  | [d] => { results := [.lit (.bool true)], args := [d] }
  | _ => none }
def fnPatchedRow : OpenClaim := { program := "ytadimakdjndcdad", sum := "8e19eafbb89d86b865901b72ee9ff7e426145d4ae923dd78238cd57c527d0db4", func := "loop.example/g00228/laws.FnPatched", spec := "fnPatched", inPlace := ["internal/abi.NoEscape"], plainKeys := false, apart := false }
def FnPatchedSaid : Prop := fnPatchedRow.holds Try.pinned (OpenSpec.ofChange fnPatchedSpec)

/-- ITS FALSE NEIGHBOUR: 'it returns false'. Refute it at one input. -/
def fnPatchedWrong : ChangeSpec := { name := "fnPatched", fn := fun _ => fun
  | [d] => { results := [.lit (.bool false)], args := [d] }
  | _ => none }
def FnPatchedWrongFalsely : Prop := fnPatchedRow.holds Try.pinned (OpenSpec.ofChange fnPatchedWrong)

/- THE SECOND FORM. 'bulk': how many values and letters a reading holds, each counted each time it is reached (what is shared counts as often as it is met; a slice's spare places count too). A statement '..UptoSaid' is the law's where the arguments, and the package variables that the reading takes, are together of bulk at most 1048576: NARROWER than '..Said'. Prove '..Said' where nothing that the law and all that it calls make is longer than what came in: it says more and counts as full. Else prove '..UptoSaid'. A law counts once. -/
mutual
def uptoBulk {H : Type} : DataW H → Nat
  | .lit (.string bytes) => bytes.length + 1
  | .lit _ => 1
  | .nil => 1
  | .ptr d => uptoBulk d + 1
  | .slice elems spare => uptoBulkAll elems + uptoBulkAll spare + 1
  | .agg parts => uptoBulkAll parts + 1
  | .iface _ d => uptoBulk d + 1
  | .map entries => uptoBulkEntries entries + 1
  | .held _ => 1
def uptoBulkAll {H : Type} : List (DataW H) → Nat
  | [] => 0
  | d :: r => uptoBulk d + uptoBulkAll r
def uptoBulkEntries {H : Type} : List (Lit × DataW H) → Nat
  | [] => 0
  | x :: r => uptoBulkEntry x + uptoBulkEntries r
def uptoBulkEntry {H : Type} : Lit × DataW H → Nat
  | (.string bytes, d) => bytes.length + uptoBulk d + 1
  | (_, d) => uptoBulk d + 1
 end
def uptoSmall : (H : Type) → List (DataW H) → Bool := fun _ ds => decide (uptoBulkAll ds ≤ 1048576)
def OpenSpec.upto (s : _root_.Go.ChangeSpec) : _root_.Go.OpenSpec := { _root_.Go.OpenSpec.ofChange s with cond := some uptoSmall }

/-- 'laws.FnPacked', WHERE WHAT IT READS IS OF BULK AT MOST 1048576: true; the input reads as it did. -/
def fnPackedUptoRow : OpenClaim := { program := "ytadimakdjndcdad", sum := "8e19eafbb89d86b865901b72ee9ff7e426145d4ae923dd78238cd57c527d0db4", func := "loop.example/g00228/laws.FnPacked", spec := "fnPacked", unfollowed := true, recurses := true, plainKeys := false, apart := false, narrowed := true }
def FnPackedUptoSaid : Prop := fnPackedUptoRow.holds Try.pinned (OpenSpec.upto fnPackedSpec)

/-- 'laws.FnUnpacked', WHERE WHAT IT READS IS OF BULK AT MOST 1048576: true; the input reads as it did. -/
def fnUnpackedUptoRow : OpenClaim := { program := "ytadimakdjndcdad", sum := "8e19eafbb89d86b865901b72ee9ff7e426145d4ae923dd78238cd57c527d0db4", func := "loop.example/g00228/laws.FnUnpacked", spec := "fnUnpacked", unfollowed := true, recurses := true, plainKeys := false, apart := false, narrowed := true }
def FnUnpackedUptoSaid : Prop := fnUnpackedUptoRow.holds Try.pinned (OpenSpec.upto fnUnpackedSpec)

/-- 'laws.FnChunked', WHERE WHAT IT READS IS OF BULK AT MOST 1048576: true; the input reads as it did. -/
def fnChunkedUptoRow : OpenClaim := { program := "ytadimakdjndcdad", sum := "8e19eafbb89d86b865901b72ee9ff7e426145d4ae923dd78238cd57c527d0db4", func := "loop.example/g00228/laws.FnChunked", spec := "fnChunked", unfollowed := true, recurses := true, plainKeys := false, apart := false, narrowed := true }
def FnChunkedUptoSaid : Prop := fnChunkedUptoRow.holds Try.pinned (OpenSpec.upto fnChunkedSpec)

/-- 'laws.FnResynced', WHERE WHAT IT READS IS OF BULK AT MOST 1048576: true; the input reads as it did. -/
def fnResyncedUptoRow : OpenClaim := { program := "ytadimakdjndcdad", sum := "8e19eafbb89d86b865901b72ee9ff7e426145d4ae923dd78238cd57c527d0db4", func := "loop.example/g00228/laws.FnResynced", spec := "fnResynced", unfollowed := true, recurses := true, plainKeys := false, apart := false, narrowed := true }
def FnResyncedUptoSaid : Prop := fnResyncedUptoRow.holds Try.pinned (OpenSpec.upto fnResyncedSpec)

/-- 'laws.FnDeltas', WHERE WHAT IT READS IS OF BULK AT MOST 1048576: true; the input reads as it did. -/
def fnDeltasUptoRow : OpenClaim := { program := "ytadimakdjndcdad", sum := "8e19eafbb89d86b865901b72ee9ff7e426145d4ae923dd78238cd57c527d0db4", func := "loop.example/g00228/laws.FnDeltas", spec := "fnDeltas", inPlace := ["internal/abi.NoEscape"], plainKeys := false, apart := false, narrowed := true }
def FnDeltasUptoSaid : Prop := fnDeltasUptoRow.holds Try.pinned (OpenSpec.upto fnDeltasSpec)

/-- 'laws.FnPatched', WHERE WHAT IT READS IS OF BULK AT MOST 1048576: true; the input reads as it did. -/
def fnPatchedUptoRow : OpenClaim := { program := "ytadimakdjndcdad", sum := "8e19eafbb89d86b865901b72ee9ff7e426145d4ae923dd78238cd57c527d0db4", func := "loop.example/g00228/laws.FnPatched", spec := "fnPatched", inPlace := ["internal/abi.NoEscape"], plainKeys := false, apart := false, narrowed := true }
def FnPatchedUptoSaid : Prop := fnPatchedUptoRow.holds Try.pinned (OpenSpec.upto fnPatchedSpec)

end Rows
end Go.Proofs.Ytadimakdjndcdad
