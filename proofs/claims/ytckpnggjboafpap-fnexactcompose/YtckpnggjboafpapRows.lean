/-
  No cell of these rows narrows 'for every input' (looked for: loops, veiled, ifaces, maps, wideKeys, modest, calm, conditions, laid).
  DERIVED. THE GIVEN ROWS OF THIS SEAT. 4 by the template 'for every input the law returns true; each argument reads behind the call as it read before'; 0 by the template 'total and deterministic' (their statements: YtckpnggjboafpapTotals.lean).
  GIVEN WITH THE SEED: the statements are not yours to turn. If you find one false, say at which input.
  Laid BY PROGRAM, IN A SANDBOX (cutbox-rows.mjs): the forced cells as the released guide's own fill.sh prints them over the translation aa646c2da8299a3d… (all of the seat's roots in one cut). By AI agents, Wed Nov 11 2026. No macro, syntax, notation, axiom, sorry.
-/
import Derived.Test.YtckpnggjboafpapChecked
import GoSem.Claim
import GoSem.ClaimJoined
import GoSem.ClaimMapViews
import Derived.JoinedTies
import Derived.KernelRfl
namespace Go.Proofs.Ytckpnggjboafpap
/- THE CELL 'sum', in the pinned program and in every row, IS THE sha256 OF THE DUMP (.gsa) THAT YtckpnggjboafpapProg.lean LOADS. Nothing in Lean hashes anything: it is a label: what it is worth is what the hold of that sum in a sandbox is worth. -/
noncomputable def Try.pinned : Pinned := { name := "ytckpnggjboafpap", sum := "aa646c2da8299a3d796c8598ff5c4a7a1a81906082d82c300eb5f14a11b4873f", checked := Try.checked }
namespace Rows
def none {H : Type} : Left H := { results := [], args := [] }

/-- 'laws.FnExactCompose': WHATEVER THE INPUT: true; the input reads as it did. -/
def fnExactComposeSpec : ChangeSpec := { name := "fnExactCompose", fn := fun _ => fun
  | [d1, d2] => { results := [.lit (.bool true)], args := [d1, d2] }
  | _ => none }
def fnExactComposeRow : OpenClaim := { program := "ytckpnggjboafpap", sum := "aa646c2da8299a3d796c8598ff5c4a7a1a81906082d82c300eb5f14a11b4873f", func := "loop.example/g00228/laws.FnExactCompose", spec := "fnExactCompose", apart := false }
def FnExactComposeSaid : Prop := fnExactComposeRow.holds Try.pinned (OpenSpec.ofChange fnExactComposeSpec)

/-- ITS FALSE NEIGHBOUR: 'it returns false'. Refute it at one input. -/
def fnExactComposeWrong : ChangeSpec := { name := "fnExactCompose", fn := fun _ => fun
  | [d1, d2] => { results := [.lit (.bool false)], args := [d1, d2] }
  | _ => none }
def FnExactComposeWrongFalsely : Prop := fnExactComposeRow.holds Try.pinned (OpenSpec.ofChange fnExactComposeWrong)

/-- 'laws.FnExactDeltaText': WHATEVER THE INPUT: true; the input reads as it did. -/
def fnExactDeltaTextSpec : ChangeSpec := { name := "fnExactDeltaText", fn := fun _ => fun
  | [d] => { results := [.lit (.bool true)], args := [d] }
  | _ => none }
def fnExactDeltaTextRow : OpenClaim := { program := "ytckpnggjboafpap", sum := "aa646c2da8299a3d796c8598ff5c4a7a1a81906082d82c300eb5f14a11b4873f", func := "loop.example/g00228/laws.FnExactDeltaText", spec := "fnExactDeltaText", inPlace := ["internal/abi.NoEscape"], apart := false }
def FnExactDeltaTextSaid : Prop := fnExactDeltaTextRow.holds Try.pinned (OpenSpec.ofChange fnExactDeltaTextSpec)

/-- ITS FALSE NEIGHBOUR: 'it returns false'. Refute it at one input. -/
def fnExactDeltaTextWrong : ChangeSpec := { name := "fnExactDeltaText", fn := fun _ => fun
  | [d] => { results := [.lit (.bool false)], args := [d] }
  | _ => none }
def FnExactDeltaTextWrongFalsely : Prop := fnExactDeltaTextRow.holds Try.pinned (OpenSpec.ofChange fnExactDeltaTextWrong)

/-- 'laws.FnExactReadDelta': WHATEVER THE INPUT: true; the input reads as it did. -/
def fnExactReadDeltaSpec : ChangeSpec := { name := "fnExactReadDelta", fn := fun _ => fun
  | [d] => { results := [.lit (.bool true)], args := [d] }
  | _ => none }
def fnExactReadDeltaRow : OpenClaim := { program := "ytckpnggjboafpap", sum := "aa646c2da8299a3d796c8598ff5c4a7a1a81906082d82c300eb5f14a11b4873f", func := "loop.example/g00228/laws.FnExactReadDelta", spec := "fnExactReadDelta", apart := false }
def FnExactReadDeltaSaid : Prop := fnExactReadDeltaRow.holds Try.pinned (OpenSpec.ofChange fnExactReadDeltaSpec)

/-- ITS FALSE NEIGHBOUR: 'it returns false'. Refute it at one input. -/
def fnExactReadDeltaWrong : ChangeSpec := { name := "fnExactReadDelta", fn := fun _ => fun
  | [d] => { results := [.lit (.bool false)], args := [d] }
  | _ => none }
def FnExactReadDeltaWrongFalsely : Prop := fnExactReadDeltaRow.holds Try.pinned (OpenSpec.ofChange fnExactReadDeltaWrong)

/-- 'laws.FnExactParent': WHATEVER THE INPUT: true; the input reads as it did. -/
def fnExactParentSpec : ChangeSpec := { name := "fnExactParent", fn := fun _ => fun
  | [d] => { results := [.lit (.bool true)], args := [d] }
  | _ => none }
def fnExactParentRow : OpenClaim := { program := "ytckpnggjboafpap", sum := "aa646c2da8299a3d796c8598ff5c4a7a1a81906082d82c300eb5f14a11b4873f", func := "loop.example/g00228/laws.FnExactParent", spec := "fnExactParent", apart := false }
def FnExactParentSaid : Prop := fnExactParentRow.holds Try.pinned (OpenSpec.ofChange fnExactParentSpec)

/-- ITS FALSE NEIGHBOUR: 'it returns false'. Refute it at one input. -/
def fnExactParentWrong : ChangeSpec := { name := "fnExactParent", fn := fun _ => fun
  | [d] => { results := [.lit (.bool false)], args := [d] }
  | _ => none }
def FnExactParentWrongFalsely : Prop := fnExactParentRow.holds Try.pinned (OpenSpec.ofChange fnExactParentWrong)

/- THE SECOND FORM. 'bulk': how many values and letters a reading holds, each counted each time it is reached (what is shared counts as often as it is met; a slice's spare places count too). A statement '..UptoSaid' is the law's where the arguments, and the package variables that the reading takes, are together of bulk at most 1048576: NARROWER than '..Said'. Prove '..Said' where nothing that the law and all that it calls make is longer than what came in: it says more and counts as full. Else prove '..UptoSaid'. A law counts once. -/
mutual
def uptoBulk {H : Type} : DataW H → Nat
  | .lit (.string bytes) => bytes.length + 1
  | .lit _ => 1
  | .nil => 1
  | .ptr d => uptoBulk d + 1
  | .slice elems spare => uptoBulkAll elems + uptoBulkAll spare + 1
  | .agg parts => uptoBulkAll parts + 1
  | .iface _ d => uptoBulk d + 1
  | .map entries => uptoBulkEntries entries + 1
  | .held _ => 1
def uptoBulkAll {H : Type} : List (DataW H) → Nat
  | [] => 0
  | d :: r => uptoBulk d + uptoBulkAll r
def uptoBulkEntries {H : Type} : List (Lit × DataW H) → Nat
  | [] => 0
  | x :: r => uptoBulkEntry x + uptoBulkEntries r
def uptoBulkEntry {H : Type} : Lit × DataW H → Nat
  | (.string bytes, d) => bytes.length + uptoBulk d + 1
  | (_, d) => uptoBulk d + 1
 end
def uptoSmall : (H : Type) → List (DataW H) → Bool := fun _ ds => decide (uptoBulkAll ds ≤ 1048576)
def OpenSpec.upto (s : _root_.Go.ChangeSpec) : _root_.Go.OpenSpec := { _root_.Go.OpenSpec.ofChange s with cond := some uptoSmall }

/-- 'laws.FnExactCompose', WHERE WHAT IT READS IS OF BULK AT MOST 1048576: true; the input reads as it did. -/
def fnExactComposeUptoRow : OpenClaim := { program := "ytckpnggjboafpap", sum := "aa646c2da8299a3d796c8598ff5c4a7a1a81906082d82c300eb5f14a11b4873f", func := "loop.example/g00228/laws.FnExactCompose", spec := "fnExactCompose", apart := false, narrowed := true }
def FnExactComposeUptoSaid : Prop := fnExactComposeUptoRow.holds Try.pinned (OpenSpec.upto fnExactComposeSpec)

/-- 'laws.FnExactDeltaText', WHERE WHAT IT READS IS OF BULK AT MOST 1048576: true; the input reads as it did. -/
def fnExactDeltaTextUptoRow : OpenClaim := { program := "ytckpnggjboafpap", sum := "aa646c2da8299a3d796c8598ff5c4a7a1a81906082d82c300eb5f14a11b4873f", func := "loop.example/g00228/laws.FnExactDeltaText", spec := "fnExactDeltaText", inPlace := ["internal/abi.NoEscape"], apart := false, narrowed := true }
def FnExactDeltaTextUptoSaid : Prop := fnExactDeltaTextUptoRow.holds Try.pinned (OpenSpec.upto fnExactDeltaTextSpec)

/-- 'laws.FnExactReadDelta', WHERE WHAT IT READS IS OF BULK AT MOST 1048576: true; the input reads as it did. -/
def fnExactReadDeltaUptoRow : OpenClaim := { program := "ytckpnggjboafpap", sum := "aa646c2da8299a3d796c8598ff5c4a7a1a81906082d82c300eb5f14a11b4873f", func := "loop.example/g00228/laws.FnExactReadDelta", spec := "fnExactReadDelta", apart := false, narrowed := true }
def FnExactReadDeltaUptoSaid : Prop := fnExactReadDeltaUptoRow.holds Try.pinned (OpenSpec.upto fnExactReadDeltaSpec)

/-- 'laws.FnExactParent', WHERE WHAT IT READS IS OF BULK AT MOST 1048576: true; the input reads as it did. -/
def fnExactParentUptoRow : OpenClaim := { program := "ytckpnggjboafpap", sum := "aa646c2da8299a3d796c8598ff5c4a7a1a81906082d82c300eb5f14a11b4873f", func := "loop.example/g00228/laws.FnExactParent", spec := "fnExactParent", apart := false, narrowed := true }
def FnExactParentUptoSaid : Prop := fnExactParentUptoRow.holds Try.pinned (OpenSpec.upto fnExactParentSpec)

end Rows
end Go.Proofs.Ytckpnggjboafpap
