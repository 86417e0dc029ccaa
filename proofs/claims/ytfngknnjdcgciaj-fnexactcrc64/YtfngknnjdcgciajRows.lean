/-
  No cell of these rows narrows 'for every input' (looked for: loops, veiled, ifaces, maps, wideKeys, modest, calm, conditions, laid).
  DERIVED. THE GIVEN ROWS OF THIS SEAT. 6 by the template 'for every input the law returns true; each argument reads behind the call as it read before'; 0 by the template 'total and deterministic' (their statements: YtfngknnjdcgciajTotals.lean).
  GIVEN WITH THE SEED: the statements are not yours to turn. If you find one false, say at which input.
  Laid BY PROGRAM, IN A SANDBOX (cutbox-rows.mjs): the forced cells as the released guide's own fill.sh prints them over the translation 9623cecc3de46c56… (all of the seat's roots in one cut). By AI agents, Wed Nov 11 2026. No macro, syntax, notation, axiom, sorry.
-/
import Derived.Test.YtfngknnjdcgciajChecked
import GoSem.Claim
import GoSem.ClaimJoined
import GoSem.ClaimMapViews
import Derived.JoinedTies
import Derived.KernelRfl
namespace Go.Proofs.Ytfngknnjdcgciaj
/- THE CELL 'sum', in the pinned program and in every row, IS THE sha256 OF THE DUMP (.gsa) THAT YtfngknnjdcgciajProg.lean LOADS. Nothing in Lean hashes anything: it is a label: what it is worth is what the hold of that sum in a sandbox is worth. -/
noncomputable def Try.pinned : Pinned := { name := "ytfngknnjdcgciaj", sum := "9623cecc3de46c5603a088979e2b532bd9e8bf0f23f2de96f9fcc7a022076809", checked := Try.checked }
namespace Rows
def none {H : Type} : Left H := { results := [], args := [] }

/-- 'laws.FnExactPutNum': WHATEVER THE INPUT: true; the input reads as it did. -/
def fnExactPutNumSpec : ChangeSpec := { name := "fnExactPutNum", fn := fun _ => fun
  | [d] => { results := [.lit (.bool true)], args := [d] }
  | _ => none }
def fnExactPutNumRow : OpenClaim := { program := "ytfngknnjdcgciaj", sum := "9623cecc3de46c5603a088979e2b532bd9e8bf0f23f2de96f9fcc7a022076809", func := "loop.example/g00228/laws.FnExactPutNum", spec := "fnExactPutNum", apart := false }
def FnExactPutNumSaid : Prop := fnExactPutNumRow.holds Try.pinned (OpenSpec.ofChange fnExactPutNumSpec)

/-- ITS FALSE NEIGHBOUR: 'it returns false'. Refute it at one input. -/
def fnExactPutNumWrong : ChangeSpec := { name := "fnExactPutNum", fn := fun _ => fun
  | [d] => { results := [.lit (.bool false)], args := [d] }
  | _ => none }
def FnExactPutNumWrongFalsely : Prop := fnExactPutNumRow.holds Try.pinned (OpenSpec.ofChange fnExactPutNumWrong)

/-- 'laws.FnExactTakeNum': WHATEVER THE INPUT: true; the input reads as it did. -/
def fnExactTakeNumSpec : ChangeSpec := { name := "fnExactTakeNum", fn := fun _ => fun
  | [d] => { results := [.lit (.bool true)], args := [d] }
  | _ => none }
def fnExactTakeNumRow : OpenClaim := { program := "ytfngknnjdcgciaj", sum := "9623cecc3de46c5603a088979e2b532bd9e8bf0f23f2de96f9fcc7a022076809", func := "loop.example/g00228/laws.FnExactTakeNum", spec := "fnExactTakeNum", apart := false }
def FnExactTakeNumSaid : Prop := fnExactTakeNumRow.holds Try.pinned (OpenSpec.ofChange fnExactTakeNumSpec)

/-- ITS FALSE NEIGHBOUR: 'it returns false'. Refute it at one input. -/
def fnExactTakeNumWrong : ChangeSpec := { name := "fnExactTakeNum", fn := fun _ => fun
  | [d] => { results := [.lit (.bool false)], args := [d] }
  | _ => none }
def FnExactTakeNumWrongFalsely : Prop := fnExactTakeNumRow.holds Try.pinned (OpenSpec.ofChange fnExactTakeNumWrong)

/-- 'laws.FnExactPutText': WHATEVER THE INPUT: true; the input reads as it did. -/
def fnExactPutTextSpec : ChangeSpec := { name := "fnExactPutText", fn := fun _ => fun
  | [d] => { results := [.lit (.bool true)], args := [d] }
  | _ => none }
def fnExactPutTextRow : OpenClaim := { program := "ytfngknnjdcgciaj", sum := "9623cecc3de46c5603a088979e2b532bd9e8bf0f23f2de96f9fcc7a022076809", func := "loop.example/g00228/laws.FnExactPutText", spec := "fnExactPutText", apart := false }
def FnExactPutTextSaid : Prop := fnExactPutTextRow.holds Try.pinned (OpenSpec.ofChange fnExactPutTextSpec)

/-- ITS FALSE NEIGHBOUR: 'it returns false'. Refute it at one input. -/
def fnExactPutTextWrong : ChangeSpec := { name := "fnExactPutText", fn := fun _ => fun
  | [d] => { results := [.lit (.bool false)], args := [d] }
  | _ => none }
def FnExactPutTextWrongFalsely : Prop := fnExactPutTextRow.holds Try.pinned (OpenSpec.ofChange fnExactPutTextWrong)

/-- 'laws.FnExactTakeText': WHATEVER THE INPUT: true; the input reads as it did. -/
def fnExactTakeTextSpec : ChangeSpec := { name := "fnExactTakeText", fn := fun _ => fun
  | [d] => { results := [.lit (.bool true)], args := [d] }
  | _ => none }
def fnExactTakeTextRow : OpenClaim := { program := "ytfngknnjdcgciaj", sum := "9623cecc3de46c5603a088979e2b532bd9e8bf0f23f2de96f9fcc7a022076809", func := "loop.example/g00228/laws.FnExactTakeText", spec := "fnExactTakeText", apart := false }
def FnExactTakeTextSaid : Prop := fnExactTakeTextRow.holds Try.pinned (OpenSpec.ofChange fnExactTakeTextSpec)

/-- ITS FALSE NEIGHBOUR: 'it returns false'. Refute it at one input. -/
def fnExactTakeTextWrong : ChangeSpec := { name := "fnExactTakeText", fn := fun _ => fun
  | [d] => { results := [.lit (.bool false)], args := [d] }
  | _ => none }
def FnExactTakeTextWrongFalsely : Prop := fnExactTakeTextRow.holds Try.pinned (OpenSpec.ofChange fnExactTakeTextWrong)

/-- 'laws.FnExactCrc32': WHATEVER THE INPUT: true; the input reads as it did. -/
def fnExactCrc32Spec : ChangeSpec := { name := "fnExactCrc32", fn := fun _ => fun
  | [d] => { results := [.lit (.bool true)], args := [d] }
  | _ => none }
def fnExactCrc32Row : OpenClaim := { program := "ytfngknnjdcgciaj", sum := "9623cecc3de46c5603a088979e2b532bd9e8bf0f23f2de96f9fcc7a022076809", func := "loop.example/g00228/laws.FnExactCrc32", spec := "fnExactCrc32", apart := false }
def FnExactCrc32Said : Prop := fnExactCrc32Row.holds Try.pinned (OpenSpec.ofChange fnExactCrc32Spec)

/-- ITS FALSE NEIGHBOUR: 'it returns false'. Refute it at one input. -/
def fnExactCrc32Wrong : ChangeSpec := { name := "fnExactCrc32", fn := fun _ => fun
  | [d] => { results := [.lit (.bool false)], args := [d] }
  | _ => none }
def FnExactCrc32WrongFalsely : Prop := fnExactCrc32Row.holds Try.pinned (OpenSpec.ofChange fnExactCrc32Wrong)

/-- 'laws.FnExactCrc64': WHATEVER THE INPUT: true; the input reads as it did. -/
def fnExactCrc64Spec : ChangeSpec := { name := "fnExactCrc64", fn := fun _ => fun
  | [d] => { results := [.lit (.bool true)], args := [d] }
  | _ => none }
def fnExactCrc64Row : OpenClaim := { program := "ytfngknnjdcgciaj", sum := "9623cecc3de46c5603a088979e2b532bd9e8bf0f23f2de96f9fcc7a022076809", func := "loop.example/g00228/laws.FnExactCrc64", spec := "fnExactCrc64", apart := false }
def FnExactCrc64Said : Prop := fnExactCrc64Row.holds Try.pinned (OpenSpec.ofChange fnExactCrc64Spec)

/-- ITS FALSE NEIGHBOUR: 'it returns false'. Refute it at one input. -/
def fnExactCrc64Wrong : ChangeSpec := { name := "fnExactCrc64", fn := fun _ => fun
  | [d] => { results := [.lit (.bool false)], args := [d] }
  | _ => none }
def FnExactCrc64WrongFalsely : Prop := fnExactCrc64Row.holds Try.pinned (OpenSpec.ofChange fnExactCrc64Wrong)

/- THE SECOND FORM. 'bulk': how many values and letters a reading holds, each counted each time it is reached (what is shared counts as often as it is met; a slice's spare places count too). A statement '..UptoSaid' is the law's where the arguments, and the package variables that the reading takes, are together of bulk at most 1048576: NARROWER than '..Said'. Prove '..Said' where nothing that the law and all that it calls make is longer than what came in: it says more and counts as full. Else prove '..UptoSaid'. A law counts once. -/
mutual
def uptoBulk {H : Type} : DataW H → Nat
  | .lit (.string bytes) => bytes.length + 1
  | .lit _ => 1
  | .nil => 1
  | .ptr d => uptoBulk d + 1
  | .slice elems spare => uptoBulkAll elems + uptoBulkAll spare + 1
  | .agg parts => uptoBulkAll parts + 1
  | .iface _ d => uptoBulk d + 1
  | .map entries => uptoBulkEntries entries + 1
  | .held _ => 1
def uptoBulkAll {H : Type} : List (DataW H) → Nat
  | [] => 0
  | d :: r => uptoBulk d + uptoBulkAll r
def uptoBulkEntries {H : Type} : List (Lit × DataW H) → Nat
  | [] => 0
  | x :: r => uptoBulkEntry x + uptoBulkEntries r
def uptoBulkEntry {H : Type} : Lit × DataW H → Nat
  | (.string bytes, d) => bytes.length + uptoBulk d + 1
  | (_, d) => uptoBulk d + 1
 end
def uptoSmall : (H : Type) → List (DataW H) → Bool := fun _ ds => decide (uptoBulkAll ds ≤ 1048576)
def OpenSpec.upto (s : _root_.Go.ChangeSpec) : _root_.Go.OpenSpec := { _root_.Go.OpenSpec.ofChange s with cond := some uptoSmall }

/-- 'laws.FnExactPutNum', WHERE WHAT IT READS IS OF BULK AT MOST 1048576: true; the input reads as it did. -/
def fnExactPutNumUptoRow : OpenClaim := { program := "ytfngknnjdcgciaj", sum := "9623cecc3de46c5603a088979e2b532bd9e8bf0f23f2de96f9fcc7a022076809", func := "loop.example/g00228/laws.FnExactPutNum", spec := "fnExactPutNum", apart := false, narrowed := true }
def FnExactPutNumUptoSaid : Prop := fnExactPutNumUptoRow.holds Try.pinned (OpenSpec.upto fnExactPutNumSpec)

/-- 'laws.FnExactTakeNum', WHERE WHAT IT READS IS OF BULK AT MOST 1048576: true; the input reads as it did. -/
def fnExactTakeNumUptoRow : OpenClaim := { program := "ytfngknnjdcgciaj", sum := "9623cecc3de46c5603a088979e2b532bd9e8bf0f23f2de96f9fcc7a022076809", func := "loop.example/g00228/laws.FnExactTakeNum", spec := "fnExactTakeNum", apart := false, narrowed := true }
def FnExactTakeNumUptoSaid : Prop := fnExactTakeNumUptoRow.holds Try.pinned (OpenSpec.upto fnExactTakeNumSpec)

/-- 'laws.FnExactPutText', WHERE WHAT IT READS IS OF BULK AT MOST 1048576: true; the input reads as it did. -/
def fnExactPutTextUptoRow : OpenClaim := { program := "ytfngknnjdcgciaj", sum := "9623cecc3de46c5603a088979e2b532bd9e8bf0f23f2de96f9fcc7a022076809", func := "loop.example/g00228/laws.FnExactPutText", spec := "fnExactPutText", apart := false, narrowed := true }
def FnExactPutTextUptoSaid : Prop := fnExactPutTextUptoRow.holds Try.pinned (OpenSpec.upto fnExactPutTextSpec)

/-- 'laws.FnExactTakeText', WHERE WHAT IT READS IS OF BULK AT MOST 1048576: true; the input reads as it did. -/
def fnExactTakeTextUptoRow : OpenClaim := { program := "ytfngknnjdcgciaj", sum := "9623cecc3de46c5603a088979e2b532bd9e8bf0f23f2de96f9fcc7a022076809", func := "loop.example/g00228/laws.FnExactTakeText", spec := "fnExactTakeText", apart := false, narrowed := true }
def FnExactTakeTextUptoSaid : Prop := fnExactTakeTextUptoRow.holds Try.pinned (OpenSpec.upto fnExactTakeTextSpec)

/-- 'laws.FnExactCrc32', WHERE WHAT IT READS IS OF BULK AT MOST 1048576: true; the input reads as it did. -/
def fnExactCrc32UptoRow : OpenClaim := { program := "ytfngknnjdcgciaj", sum := "9623cecc3de46c5603a088979e2b532bd9e8bf0f23f2de96f9fcc7a022076809", func := "loop.example/g00228/laws.FnExactCrc32", spec := "fnExactCrc32", apart := false, narrowed := true }
def FnExactCrc32UptoSaid : Prop := fnExactCrc32UptoRow.holds Try.pinned (OpenSpec.upto fnExactCrc32Spec)

/-- 'laws.FnExactCrc64', WHERE WHAT IT READS IS OF BULK AT MOST 1048576: true; the input reads as it did. -/
def fnExactCrc64UptoRow : OpenClaim := { program := "ytfngknnjdcgciaj", sum := "9623cecc3de46c5603a088979e2b532bd9e8bf0f23f2de96f9fcc7a022076809", func := "loop.example/g00228/laws.FnExactCrc64", spec := "fnExactCrc64", apart := false, narrowed := true }
def FnExactCrc64UptoSaid : Prop := fnExactCrc64UptoRow.holds Try.pinned (OpenSpec.upto fnExactCrc64Spec)

end Rows
end Go.Proofs.Ytfngknnjdcgciaj
