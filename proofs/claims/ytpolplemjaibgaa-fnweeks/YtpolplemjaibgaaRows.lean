/-
  No cell of these rows narrows 'for every input' (looked for: loops, veiled, ifaces, maps, wideKeys, modest, calm, conditions, laid).
  DERIVED. THE GIVEN ROWS OF THIS SEAT. 6 by the template 'for every input the law returns true; each argument reads behind the call as it read before'; 0 by the template 'total and deterministic' (their statements: YtpolplemjaibgaaTotals.lean).
  GIVEN WITH THE SEED: the statements are not yours to turn. If you find one false, say at which input.
  Laid BY PROGRAM, IN A SANDBOX (cutbox-rows.mjs): the forced cells as the released guide's own fill.sh prints them over the translation df6e73025e355da0… (all of the seat's roots in one cut). By AI agents, Wed Nov 11 2026. No macro, syntax, notation, axiom, sorry.
-/
import Derived.Test.YtpolplemjaibgaaChecked
import GoSem.Claim
import GoSem.ClaimJoined
import GoSem.ClaimMapViews
import Derived.JoinedTies
import Derived.KernelRfl
namespace Go.Proofs.Ytpolplemjaibgaa
/- THE CELL 'sum', in the pinned program and in every row, IS THE sha256 OF THE DUMP (.gsa) THAT YtpolplemjaibgaaProg.lean LOADS. Nothing in Lean hashes anything: it is a label: what it is worth is what the hold of that sum in a sandbox is worth. -/
noncomputable def Try.pinned : Pinned := { name := "ytpolplemjaibgaa", sum := "df6e73025e355da0a5913df9a61b3d53bed9d871501081e31921ac15b9e58e36", checked := Try.checked }
namespace Rows
def none {H : Type} : Left H := { results := [], args := [] }

/-- 'laws.FnExactPolicyOk': WHATEVER THE INPUT: true; the input reads as it did. -/
def fnExactPolicyOkSpec : ChangeSpec := { name := "fnExactPolicyOk", fn := fun _ => fun
  | [d] => { results := [.lit (.bool true)], args := [d] }
  | _ => none }
def fnExactPolicyOkRow : OpenClaim := { program := "ytpolplemjaibgaa", sum := "df6e73025e355da0a5913df9a61b3d53bed9d871501081e31921ac15b9e58e36", func := "loop.example/g00228/laws.FnExactPolicyOk", spec := "fnExactPolicyOk", apart := false }
def FnExactPolicyOkSaid : Prop := fnExactPolicyOkRow.holds Try.pinned (OpenSpec.ofChange fnExactPolicyOkSpec)

/-- ITS FALSE NEIGHBOUR: 'it returns false'. Refute it at one input. -/
def fnExactPolicyOkWrong : ChangeSpec := { name := "fnExactPolicyOk", fn := fun _ => fun
  | [d] => { results := [.lit (.bool false)], args := [d] }
  | _ => none }
def FnExactPolicyOkWrongFalsely : Prop := fnExactPolicyOkRow.holds Try.pinned (OpenSpec.ofChange fnExactPolicyOkWrong)

/-- 'laws.FnExactWeekOf': WHATEVER THE INPUT: true; the input reads as it did. -/
def fnExactWeekOfSpec : ChangeSpec := { name := "fnExactWeekOf", fn := fun _ => fun
  | [d] => { results := [.lit (.bool true)], args := [d] }
  | _ => none }
def fnExactWeekOfRow : OpenClaim := { program := "ytpolplemjaibgaa", sum := "df6e73025e355da0a5913df9a61b3d53bed9d871501081e31921ac15b9e58e36", func := "loop.example/g00228/laws.FnExactWeekOf", spec := "fnExactWeekOf", apart := false }
def FnExactWeekOfSaid : Prop := fnExactWeekOfRow.holds Try.pinned (OpenSpec.ofChange fnExactWeekOfSpec)

/-- ITS FALSE NEIGHBOUR: 'it returns false'. Refute it at one input. -/
def fnExactWeekOfWrong : ChangeSpec := { name := "fnExactWeekOf", fn := fun _ => fun
  | [d] => { results := [.lit (.bool false)], args := [d] }
  | _ => none }
def FnExactWeekOfWrongFalsely : Prop := fnExactWeekOfRow.holds Try.pinned (OpenSpec.ofChange fnExactWeekOfWrong)

/-- 'laws.FnExactKeep': WHATEVER THE INPUT: true; the input reads as it did. -/
def fnExactKeepSpec : ChangeSpec := { name := "fnExactKeep", fn := fun _ => fun
  | [d1, d2] => { results := [.lit (.bool true)], args := [d1, d2] }
  | _ => none }
def fnExactKeepRow : OpenClaim := { program := "ytpolplemjaibgaa", sum := "df6e73025e355da0a5913df9a61b3d53bed9d871501081e31921ac15b9e58e36", func := "loop.example/g00228/laws.FnExactKeep", spec := "fnExactKeep", unfollowed := true, recurses := true, apart := false }
def FnExactKeepSaid : Prop := fnExactKeepRow.holds Try.pinned (OpenSpec.ofChange fnExactKeepSpec)

/-- ITS FALSE NEIGHBOUR: 'it returns false'. Refute it at one input. -/
def fnExactKeepWrong : ChangeSpec := { name := "fnExactKeep", fn := fun _ => fun
  | [d1, d2] => { results := [.lit (.bool false)], args := [d1, d2] }
  | _ => none }
def FnExactKeepWrongFalsely : Prop := fnExactKeepRow.holds Try.pinned (OpenSpec.ofChange fnExactKeepWrong)

/-- 'laws.FnKept': WHATEVER THE INPUT: true; the input reads as it did. -/
def fnKeptSpec : ChangeSpec := { name := "fnKept", fn := fun _ => fun
  | [d] => { results := [.lit (.bool true)], args := [d] }
  | _ => none }
def fnKeptRow : OpenClaim := { program := "ytpolplemjaibgaa", sum := "df6e73025e355da0a5913df9a61b3d53bed9d871501081e31921ac15b9e58e36", func := "loop.example/g00228/laws.FnKept", spec := "fnKept", unfollowed := true, recurses := true, apart := false }
def FnKeptSaid : Prop := fnKeptRow.holds Try.pinned (OpenSpec.ofChange fnKeptSpec)

/-- ITS FALSE NEIGHBOUR: 'it returns false'. Refute it at one input. -/
def fnKeptWrong : ChangeSpec := { name := "fnKept", fn := fun _ => fun
  | [d] => { results := [.lit (.bool false)], args := [d] }
  | _ => none }
def FnKeptWrongFalsely : Prop := fnKeptRow.holds Try.pinned (OpenSpec.ofChange fnKeptWrong)

/-- 'laws.FnWeeks': WHATEVER THE INPUT: true; the input reads as it did. -/
def fnWeeksSpec : ChangeSpec := { name := "fnWeeks", fn := fun _ => fun
  | [d] => { results := [.lit (.bool true)], args := [d] }
  | _ => none }
def fnWeeksRow : OpenClaim := { program := "ytpolplemjaibgaa", sum := "df6e73025e355da0a5913df9a61b3d53bed9d871501081e31921ac15b9e58e36", func := "loop.example/g00228/laws.FnWeeks", spec := "fnWeeks", apart := false }
def FnWeeksSaid : Prop := fnWeeksRow.holds Try.pinned (OpenSpec.ofChange fnWeeksSpec)

/-- ITS FALSE NEIGHBOUR: 'it returns false'. Refute it at one input. -/
def fnWeeksWrong : ChangeSpec := { name := "fnWeeks", fn := fun _ => fun
  | [d] => { results := [.lit (.bool false)], args := [d] }
  | _ => none }
def FnWeeksWrongFalsely : Prop := fnWeeksRow.holds Try.pinned (OpenSpec.ofChange fnWeeksWrong)

/-- 'laws.FnExactCatalogNew': WHATEVER THE INPUT: true; the input reads as it did. -/
def fnExactCatalogNewSpec : ChangeSpec := { name := "fnExactCatalogNew", fn := fun _ => fun
  | [d] => { results := [.lit (.bool true)], args := [d] }
  | _ => none }
def fnExactCatalogNewRow : OpenClaim := { program := "ytpolplemjaibgaa", sum := "df6e73025e355da0a5913df9a61b3d53bed9d871501081e31921ac15b9e58e36", func := "loop.example/g00228/laws.FnExactCatalogNew", spec := "fnExactCatalogNew", apart := false }
def FnExactCatalogNewSaid : Prop := fnExactCatalogNewRow.holds Try.pinned (OpenSpec.ofChange fnExactCatalogNewSpec)

/-- ITS FALSE NEIGHBOUR: 'it returns false'. Refute it at one input. -/
def fnExactCatalogNewWrong : ChangeSpec := { name := "fnExactCatalogNew", fn := fun _ => fun
  | [d] => { results := [.lit (.bool false)], args := [d] }
  | _ => none }
def FnExactCatalogNewWrongFalsely : Prop := fnExactCatalogNewRow.holds Try.pinned (OpenSpec.ofChange fnExactCatalogNewWrong)

/- THE SECOND FORM. 'bulk': how many values and letters a reading holds, each counted each time it is reached (what is shared counts as often as it is met; a slice's spare places count too). A statement '..UptoSaid' is the law's where the arguments, and the package variables that the reading takes, are together of bulk at most 1048576: NARROWER than '..Said'. Prove '..Said' where nothing that the law and all that it calls make is longer than what came in: it says more and counts as full. Else prove '..UptoSaid'. A law counts once. -/
mutual
def uptoBulk {H : Type} : DataW H → Nat
  | .lit (.string bytes) => bytes.length + 1
  | .lit _ => 1
  | .nil => 1
  | .ptr d => uptoBulk d + 1
  | .slice elems spare => uptoBulkAll elems + uptoBulkAll spare + 1
  | .agg parts => uptoBulkAll parts + 1
  | .iface _ d => uptoBulk d + 1
  | .map entries => uptoBulkEntries entries + 1
  | .held _ => 1
def uptoBulkAll {H : Type} : List (DataW H) → Nat
  | [] => 0
  | d :: r => uptoBulk d + uptoBulkAll r
def uptoBulkEntries {H : Type} : List (Lit × DataW H) → Nat
  | [] => 0
  | x :: r => uptoBulkEntry x + uptoBulkEntries r
def uptoBulkEntry {H : Type} : Lit × DataW H → Nat
  | (.string bytes, d) => bytes.length + uptoBulk d + 1
  | (_, d) => uptoBulk d + 1
 end
def uptoSmall : (H : Type) → List (DataW H) → Bool := fun _ ds => decide (uptoBulkAll ds ≤ 1048576)
def OpenSpec.upto (s : _root_.Go.ChangeSpec) : _root_.Go.OpenSpec := { _root_.Go.OpenSpec.ofChange s with cond := some uptoSmall }

/-- 'laws.FnExactPolicyOk', WHERE WHAT IT READS IS OF BULK AT MOST 1048576: true; the input reads as it did. -/
def fnExactPolicyOkUptoRow : OpenClaim := { program := "ytpolplemjaibgaa", sum := "df6e73025e355da0a5913df9a61b3d53bed9d871501081e31921ac15b9e58e36", func := "loop.example/g00228/laws.FnExactPolicyOk", spec := "fnExactPolicyOk", apart := false, narrowed := true }
def FnExactPolicyOkUptoSaid : Prop := fnExactPolicyOkUptoRow.holds Try.pinned (OpenSpec.upto fnExactPolicyOkSpec)

/-- 'laws.FnExactWeekOf', WHERE WHAT IT READS IS OF BULK AT MOST 1048576: true; the input reads as it did. -/
def fnExactWeekOfUptoRow : OpenClaim := { program := "ytpolplemjaibgaa", sum := "df6e73025e355da0a5913df9a61b3d53bed9d871501081e31921ac15b9e58e36", func := "loop.example/g00228/laws.FnExactWeekOf", spec := "fnExactWeekOf", apart := false, narrowed := true }
def FnExactWeekOfUptoSaid : Prop := fnExactWeekOfUptoRow.holds Try.pinned (OpenSpec.upto fnExactWeekOfSpec)

/-- 'laws.FnExactKeep', WHERE WHAT IT READS IS OF BULK AT MOST 1048576: true; the input reads as it did. -/
def fnExactKeepUptoRow : OpenClaim := { program := "ytpolplemjaibgaa", sum := "df6e73025e355da0a5913df9a61b3d53bed9d871501081e31921ac15b9e58e36", func := "loop.example/g00228/laws.FnExactKeep", spec := "fnExactKeep", unfollowed := true, recurses := true, apart := false, narrowed := true }
def FnExactKeepUptoSaid : Prop := fnExactKeepUptoRow.holds Try.pinned (OpenSpec.upto fnExactKeepSpec)

/-- 'laws.FnKept', WHERE WHAT IT READS IS OF BULK AT MOST 1048576: true; the input reads as it did. -/
def fnKeptUptoRow : OpenClaim := { program := "ytpolplemjaibgaa", sum := "df6e73025e355da0a5913df9a61b3d53bed9d871501081e31921ac15b9e58e36", func := "loop.example/g00228/laws.FnKept", spec := "fnKept", unfollowed := true, recurses := true, apart := false, narrowed := true }
def FnKeptUptoSaid : Prop := fnKeptUptoRow.holds Try.pinned (OpenSpec.upto fnKeptSpec)

/-- 'laws.FnWeeks', WHERE WHAT IT READS IS OF BULK AT MOST 1048576: true; the input reads as it did. -/
def fnWeeksUptoRow : OpenClaim := { program := "ytpolplemjaibgaa", sum := "df6e73025e355da0a5913df9a61b3d53bed9d871501081e31921ac15b9e58e36", func := "loop.example/g00228/laws.FnWeeks", spec := "fnWeeks", apart := false, narrowed := true }
def FnWeeksUptoSaid : Prop := fnWeeksUptoRow.holds Try.pinned (OpenSpec.upto fnWeeksSpec)

/-- 'laws.FnExactCatalogNew', WHERE WHAT IT READS IS OF BULK AT MOST 1048576: true; the input reads as it did. -/
def fnExactCatalogNewUptoRow : OpenClaim := { program := "ytpolplemjaibgaa", sum := "df6e73025e355da0a5913df9a61b3d53bed9d871501081e31921ac15b9e58e36", func := "loop.example/g00228/laws.FnExactCatalogNew", spec := "fnExactCatalogNew", apart := false, narrowed := true }
def FnExactCatalogNewUptoSaid : Prop := fnExactCatalogNewUptoRow.holds Try.pinned (OpenSpec.upto fnExactCatalogNewSpec)

end Rows
end Go.Proofs.Ytpolplemjaibgaa
