/-
  Whether two nodes are the same, as the language asks.
-/
import Derived.Test.YtbmcjoaigajjkaaDoorNdA
import Derived.Laws.StructEq
import Derived.Lib.Strings
import Derived.BigRegion
import Derived.BigQuiet
namespace Go.Proofs.YtbmcjoaigajjkaaDoor
open Go.RowKit
set_option linter.unusedVariables false
set_option linter.unusedSimpArgs false
def ndNe (p q : NdI) : Bool := !((p.p.toList == q.p.toList) && ((p.r == q.r) && ((p.m == q.m) && (p.d.toList == q.d.toList))))
theorem toList_inj2 {a b : ByteArray} (h : a.toList = b.toList) : a = b := by
  rw [Lib.toList_data, Lib.toList_data] at h
  exact ByteArray.ext (Array.ext' h)
theorem ndNe_no {p q : NdI} (h : p = q) : ndNe p q = false := by subst h; unfold ndNe; simp
theorem ndNe_yes {p q : NdI} (h : p ≠ q) : ndNe p q = true := by
  cases hb : ndNe p q with
  | true => rfl
  | false =>
    exfalso
    apply h
    unfold ndNe at hb
    simp only [Bool.not_eq_false', Bool.and_eq_true, beq_iff_eq] at hb
    obtain ⟨h1, h2, h3, h4⟩ := hb
    obtain ⟨a, b, c, d⟩ := p
    obtain ⟨e, f, g, k⟩ := q
    simp only at h1 h2 h3 h4
    rw [toList_inj2 h1, h2, h3, toList_inj2 h4]
set_option maxRecDepth 100000 in
set_option maxHeartbeats 1000000 in
theorem nd_neq (p q : NdI) (w : World) : Sem.run Tryd.prog (binOp .neq 32 (.agg #[.string p.p, .bool p.r, .int .i64 p.m, .string p.d]) (.agg #[.string q.p, .bool q.r, .int .i64 q.m, .string q.d])) w = .ok (.bool (ndNe p q)) w := by
  have hS : Tryd.prog.underlying 32 = some (.struct (Tryd.prog.fieldsOf 32)) := by kernel_rfl
  have hp : Tryd.prog.stoodInHeld 32 = false := by kernel_rfl
  rw [run_neq_struct, show (10000 : Nat) = 9999 + 1 from rfl, run_equalIn_agg w 9999 32 _ _ hS hp]
  simp only [Program.fieldsOf, Tryd.underlying32]
  go_simp
  unfold ndNe
  by_cases h1 : p.p.toList = q.p.toList <;> by_cases h2 : p.r = q.r <;> by_cases h3 : p.m = q.m <;> by_cases h4 : p.d.toList = q.d.toList <;> simp [h1, h2, h3, h4]
end Go.Proofs.YtbmcjoaigajjkaaDoor
