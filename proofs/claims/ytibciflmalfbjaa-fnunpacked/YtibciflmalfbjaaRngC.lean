/-
  The coder of ranges: the code's small functions.
-/
import Derived.Test.YtibciflmalfbjaaRngMath
import Derived.Test.YtibciflmalfbjaaMov
import Derived.BigRegion
import Derived.Below
namespace Go.Proofs.Ytibciflmalfbjaa
open Go.RowKit
set_option linter.unusedVariables false
set_option linter.unusedSimpArgs false
set_option maxRecDepth 100000 in
set_option maxHeartbeats 1000000 in
theorem bound_any (g wd x p : Nat) (w : World) (hw : wd < 4294967296) (hx : x < 512) (hp : p ≤ 2047) (x0 : w.cell? ⟨g, 0, none⟩ = some (.int .i64 (wd : Int))) (x1 : w.cell? ⟨g, 1 + x, none⟩ = some (.int .i64 (p : Int))) :
    Calls Try.prog 75 #[.pointer (some ⟨g, 0, none⟩), .int .i64 (x : Int)] w fun e w' => e = .returned (.int .i64 ((wd / 2048 * p : Nat) : Int)) ∧ Below w.heap.size w w' := by
  obtain ⟨q, hq⟩ : ∃ q, q = wd / 2048 := ⟨_, rfl⟩
  obtain ⟨z, hz⟩ : ∃ z, z = 1 + x := ⟨_, rfl⟩
  have hd : Int.tdiv (wd : Int) 2048 = (q : Int) := by rw [Int.tdiv_eq_ediv_of_nonneg (by omega)]; omega
  have hq2 : q ≤ 2097151 := by omega
  have hm : q * p ≤ 2097151 * 2047 := Nat.mul_le_mul hq2 hp
  rw [← hq]
  obtain ⟨m, hme⟩ : ∃ m, m = q * p := ⟨_, rfl⟩
  have hmi : (q : Int) * (p : Int) = (m : Int) := by rw [hme]; simp
  rw [← hme]
  have hwq : IntKind.i64.wrap (q : Int) = (q : Int) := by rw [IntKind.wrap_i64]; omega
  have hwm : IntKind.i64.wrap ((q : Int) * (p : Int)) = (m : Int) := by rw [hmi, IntKind.wrap_i64]; omega
  have hxI : (x : Int) < 512 := by omega
  rw [← hz] at x1
  have hxz : 1 + x = z := hz.symm
  have hxz1 : x + 1 = z := by omega
  clear hq hme hz
  go_enter Try.func75, Try.ntmps75
  go_wp2_with fail
  go_region
  go_wp2_with fail
  go_ret
  exact ⟨rfl, ⟨rfl, rfl, rfl, Nat.le_refl _, fun _ _ => rfl⟩⟩
theorem movI_nat {p b : Nat} (h : 1 ≤ p ∧ p ≤ 2047) (hb : b = 0 ∨ b = 1) : movI (p : Int) (b : Int) = ((movP p b : Nat) : Int) := by
  unfold movP
  rcases hb with rfl | rfl
  · rw [if_pos rfl]
    show movI (p : Int) 0 = _
    rw [mov_zero (by omega) (by omega)]; omega
  · rw [if_neg (by decide)]
    show movI (p : Int) 1 = _
    rw [mov_one (by omega) (by omega)]; omega
end Go.Proofs.Ytibciflmalfbjaa
