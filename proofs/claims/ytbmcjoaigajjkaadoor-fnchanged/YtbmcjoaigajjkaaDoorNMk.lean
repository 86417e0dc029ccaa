/-
  Nodes that are marked, and whether they are held: the law's own ways.
-/
import Derived.Test.YtbmcjoaigajjkaaDoorNdA
import Derived.Test.YtbmcjoaigajjkaaDoorShaHigh
import Derived.Test.YtbmcjoaigajjkaaDoorHeld
namespace Go.Proofs.YtbmcjoaigajjkaaDoor
open Go.RowKit
set_option linter.unusedVariables false
set_option linter.unusedSimpArgs false
def natP : Value → Nat | .int _ q => q.toNat | _ => 0
/-- a number's digits ahead of a text -/
def digB (k : Nat) (out : ByteArray) : ByteArray := if h : k = 0 then out else digB (k / 10) (⟨#[UInt8.ofNat (48 + k % 10)]⟩ ++ out)
termination_by k
decreasing_by omega
theorem digB_zero (out : ByteArray) : digB 0 out = out := by unfold digB; rw [dif_pos rfl]
theorem digB_succ {k : Nat} (h : 0 < k) (out : ByteArray) : digB k out = digB (k / 10) (⟨#[UInt8.ofNat (48 + k % 10)]⟩ ++ out) := by
  conv => lhs; unfold digB
  rw [dif_neg (by omega)]
def mkT (k : Nat) : ByteArray := ⟨#[109]⟩ ++ digB k ⟨#[]⟩
theorem digB_size (k : Nat) : ∀ (d : Nat) (out : ByteArray), k < 10 ^ d → (digB k out).size ≤ out.size + d := by
  induction k using Nat.strongRecOn with
  | _ k ih =>
    intro d out hk
    by_cases h0 : k = 0
    · subst h0; rw [digB_zero]; omega
    · rw [digB_succ (by omega)]
      cases d with
      | zero => simp at hk; omega
      | succ d =>
        have := ih (k / 10) (by omega) d (⟨#[UInt8.ofNat (48 + k % 10)]⟩ ++ out) (by rw [Nat.pow_succ] at hk; omega)
        rw [ByteArray.size_append] at this
        have e : (⟨#[UInt8.ofNat (48 + k % 10)]⟩ : ByteArray).size = 1 := rfl
        omega
theorem row_ltM {w : World} {g : Nat} {o : Obj} (h : w.heap[g]? = some o) : g < w.heap.size := (Array.getElem?_eq_some_iff.1 h).1
def mkB (k : Nat) : Bool := decide (k % 3 = 0)
/-- nodes that bear marks from k on -/
def MnAt (w : World) (g n k : Nat) : Prop := ∀ j, j < n → w.cell? ⟨g, 4 * j, none⟩ = some (.string (mkT (k + 4 * j))) ∧ w.cell? ⟨g, 4 * j + 1, none⟩ = some (.bool (mkB (k + 4 * j + 1))) ∧ w.cell? ⟨g, 4 * j + 2, none⟩ = some (.int .i64 ((k + 4 * j + 2 : Nat) : Int)) ∧ w.cell? ⟨g, 4 * j + 3, none⟩ = some (.string (mkT (k + 4 * j + 3)))
theorem MnAt.below {w w' : World} {g n k B : Nat} (h : MnAt w g n k) (hb : Below B w w') (hg : g < B) : MnAt w' g n k := fun j hj =>
  ⟨(hb.cell (p := ⟨g, 4 * j, none⟩) hg).trans (h j hj).1, (hb.cell (p := ⟨g, 4 * j + 1, none⟩) hg).trans (h j hj).2.1, (hb.cell (p := ⟨g, 4 * j + 2, none⟩) hg).trans (h j hj).2.2.1, (hb.cell (p := ⟨g, 4 * j + 3, none⟩) hg).trans (h j hj).2.2.2⟩
theorem hidK {p : Prop} (h : p) : Hid p := h
end Go.Proofs.YtbmcjoaigajjkaaDoor
