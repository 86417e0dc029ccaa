/-
  Paths that are drawn.
-/
import Derived.Test.YtbmcjoaigajjkaaDoorDrwAll
namespace Go.Proofs.YtbmcjoaigajjkaaDoor
open Go.RowKit
set_option linter.unusedVariables false
set_option linter.unusedSimpArgs false
def pthRow : List ByteArray := [⟨#[97]⟩, ⟨#[97, 47, 98]⟩, ⟨#[97, 47, 98, 47, 99, 46, 103, 111]⟩, ⟨#[97, 47, 120, 46, 103, 111]⟩, ⟨#[98, 46, 116, 120, 116]⟩, ⟨#[98]⟩, ⟨#[98, 47, 121, 46, 116, 120, 116]⟩, ⟨#[99]⟩, ⟨#[99, 47, 46, 120]⟩, ⟨#[122, 46, 116, 97, 114, 46, 103, 122]⟩, ⟨#[97, 47, 98, 47, 100]⟩, ⟨#[65]⟩, ⟨#[]⟩, ⟨#[97, 47, 47, 98]⟩, ⟨#[97, 47, 46, 46, 47, 98]⟩]
def pthVals : Array Value := #[.string ⟨#[97]⟩, .string ⟨#[97, 47, 98]⟩, .string ⟨#[97, 47, 98, 47, 99, 46, 103, 111]⟩, .string ⟨#[97, 47, 120, 46, 103, 111]⟩, .string ⟨#[98, 46, 116, 120, 116]⟩, .string ⟨#[98]⟩, .string ⟨#[98, 47, 121, 46, 116, 120, 116]⟩, .string ⟨#[99]⟩, .string ⟨#[99, 47, 46, 120]⟩, .string ⟨#[122, 46, 116, 97, 114, 46, 103, 122]⟩, .string ⟨#[97, 47, 98, 47, 100]⟩, .string ⟨#[65]⟩, .string ⟨#[]⟩, .string ⟨#[97, 47, 47, 98]⟩, .string ⟨#[97, 47, 46, 46, 47, 98]⟩]
theorem pthVals_at : ∀ k : Nat, k < 15 → ∃ s : ByteArray, s.size ≤ 100 ∧ pthVals[k]? = some (.string s)
  | 0, _ => ⟨_, by decide, rfl⟩
  | 1, _ => ⟨_, by decide, rfl⟩
  | 2, _ => ⟨_, by decide, rfl⟩
  | 3, _ => ⟨_, by decide, rfl⟩
  | 4, _ => ⟨_, by decide, rfl⟩
  | 5, _ => ⟨_, by decide, rfl⟩
  | 6, _ => ⟨_, by decide, rfl⟩
  | 7, _ => ⟨_, by decide, rfl⟩
  | 8, _ => ⟨_, by decide, rfl⟩
  | 9, _ => ⟨_, by decide, rfl⟩
  | 10, _ => ⟨_, by decide, rfl⟩
  | 11, _ => ⟨_, by decide, rfl⟩
  | 12, _ => ⟨_, by decide, rfl⟩
  | 13, _ => ⟨_, by decide, rfl⟩
  | 14, _ => ⟨_, by decide, rfl⟩
  | k + 15, h => absurd h (by omega)
set_option maxRecDepth 100000 in
set_option maxHeartbeats 1000000 in
theorem path_any {w0 : World} {a : Option Addr} {len cap g : Nat} {W : World} (hS : Src w0 a len) (h : RD w0 a len cap g W) :
    Calls Tryd.prog 49 #[.pointer (some ⟨g, 0, none⟩)] W fun e w' => (∃ s : ByteArray, s.size ≤ 100 ∧ e = .returned (.string s)) ∧ Rd3 w0 a len cap g W w' := by
  obtain ⟨W1, hW1⟩ : ∃ W1, W1 = W.alloc (.cells pthVals 9) := ⟨_, rfl⟩
  have HR1 : Hid (Rd3 w0 a len cap g W W1) := by rw [hW1]; exact (Rd3.refl h).alloc _
  have HRW : Hid (W1.heap[W.heap.size]? = some (.cells pthVals 9 (0, 0))) := by rw [hW1]; exact heap_alloc_new _ _
  have HGL : Hid (g < W.heap.size ∧ W.heap.size < W1.heap.size) := ⟨h.lt, by rw [hW1]; simp⟩
  have HS : Hid (Src w0 a len) := hS
  have HW1 : Hid (W1 = _) := hW1
  unfold pthVals at HW1
  clear hS h hW1
  go_enter Tryd.func49, Tryd.ntmps49
  go_wp2_with fail
  rw [← HW1.out]
  refine (below_any HS.out HR1.out.rd 15 (by omega) (by omega)).mono ?_
  rintro e w2 ⟨⟨x, hx1, hx2, rfl⟩, hr2⟩
  obtain ⟨k, rfl⟩ := Int.eq_ofNat_of_zero_le hx1
  obtain ⟨s, hs, hk⟩ := pthVals_at k (by omega)
  have hrow : w2.heap[W.heap.size]? = some (.cells pthVals 9 (0, 0)) := (hr2.grown.block _ HGL.out.2 (fun e => by have := Option.some.inj e; have := HGL.out.1; omega)).trans HRW.out
  have x0 : w2.cell? ⟨W.heap.size, k, none⟩ = some (.string s) := (cell_of_row _ _ _ _ _ _ hrow).trans hk
  have HF : Hid (Rd3 w0 a len cap g W w2) := HR1.out.trans hr2
  clear hrow hr2 hk HRW HR1 HGL HS HW1
  go_wp2_with fail
  go_ret
  exact ⟨⟨s, hs, rfl⟩, HF.out⟩
end Go.Proofs.YtbmcjoaigajjkaaDoor
