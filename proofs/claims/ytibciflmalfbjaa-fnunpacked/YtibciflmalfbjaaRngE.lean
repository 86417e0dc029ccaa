/-
  The coder of ranges: the coder at its start.
-/
import Derived.Test.YtibciflmalfbjaaRngA
import Derived.Laws.Tables
import Derived.Deep.WholeRow
namespace Go.Proofs.Ytibciflmalfbjaa
open Go.RowKit
set_option linter.unusedVariables false
set_option linter.unusedSimpArgs false
/-- width, and the number of each context -/
def coder0 : Array Value := #[.int .i64 4294967295] ++ Array.replicate 512 (.int .i64 1024)
theorem coder0_size : coder0.size = 513 := by simp [coder0]
theorem coder0_one : coder0.all (·.oneCell') = true := by
  rw [Array.all_eq_true]
  intro i hi
  unfold coder0 at hi ⊢
  rw [Array.getElem_append]
  split
  · rename_i h; simp at h; subst h; rfl
  · simp [Value.oneCell']
theorem coder0_zero : coder0[0]? = some (.int .i64 4294967295) := by
  unfold coder0
  rw [Array.getElem?_append_left (by simp)]; simp
theorem coder0_at {j : Nat} (hj : j < 512) : coder0[1 + j]? = some (.int .i64 1024) := by
  unfold coder0
  rw [Array.getElem?_append_right (by simp)]
  simp [hj]
theorem one_of_int (A : Array Value) (h : ∀ i (hi : i < A.size), ∃ x : Int, A[i] = .int .i64 x) : A.all (·.oneCell') = true := by
  rw [Array.all_eq_true]
  intro i hi
  obtain ⟨x, hx⟩ := h i hi
  rw [hx]; rfl
set_option maxRecDepth 100000 in
set_option maxHeartbeats 2000000 in
theorem started_any (w : World) :
    Calls Try.prog 62 #[] w fun e w' => e = .returned (.agg coder0) ∧ Below w.heap.size w w' := by
  have hk1 := coder0_size
  have hk2 := coder0_one
  have hk3 := coder0_zero
  have hk4 : ∀ j, j < 512 → coder0[1 + j]? = some (.int .i64 1024) := fun j hj => coder0_at hj
  generalize coder0 = K0 at hk1 hk2 hk3 hk4 ⊢
  have HK : Hid (K0.size = 513 ∧ K0.all (·.oneCell') = true ∧ K0[0]? = some (.int .i64 4294967295) ∧ ∀ j, j < 512 → K0[1 + j]? = some (.int .i64 1024)) := ⟨hk1, hk2, hk3, hk4⟩
  clear hk1 hk2 hk3 hk4
  obtain ⟨Z, hZ⟩ : ∃ Z : Array Value, Z = Array.replicate 513 (Value.int .i64 0) := ⟨_, rfl⟩
  have hz : ∀ w, (zeroValue 110).run Try.prog w = .ok (.agg Z) w := by rw [hZ]; exact (zero_of_info (n := 513) (by kernel_rfl)).1
  have hi : (Try.prog.info? 110).map (·.size) = some 513 := (zero_of_info (v := .agg (Array.replicate 513 (Value.int .i64 0))) (by kernel_rfl)).2
  have hZc : (Value.agg Z).cells = Z := by rw [hZ]; kernel_rfl
  have hZs : Z.size = 513 := by rw [hZ]; simp
  have hZ0 : ¬ Z = #[] := by intro e; rw [e] at hZs; simp at hZs
  have HI : Hid (∀ A : Array Value, A.size = 513 → (Try.prog.info? 110).map (·.size) = some A.size) := fun A h => by rw [h]; exact hi
  obtain ⟨Z1, hZ1⟩ : ∃ Z1, Z1 = Z.setIfInBounds 0 (.int .i64 4294967295) := ⟨_, rfl⟩
  have HZ1 : Hid (Z1.size = 513 ∧ Z1[0]? = some (.int .i64 4294967295) ∧ Z1.all (·.oneCell') = true ∧ Z.size = 513) := by
    refine ⟨by rw [hZ1]; simp [hZs], by rw [hZ1]; exact Array.getElem?_setIfInBounds_self_of_lt (by omega), one_of_int _ (fun i hi => ?_), hZs⟩
    subst hZ1
    rw [Array.getElem_setIfInBounds (by simpa using hi)]
    split
    · exact ⟨_, rfl⟩
    · subst hZ; exact ⟨0, by simp⟩
  have HR0 : Hid (((w.alloc (.cells Z 110)).alloc (.cells Z 110)).heap[w.heap.size + 1]? = some (.cells Z 110 (0, 0))) := by
    have h := heap_alloc_new (w.alloc (.cells Z 110)) (.cells Z 110)
    rwa [World.size_alloc] at h
  have HR1 : Hid (((w.alloc (.cells Z 110)).alloc (.cells Z 110)).heap[w.heap.size]? = some (.cells Z 110 (0, 0))) := (Below.heap_alloc _ _ _ (by simp)).trans (heap_alloc_new w _)
  have HZZ : Hid (Z1 = Z.setIfInBounds 0 (.int .i64 4294967295)) := hZ1
  clear hZ hi hZs hZ1
  go_enter Try.func62, Try.ntmps62
  go_wp2_with (rw [← HZZ.out]; refine wpList_store_row rfl 110 (.tmp 1) (.tmp 3) rfl (w.heap.size + 1) Z1 rfl rfl 110 Z HR0.out (HI.out _ HZ1.out.1) (by rw [HZ1.out.2.2.2, HZ1.out.1]) HZ1.out.2.2.1 ?_)
  go_loopw [4] (fun c wr => ∃ (i : Nat) (A : Array Value), i ≤ 512 ∧ c = .int .i64 (i : Int) ∧ Hid (wr.heap[w.heap.size + 1]? = some (.cells A 110 (0, 0)) ∧ A.size = 513 ∧ A[0]? = some (.int .i64 4294967295) ∧ (∀ j, j < i → A[1 + j]? = some (.int .i64 1024)) ∧ wr.heap[w.heap.size]? = some (.cells Z 110 (0, 0)) ∧ Below w.heap.size w wr)) (fun c _ => 512 - natOfI c)
  case atStart => exact ⟨0, Z1, by omega, rfl, setRow_heap _ _ _ _ _ _ HR0.out, HZ1.out.1, HZ1.out.2.1, fun j hj => absurd hj (by omega), (setRow_other _ _ _ _ (by omega)).trans HR1.out, ⟨rfl, rfl, rfl, by simp; omega, fun k hk => (setRow_other _ _ _ _ (by omega)).trans ((Below.heap_alloc _ _ _ (by simp; omega)).trans (Below.heap_alloc _ _ _ hk))⟩⟩
  case round =>
    obtain ⟨i, A, hi, rfl, HA⟩ := hrel
    by_cases hlt : i < 512
    · have hltI : (i : Int) < 512 := by omega
      have hrow := HA.out.1
      have hsz := HA.out.2.1
      have x0 : wr.cell? ⟨w.heap.size + 1, 1 + i, none⟩ = some A[1 + i] := (cell_of_row wr _ (1 + i) _ _ _ hrow).trans (Array.getElem?_eq_getElem (by omega))
      have z0 := frozen_of_row wr (w.heap.size + 1) (1 + i) _ _ hrow
      have HN : Hid ((wr.setCell ⟨w.heap.size + 1, 1 + i, none⟩ (.int .i64 1024)).heap[w.heap.size + 1]? = some (.cells (A.setIfInBounds (1 + i) (.int .i64 1024)) 110 (0, 0)) ∧ (A.setIfInBounds (1 + i) (.int .i64 1024)).size = 513 ∧ (A.setIfInBounds (1 + i) (.int .i64 1024))[0]? = some (.int .i64 4294967295) ∧ (∀ j, j < i + 1 → (A.setIfInBounds (1 + i) (.int .i64 1024))[1 + j]? = some (.int .i64 1024)) ∧ (wr.setCell ⟨w.heap.size + 1, 1 + i, none⟩ (.int .i64 1024)).heap[w.heap.size]? = some (.cells Z 110 (0, 0)) ∧ Below w.heap.size w (wr.setCell ⟨w.heap.size + 1, 1 + i, none⟩ (.int .i64 1024))) := by
        refine ⟨heap_setCell_same _ _ _ _ _ _ hrow, by simpa using hsz, by rw [Array.getElem?_setIfInBounds_ne (by omega)]; exact HA.out.2.2.1, fun j hj => ?_, (heap_setCell_other _ _ _ _ (by show w.heap.size ≠ w.heap.size + 1; omega)).trans HA.out.2.2.2.2.1, HA.out.2.2.2.2.2.setCell (p := ⟨w.heap.size + 1, 1 + i, none⟩) (by show w.heap.size ≤ w.heap.size + 1; omega) _⟩
        by_cases e : j = i
        · subst e; rw [Array.getElem?_setIfInBounds_self_of_lt (by omega)]
        · rw [Array.getElem?_setIfInBounds_ne (by omega)]; exact HA.out.2.2.2.1 j (by omega)
      generalize A[1 + i] = y0 at x0
      obtain ⟨q, hq⟩ : ∃ q, q = 1 + i := ⟨_, rfl⟩
      have hq1 : 1 + i = q := hq.symm
      have hq2 : i + 1 = q := by omega
      have HQ : Hid (q = 1 + i) := hq
      rw [hq1] at x0 z0 HN
      clear hrow hsz hq
      go_wp2_with fail
      go_roundw
      case rel => exact ⟨i + 1, _, by omega, by have := HQ.out; first | rfl | (congr 1; omega), HN⟩
      case measure => simp [natOfI]; have := HQ.out; omega
    · obtain rfl : i = 512 := by omega
      have hA : A = K0 := by
        apply Array.ext_getElem?
        intro k
        by_cases k0 : k = 0
        · subst k0; rw [HA.out.2.2.1, HK.out.2.2.1]
        · by_cases k5 : k < 513
          · obtain ⟨j, rfl⟩ : ∃ j, k = 1 + j := ⟨k - 1, by omega⟩
            rw [HA.out.2.2.2.1 j (by omega), HK.out.2.2.2 j (by omega)]
          · rw [Array.getElem?_eq_none (by rw [HA.out.2.1]; omega), Array.getElem?_eq_none (by rw [HK.out.1]; omega)]
      subst hA
      have HF : Hid ((wr.setRow w.heap.size A).heap[w.heap.size]? = some (.cells A 110 (0, 0)) ∧ Below w.heap.size w (wr.setRow w.heap.size A)) :=
        ⟨setRow_heap _ _ _ _ _ _ HA.out.2.2.2.2.1, ⟨HA.out.2.2.2.2.2.os, HA.out.2.2.2.2.2.tape, HA.out.2.2.2.2.2.output, by simpa using HA.out.2.2.2.2.2.size, fun k hk => (setRow_other _ _ _ _ (by omega)).trans (HA.out.2.2.2.2.2.block k hk)⟩⟩
      go_wp2_with (first
        | (refine wpList_load_row rfl 110 _ rfl (w.heap.size + 1) rfl 110 A (0, 0) _ HA.out.1 Try.underlying110 rfl (HI.out _ HK.out.1) ?_)
        | (refine wpList_store_row rfl 110 (.tmp 0) (.tmp 11) rfl w.heap.size A rfl rfl 110 Z HA.out.2.2.2.2.1 (HI.out _ HK.out.1) (by rw [HZ1.out.2.2.2, HK.out.1]) HK.out.2.1 ?_))
      exact bodyPost_ret (results_cell_row rfl _ _ w.heap.size 110 A (0, 0) _ rfl HF.out.1 Try.underlying110 rfl (HI.out _ HK.out.1)) rfl ⟨rfl, HF.out.2⟩
end Go.Proofs.Ytibciflmalfbjaa
