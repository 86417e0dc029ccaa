/-
  The coder of ranges: what a choice makes of width and of its context's number.
-/
import Derived.Test.YtibciflmalfbjaaRngC
import Derived.Test.YtibciflmalfbjaaHeld
import Derived.BigRegion
import Derived.Laws.Rows
namespace Go.Proofs.Ytibciflmalfbjaa
open Go.RowKit
set_option linter.unusedVariables false
set_option linter.unusedSimpArgs false
/-- the coder's cells behind a choice -/
def narC (C : Array Value) (x wd' p' : Nat) : Array Value := (C.setIfInBounds 0 (.int .i64 (wd' : Int))).setIfInBounds (1 + x) (.int .i64 (p' : Int))
theorem grownBy_setC (w : World) (g t : Nat) (v : Value) : w.grownBy (w.setCell ⟨g, t, none⟩ v) (some g) :=
  ⟨rfl, rfl, rfl, by simp, fun k hk hne => heap_setCell_other _ _ _ _ (fun e => hne (by rw [e]))⟩
set_option maxRecDepth 100000 in
set_option maxHeartbeats 2000000 in
theorem narrow_zero (g wd x p bd : Nat) (C : Array Value) (T : TypeId) (w : World) (hx : x < 512) (hp : 1 ≤ p ∧ p ≤ 2047) (hrow : w.heap[g]? = some (.cells C T (0, 0)))
    (x0 : C[0]? = some (.int .i64 (wd : Int))) (x1 : C[1 + x]? = some (.int .i64 (p : Int))) :
    Calls Try.prog 76 #[.pointer (some ⟨g, 0, none⟩), .agg #[.int .i64 (x : Int), .int .i64 0], .int .i64 (bd : Int)] w fun e w' => (∃ v, e = .returned v) ∧ w'.heap[g]? = some (.cells (narC C x bd (movP p 0)) T (0, 0)) ∧ w.grownBy w' (some g) := by
  have HM : Hid (∀ w, Calls Try.prog 85 #[.int .i64 (p : Int), .int .i64 0] w fun e w' => e = .returned (.int .i64 ((movP p 0 : Nat) : Int)) ∧ w' = w) := fun w => by rw [← movI_nat hp (Or.inl rfl)]; exact moved_any _ _ w
  generalize movP p 0 = p' at HM ⊢
  have HGL : Hid (g < w.heap.size) := (Array.getElem?_eq_some_iff.1 hrow).1
  have HROW : Hid (w.heap[g]? = some (.cells C T (0, 0))) := hrow
  have HX1 : Hid (C[1 + x]? = some (.int .i64 (p : Int))) := x1
  have c0 : w.cell? ⟨g, 0, none⟩ = some (.int .i64 (wd : Int)) := (cell_of_row w g 0 _ _ _ hrow).trans x0
  have z0 := frozen_of_row w g 0 _ _ hrow
  have hgl := HGL.out
  have hgne : ¬ g = w.heap.size := by omega
  have hxI : (x : Int) < 512 := by omega
  clear hrow x0 x1
  go_enter Try.func76, Try.ntmps76
  go_wp2_with fail
  obtain ⟨S, hSS⟩ : ∃ S : World → Prop, S = fun w' => w'.cell? ⟨w.heap.size, 0, none⟩ = some (.int .i64 (x : Int)) ∧ w'.cell? ⟨w.heap.size, 1, none⟩ = some (.int .i64 0) := ⟨_, rfl⟩
  have HS : Hid (S = fun w' => w'.cell? ⟨w.heap.size, 0, none⟩ = some (.int .i64 (x : Int)) ∧ w'.cell? ⟨w.heap.size, 1, none⟩ = some (.int .i64 0)) := hSS
  obtain ⟨W2, hW2⟩ : ∃ W2, W2 = (w.setCell ⟨g, 0, none⟩ (.int .i64 (bd : Int))).alloc (.cells #[.int .i64 (x : Int), .int .i64 0] 106) := ⟨_, rfl⟩
  have hrow2 : W2.heap[g]? = some (.cells (C.setIfInBounds 0 (.int .i64 (bd : Int))) T (0, 0)) := by rw [hW2, Below.heap_alloc _ _ _ (by simpa using HGL.out)]; exact heap_setCell_same _ _ _ _ _ _ HROW.out
  have hbox2 : W2.heap[w.heap.size]? = some (.cells #[.int .i64 (x : Int), .int .i64 0] 106 (0, 0)) := by rw [hW2]; have h := heap_alloc_new (w.setCell ⟨g, 0, none⟩ (.int .i64 (bd : Int))) (.cells #[.int .i64 (x : Int), .int .i64 0] 106); simpa using h
  have hgr2 : w.grownBy W2 (some g) := by rw [hW2]; exact (grownBy_setC w g 0 _).trans (World.grownBy_alloc _ _ _)
  have hp2 : W2.cell? ⟨g, 1 + x, none⟩ = some (.int .i64 (p : Int)) := (cell_of_row W2 g (1 + x) _ _ _ hrow2).trans ((Array.getElem?_setIfInBounds_ne (by omega)).trans HX1.out)
  have hf2 := frozen_of_row W2 g (1 + x) _ _ hrow2
  have HW : Hid (W2.heap[g]? = some (.cells (C.setIfInBounds 0 (.int .i64 (bd : Int))) T (0, 0)) ∧ w.grownBy W2 (some g)) := ⟨hrow2, hgr2⟩
  have hSd : S W2.drew := by rw [hSS]; exact ⟨cell_of_row W2 _ 0 _ _ _ hbox2, cell_of_row W2 _ 1 _ _ _ hbox2⟩
  have HBX : Hid (W2.heap[w.heap.size]? = some (.cells #[.int .i64 (x : Int), .int .i64 0] 106 (0, 0))) := hbox2
  have HX0 : Hid (∀ w', S w' → w'.cell? ⟨w.heap.size, 0, none⟩ = some (.int .i64 (x : Int))) := fun w' h => by rw [hSS] at h; exact h.1
  have HX2 : Hid (∀ w', S w' → w'.cell? ⟨w.heap.size, 1, none⟩ = some (.int .i64 0)) := fun w' h => by rw [hSS] at h; exact h.2
  rw [← hW2]
  clear hSS hW2 hrow2 hbox2 hgr2 c0 z0
  obtain ⟨q, hq⟩ : ∃ q, q = 1 + x := ⟨_, rfl⟩
  have hxq : x + 1 = q := by omega
  have HQ : Hid (q = 1 + x) := hq
  have hxq2 : 1 + x = q := by omega
  rw [hxq2] at hp2 hf2
  clear hq
  refine wp_region_held (S := S) (by kernel_rfl) ?_
  change wpAnyH _ _ _ _ _ _ _ _ (World.drew _)
  refine wpAnyH_take (i := 0) (v := .pointer (some ⟨g, 0, none⟩)) rfl (by kernel_rfl) (by kernel_rfl) (by kernel_rfl) (fun _ _ _ h => h) (Or.inl ⟨by rfl, by intro w' hS'; go_simp <;> (first | omega | (rw [IntKind.wrap_i64]; omega) | (rw [IntKind.wrap_u64]; omega) | (rw [IntKind.wrap_u32]; omega) | (rw [Int.tmod_eq_emod_of_nonneg (by omega)]))⟩) hSd ?_
  (try simp only [List.getElem_toArray, List.getElem_cons_succ, List.getElem_cons_zero, Act.put, List.setIfInBounds_toArray, List.set_cons_zero, List.set_cons_succ])
  refine wpAnyH_take (i := 1) (v := .pointer (some ⟨w.heap.size, 0, none⟩)) rfl (by kernel_rfl) (by kernel_rfl) (by kernel_rfl) (fun _ _ _ h => h) (Or.inl ⟨by rfl, by intro w' hS'; go_simp <;> (first | omega | (rw [IntKind.wrap_i64]; omega) | (rw [IntKind.wrap_u64]; omega) | (rw [IntKind.wrap_u32]; omega) | (rw [Int.tmod_eq_emod_of_nonneg (by omega)]))⟩) hSd ?_
  (try simp only [List.getElem_toArray, List.getElem_cons_succ, List.getElem_cons_zero, Act.put, List.setIfInBounds_toArray, List.set_cons_zero, List.set_cons_succ])
  refine wpAnyH_take (i := 2) (v := .int .i64 (x : Int)) rfl (by kernel_rfl) (by kernel_rfl) (by kernel_rfl) (fun _ _ _ h => h) (Or.inl ⟨by rfl, by intro w' hS'; have hxx := HX0.out w' hS'; go_simp <;> (first | omega | (rw [IntKind.wrap_i64]; omega) | (rw [IntKind.wrap_u64]; omega) | (rw [IntKind.wrap_u32]; omega) | (rw [Int.tmod_eq_emod_of_nonneg (by omega)]))⟩) hSd ?_
  (try simp only [List.getElem_toArray, List.getElem_cons_succ, List.getElem_cons_zero, Act.put, List.setIfInBounds_toArray, List.set_cons_zero, List.set_cons_succ])
  refine wpAnyH_take (i := 3) (v := .pointer (some ⟨g, 0, none⟩)) rfl (by kernel_rfl) (by kernel_rfl) (by kernel_rfl) (fun _ _ _ h => h) (Or.inl ⟨by rfl, by intro w' hS'; go_simp <;> (first | omega | (rw [IntKind.wrap_i64]; omega) | (rw [IntKind.wrap_u64]; omega) | (rw [IntKind.wrap_u32]; omega) | (rw [Int.tmod_eq_emod_of_nonneg (by omega)]))⟩) hSd ?_
  (try simp only [List.getElem_toArray, List.getElem_cons_succ, List.getElem_cons_zero, Act.put, List.setIfInBounds_toArray, List.set_cons_zero, List.set_cons_succ])
  refine wpAnyH_take (i := 4) (v := .pointer (some ⟨w.heap.size, 0, none⟩)) rfl (by kernel_rfl) (by kernel_rfl) (by kernel_rfl) (fun _ _ _ h => h) (Or.inl ⟨by rfl, by intro w' hS'; go_simp <;> (first | omega | (rw [IntKind.wrap_i64]; omega) | (rw [IntKind.wrap_u64]; omega) | (rw [IntKind.wrap_u32]; omega) | (rw [Int.tmod_eq_emod_of_nonneg (by omega)]))⟩) hSd ?_
  (try simp only [List.getElem_toArray, List.getElem_cons_succ, List.getElem_cons_zero, Act.put, List.setIfInBounds_toArray, List.set_cons_zero, List.set_cons_succ])
  refine wpAnyH_take (i := 5) (v := .int .i64 (x : Int)) rfl (by kernel_rfl) (by kernel_rfl) (by kernel_rfl) (fun _ _ _ h => h) (Or.inl ⟨by rfl, by intro w' hS'; have hxx := HX0.out w' hS'; go_simp <;> (first | omega | (rw [IntKind.wrap_i64]; omega) | (rw [IntKind.wrap_u64]; omega) | (rw [IntKind.wrap_u32]; omega) | (rw [Int.tmod_eq_emod_of_nonneg (by omega)]))⟩) hSd ?_
  (try simp only [List.getElem_toArray, List.getElem_cons_succ, List.getElem_cons_zero, Act.put, List.setIfInBounds_toArray, List.set_cons_zero, List.set_cons_succ])
  refine wpAnyH_take (i := 6) (v := .pointer (some ⟨g, 0, none⟩)) rfl (by kernel_rfl) (by kernel_rfl) (by kernel_rfl) (fun _ _ _ h => h) (Or.inl ⟨by rfl, by intro w' hS'; go_simp <;> (first | omega | (rw [IntKind.wrap_i64]; omega) | (rw [IntKind.wrap_u64]; omega) | (rw [IntKind.wrap_u32]; omega) | (rw [Int.tmod_eq_emod_of_nonneg (by omega)]))⟩) hSd ?_
  (try simp only [List.getElem_toArray, List.getElem_cons_succ, List.getElem_cons_zero, Act.put, List.setIfInBounds_toArray, List.set_cons_zero, List.set_cons_succ])
  refine wpAnyH_take (i := 7) (v := .pointer (some ⟨g, 1, none⟩)) rfl (by kernel_rfl) (by kernel_rfl) (by kernel_rfl) (fun _ _ _ h => h) (Or.inl ⟨by rfl, by intro w' hS'; go_simp <;> (first | omega | (rw [IntKind.wrap_i64]; omega) | (rw [IntKind.wrap_u64]; omega) | (rw [IntKind.wrap_u32]; omega) | (rw [Int.tmod_eq_emod_of_nonneg (by omega)]))⟩) hSd ?_
  (try simp only [List.getElem_toArray, List.getElem_cons_succ, List.getElem_cons_zero, Act.put, List.setIfInBounds_toArray, List.set_cons_zero, List.set_cons_succ])
  refine wpAnyH_take (i := 8) (v := .pointer (some ⟨g, q, none⟩)) rfl (by kernel_rfl) (by kernel_rfl) (by kernel_rfl) (fun _ _ _ h => h) (Or.inl ⟨by rfl, by intro w' hS'; go_simp <;> (first | omega | (rw [IntKind.wrap_i64]; omega) | (rw [IntKind.wrap_u64]; omega) | (rw [IntKind.wrap_u32]; omega) | (rw [Int.tmod_eq_emod_of_nonneg (by omega)]))⟩) hSd ?_
  (try simp only [List.getElem_toArray, List.getElem_cons_succ, List.getElem_cons_zero, Act.put, List.setIfInBounds_toArray, List.set_cons_zero, List.set_cons_succ])
  refine wpAnyH_take (i := 10) (v := .pointer (some ⟨w.heap.size, 1, none⟩)) rfl (by kernel_rfl) (by kernel_rfl) (by kernel_rfl) (fun _ _ _ h => h) (Or.inl ⟨by rfl, by intro w' hS'; go_simp <;> (first | omega | (rw [IntKind.wrap_i64]; omega) | (rw [IntKind.wrap_u64]; omega) | (rw [IntKind.wrap_u32]; omega) | (rw [Int.tmod_eq_emod_of_nonneg (by omega)]))⟩) hSd ?_
  (try simp only [List.getElem_toArray, List.getElem_cons_succ, List.getElem_cons_zero, Act.put, List.setIfInBounds_toArray, List.set_cons_zero, List.set_cons_succ])
  refine wpAnyH_take (i := 11) (v := .int .i64 0) rfl (by kernel_rfl) (by kernel_rfl) (by kernel_rfl) (fun _ _ _ h => h) (Or.inl ⟨by rfl, by intro w' hS'; have hxx := HX2.out w' hS'; go_simp <;> (first | omega | (rw [IntKind.wrap_i64]; omega) | (rw [IntKind.wrap_u64]; omega) | (rw [IntKind.wrap_u32]; omega) | (rw [Int.tmod_eq_emod_of_nonneg (by omega)]))⟩) hSd ?_
  (try simp only [List.getElem_toArray, List.getElem_cons_succ, List.getElem_cons_zero, Act.put, List.setIfInBounds_toArray, List.set_cons_zero, List.set_cons_succ])
  refine wpAnyH_take (i := 13) (v := .pointer (some ⟨g, 0, none⟩)) rfl (by kernel_rfl) (by kernel_rfl) (by kernel_rfl) (fun _ _ _ h => h) (Or.inl ⟨by rfl, by intro w' hS'; go_simp <;> (first | omega | (rw [IntKind.wrap_i64]; omega) | (rw [IntKind.wrap_u64]; omega) | (rw [IntKind.wrap_u32]; omega) | (rw [Int.tmod_eq_emod_of_nonneg (by omega)]))⟩) hSd ?_
  (try simp only [List.getElem_toArray, List.getElem_cons_succ, List.getElem_cons_zero, Act.put, List.setIfInBounds_toArray, List.set_cons_zero, List.set_cons_succ])
  refine wpAnyH_take (i := 14) (v := .pointer (some ⟨g, 1, none⟩)) rfl (by kernel_rfl) (by kernel_rfl) (by kernel_rfl) (fun _ _ _ h => h) (Or.inl ⟨by rfl, by intro w' hS'; go_simp <;> (first | omega | (rw [IntKind.wrap_i64]; omega) | (rw [IntKind.wrap_u64]; omega) | (rw [IntKind.wrap_u32]; omega) | (rw [Int.tmod_eq_emod_of_nonneg (by omega)]))⟩) hSd ?_
  (try simp only [List.getElem_toArray, List.getElem_cons_succ, List.getElem_cons_zero, Act.put, List.setIfInBounds_toArray, List.set_cons_zero, List.set_cons_succ])
  refine held_stepS (i := 9) (by kernel_rfl) rfl (by rfl) ?_
  go_simp
  refine ⟨hSd, ?_⟩
  (try simp only [List.getElem_toArray, List.getElem_cons_succ, List.getElem_cons_zero, Act.put, List.setIfInBounds_toArray, List.set_cons_zero, List.set_cons_succ])
  refine held_stepS (i := 12) (by kernel_rfl) rfl (by rfl) ?_
  go_simp
  refine (HM.out _).mono ?_
  rintro e w3 ⟨rfl, hw3⟩
  subst w3
  refine ⟨hSd, ?_⟩
  (try simp only [List.getElem_toArray, List.getElem_cons_succ, List.getElem_cons_zero, Act.put, List.setIfInBounds_toArray, List.set_cons_zero, List.set_cons_succ])
  refine wpAnyH_take (i := 15) (v := .pointer (some ⟨g, q, none⟩)) rfl (by kernel_rfl) (by kernel_rfl) (by kernel_rfl) (fun _ _ _ h => h) (Or.inl ⟨by rfl, by intro w' hS'; go_simp <;> (first | omega | (rw [IntKind.wrap_i64]; omega) | (rw [IntKind.wrap_u64]; omega) | (rw [IntKind.wrap_u32]; omega) | (rw [Int.tmod_eq_emod_of_nonneg (by omega)]))⟩) hSd ?_
  (try simp only [List.getElem_toArray, List.getElem_cons_succ, List.getElem_cons_zero, Act.put, List.setIfInBounds_toArray, List.set_cons_zero, List.set_cons_succ])
  refine held_stepS (i := 16) (by kernel_rfl) rfl (by rfl) ?_
  go_simp
  refine ⟨by rw [HS.out]; exact ⟨cell_of_row _ _ 0 _ _ _ ((heap_setCell_other _ _ _ _ (by have := HGL.out; show w.heap.size ≠ g; omega)).trans HBX.out), cell_of_row _ _ 1 _ _ _ ((heap_setCell_other _ _ _ _ (by have := HGL.out; show w.heap.size ≠ g; omega)).trans HBX.out)⟩, ?_⟩
  (try simp only [List.getElem_toArray, List.getElem_cons_succ, List.getElem_cons_zero, Act.put, List.setIfInBounds_toArray, List.set_cons_zero, List.set_cons_succ])
  refine wpAnyH_done (by kernel_rfl) ?_ _
  go_wp2_with fail
  go_end0
  refine ⟨⟨_, rfl⟩, ?_, ?_⟩
  · unfold narC; rw [← HQ.out]; show (W2.setCell ⟨g, q, none⟩ _).heap[g]? = _; exact heap_setCell_same _ _ _ _ _ _ HW.out.1
  · exact (HW.out.2.trans (grownBy_setC W2 g q _)).trans ⟨rfl, rfl, rfl, Nat.le_refl _, fun _ _ _ => rfl⟩

set_option maxRecDepth 100000 in
set_option maxHeartbeats 2000000 in
theorem narrow_one (g wd x p bd : Nat) (C : Array Value) (T : TypeId) (w : World) (hw : wd < 4294967296) (hbd : bd ≤ wd) (hx : x < 512) (hp : 1 ≤ p ∧ p ≤ 2047) (hrow : w.heap[g]? = some (.cells C T (0, 0)))
    (x0 : C[0]? = some (.int .i64 (wd : Int))) (x1 : C[1 + x]? = some (.int .i64 (p : Int))) :
    Calls Try.prog 76 #[.pointer (some ⟨g, 0, none⟩), .agg #[.int .i64 (x : Int), .int .i64 1], .int .i64 (bd : Int)] w fun e w' => (∃ v, e = .returned v) ∧ w'.heap[g]? = some (.cells (narC C x (wd - bd) (movP p 1)) T (0, 0)) ∧ w.grownBy w' (some g) := by
  have HM : Hid (∀ w, Calls Try.prog 85 #[.int .i64 (p : Int), .int .i64 1] w fun e w' => e = .returned (.int .i64 ((movP p 1 : Nat) : Int)) ∧ w' = w) := fun w => by rw [← movI_nat hp (Or.inr rfl)]; exact moved_any _ _ w
  generalize movP p 1 = p' at HM ⊢
  obtain ⟨d, hd⟩ : ∃ d, d = wd - bd := ⟨_, rfl⟩
  have hdI : (wd : Int) - (bd : Int) = (d : Int) := by omega
  have hdw : IntKind.i64.wrap (d : Int) = (d : Int) := by rw [IntKind.wrap_i64]; omega
  rw [← hd]
  have HGL : Hid (g < w.heap.size) := (Array.getElem?_eq_some_iff.1 hrow).1
  have HROW : Hid (w.heap[g]? = some (.cells C T (0, 0))) := hrow
  have HX1 : Hid (C[1 + x]? = some (.int .i64 (p : Int))) := x1
  have c0 : w.cell? ⟨g, 0, none⟩ = some (.int .i64 (wd : Int)) := (cell_of_row w g 0 _ _ _ hrow).trans x0
  have z0 := frozen_of_row w g 0 _ _ hrow
  have hgl := HGL.out
  have hgne : ¬ g = w.heap.size := by omega
  have hxI : (x : Int) < 512 := by omega
  clear hrow x0 x1 hd
  go_enter Try.func76, Try.ntmps76
  go_wp2_with fail
  obtain ⟨S, hSS⟩ : ∃ S : World → Prop, S = fun w' => w'.cell? ⟨w.heap.size, 0, none⟩ = some (.int .i64 (x : Int)) ∧ w'.cell? ⟨w.heap.size, 1, none⟩ = some (.int .i64 1) := ⟨_, rfl⟩
  have HS : Hid (S = fun w' => w'.cell? ⟨w.heap.size, 0, none⟩ = some (.int .i64 (x : Int)) ∧ w'.cell? ⟨w.heap.size, 1, none⟩ = some (.int .i64 1)) := hSS
  obtain ⟨W2, hW2⟩ : ∃ W2, W2 = (w.setCell ⟨g, 0, none⟩ (.int .i64 (d : Int))).alloc (.cells #[.int .i64 (x : Int), .int .i64 1] 106) := ⟨_, rfl⟩
  have hrow2 : W2.heap[g]? = some (.cells (C.setIfInBounds 0 (.int .i64 (d : Int))) T (0, 0)) := by rw [hW2, Below.heap_alloc _ _ _ (by simpa using HGL.out)]; exact heap_setCell_same _ _ _ _ _ _ HROW.out
  have hbox2 : W2.heap[w.heap.size]? = some (.cells #[.int .i64 (x : Int), .int .i64 1] 106 (0, 0)) := by rw [hW2]; have h := heap_alloc_new (w.setCell ⟨g, 0, none⟩ (.int .i64 (d : Int))) (.cells #[.int .i64 (x : Int), .int .i64 1] 106); simpa using h
  have hgr2 : w.grownBy W2 (some g) := by rw [hW2]; exact (grownBy_setC w g 0 _).trans (World.grownBy_alloc _ _ _)
  have hp2 : W2.cell? ⟨g, 1 + x, none⟩ = some (.int .i64 (p : Int)) := (cell_of_row W2 g (1 + x) _ _ _ hrow2).trans ((Array.getElem?_setIfInBounds_ne (by omega)).trans HX1.out)
  have hf2 := frozen_of_row W2 g (1 + x) _ _ hrow2
  have HW : Hid (W2.heap[g]? = some (.cells (C.setIfInBounds 0 (.int .i64 (d : Int))) T (0, 0)) ∧ w.grownBy W2 (some g)) := ⟨hrow2, hgr2⟩
  have hSd : S W2.drew := by rw [hSS]; exact ⟨cell_of_row W2 _ 0 _ _ _ hbox2, cell_of_row W2 _ 1 _ _ _ hbox2⟩
  have HBX : Hid (W2.heap[w.heap.size]? = some (.cells #[.int .i64 (x : Int), .int .i64 1] 106 (0, 0))) := hbox2
  have HX0 : Hid (∀ w', S w' → w'.cell? ⟨w.heap.size, 0, none⟩ = some (.int .i64 (x : Int))) := fun w' h => by rw [hSS] at h; exact h.1
  have HX2 : Hid (∀ w', S w' → w'.cell? ⟨w.heap.size, 1, none⟩ = some (.int .i64 1)) := fun w' h => by rw [hSS] at h; exact h.2
  rw [← hW2]
  clear hSS hW2 hrow2 hbox2 hgr2 c0 z0
  obtain ⟨q, hq⟩ : ∃ q, q = 1 + x := ⟨_, rfl⟩
  have hxq : x + 1 = q := by omega
  have HQ : Hid (q = 1 + x) := hq
  have hxq2 : 1 + x = q := by omega
  rw [hxq2] at hp2 hf2
  clear hq
  refine wp_region_held (S := S) (by kernel_rfl) ?_
  change wpAnyH _ _ _ _ _ _ _ _ (World.drew _)
  refine wpAnyH_take (i := 0) (v := .pointer (some ⟨g, 0, none⟩)) rfl (by kernel_rfl) (by kernel_rfl) (by kernel_rfl) (fun _ _ _ h => h) (Or.inl ⟨by rfl, by intro w' hS'; go_simp <;> (first | omega | (rw [IntKind.wrap_i64]; omega) | (rw [IntKind.wrap_u64]; omega) | (rw [IntKind.wrap_u32]; omega) | (rw [Int.tmod_eq_emod_of_nonneg (by omega)]))⟩) hSd ?_
  (try simp only [List.getElem_toArray, List.getElem_cons_succ, List.getElem_cons_zero, Act.put, List.setIfInBounds_toArray, List.set_cons_zero, List.set_cons_succ])
  refine wpAnyH_take (i := 1) (v := .pointer (some ⟨w.heap.size, 0, none⟩)) rfl (by kernel_rfl) (by kernel_rfl) (by kernel_rfl) (fun _ _ _ h => h) (Or.inl ⟨by rfl, by intro w' hS'; go_simp <;> (first | omega | (rw [IntKind.wrap_i64]; omega) | (rw [IntKind.wrap_u64]; omega) | (rw [IntKind.wrap_u32]; omega) | (rw [Int.tmod_eq_emod_of_nonneg (by omega)]))⟩) hSd ?_
  (try simp only [List.getElem_toArray, List.getElem_cons_succ, List.getElem_cons_zero, Act.put, List.setIfInBounds_toArray, List.set_cons_zero, List.set_cons_succ])
  refine wpAnyH_take (i := 2) (v := .int .i64 (x : Int)) rfl (by kernel_rfl) (by kernel_rfl) (by kernel_rfl) (fun _ _ _ h => h) (Or.inl ⟨by rfl, by intro w' hS'; have hxx := HX0.out w' hS'; go_simp <;> (first | omega | (rw [IntKind.wrap_i64]; omega) | (rw [IntKind.wrap_u64]; omega) | (rw [IntKind.wrap_u32]; omega) | (rw [Int.tmod_eq_emod_of_nonneg (by omega)]))⟩) hSd ?_
  (try simp only [List.getElem_toArray, List.getElem_cons_succ, List.getElem_cons_zero, Act.put, List.setIfInBounds_toArray, List.set_cons_zero, List.set_cons_succ])
  refine wpAnyH_take (i := 3) (v := .pointer (some ⟨g, 0, none⟩)) rfl (by kernel_rfl) (by kernel_rfl) (by kernel_rfl) (fun _ _ _ h => h) (Or.inl ⟨by rfl, by intro w' hS'; go_simp <;> (first | omega | (rw [IntKind.wrap_i64]; omega) | (rw [IntKind.wrap_u64]; omega) | (rw [IntKind.wrap_u32]; omega) | (rw [Int.tmod_eq_emod_of_nonneg (by omega)]))⟩) hSd ?_
  (try simp only [List.getElem_toArray, List.getElem_cons_succ, List.getElem_cons_zero, Act.put, List.setIfInBounds_toArray, List.set_cons_zero, List.set_cons_succ])
  refine wpAnyH_take (i := 4) (v := .pointer (some ⟨w.heap.size, 0, none⟩)) rfl (by kernel_rfl) (by kernel_rfl) (by kernel_rfl) (fun _ _ _ h => h) (Or.inl ⟨by rfl, by intro w' hS'; go_simp <;> (first | omega | (rw [IntKind.wrap_i64]; omega) | (rw [IntKind.wrap_u64]; omega) | (rw [IntKind.wrap_u32]; omega) | (rw [Int.tmod_eq_emod_of_nonneg (by omega)]))⟩) hSd ?_
  (try simp only [List.getElem_toArray, List.getElem_cons_succ, List.getElem_cons_zero, Act.put, List.setIfInBounds_toArray, List.set_cons_zero, List.set_cons_succ])
  refine wpAnyH_take (i := 5) (v := .int .i64 (x : Int)) rfl (by kernel_rfl) (by kernel_rfl) (by kernel_rfl) (fun _ _ _ h => h) (Or.inl ⟨by rfl, by intro w' hS'; have hxx := HX0.out w' hS'; go_simp <;> (first | omega | (rw [IntKind.wrap_i64]; omega) | (rw [IntKind.wrap_u64]; omega) | (rw [IntKind.wrap_u32]; omega) | (rw [Int.tmod_eq_emod_of_nonneg (by omega)]))⟩) hSd ?_
  (try simp only [List.getElem_toArray, List.getElem_cons_succ, List.getElem_cons_zero, Act.put, List.setIfInBounds_toArray, List.set_cons_zero, List.set_cons_succ])
  refine wpAnyH_take (i := 6) (v := .pointer (some ⟨g, 0, none⟩)) rfl (by kernel_rfl) (by kernel_rfl) (by kernel_rfl) (fun _ _ _ h => h) (Or.inl ⟨by rfl, by intro w' hS'; go_simp <;> (first | omega | (rw [IntKind.wrap_i64]; omega) | (rw [IntKind.wrap_u64]; omega) | (rw [IntKind.wrap_u32]; omega) | (rw [Int.tmod_eq_emod_of_nonneg (by omega)]))⟩) hSd ?_
  (try simp only [List.getElem_toArray, List.getElem_cons_succ, List.getElem_cons_zero, Act.put, List.setIfInBounds_toArray, List.set_cons_zero, List.set_cons_succ])
  refine wpAnyH_take (i := 7) (v := .pointer (some ⟨g, 1, none⟩)) rfl (by kernel_rfl) (by kernel_rfl) (by kernel_rfl) (fun _ _ _ h => h) (Or.inl ⟨by rfl, by intro w' hS'; go_simp <;> (first | omega | (rw [IntKind.wrap_i64]; omega) | (rw [IntKind.wrap_u64]; omega) | (rw [IntKind.wrap_u32]; omega) | (rw [Int.tmod_eq_emod_of_nonneg (by omega)]))⟩) hSd ?_
  (try simp only [List.getElem_toArray, List.getElem_cons_succ, List.getElem_cons_zero, Act.put, List.setIfInBounds_toArray, List.set_cons_zero, List.set_cons_succ])
  refine wpAnyH_take (i := 8) (v := .pointer (some ⟨g, q, none⟩)) rfl (by kernel_rfl) (by kernel_rfl) (by kernel_rfl) (fun _ _ _ h => h) (Or.inl ⟨by rfl, by intro w' hS'; go_simp <;> (first | omega | (rw [IntKind.wrap_i64]; omega) | (rw [IntKind.wrap_u64]; omega) | (rw [IntKind.wrap_u32]; omega) | (rw [Int.tmod_eq_emod_of_nonneg (by omega)]))⟩) hSd ?_
  (try simp only [List.getElem_toArray, List.getElem_cons_succ, List.getElem_cons_zero, Act.put, List.setIfInBounds_toArray, List.set_cons_zero, List.set_cons_succ])
  refine wpAnyH_take (i := 10) (v := .pointer (some ⟨w.heap.size, 1, none⟩)) rfl (by kernel_rfl) (by kernel_rfl) (by kernel_rfl) (fun _ _ _ h => h) (Or.inl ⟨by rfl, by intro w' hS'; go_simp <;> (first | omega | (rw [IntKind.wrap_i64]; omega) | (rw [IntKind.wrap_u64]; omega) | (rw [IntKind.wrap_u32]; omega) | (rw [Int.tmod_eq_emod_of_nonneg (by omega)]))⟩) hSd ?_
  (try simp only [List.getElem_toArray, List.getElem_cons_succ, List.getElem_cons_zero, Act.put, List.setIfInBounds_toArray, List.set_cons_zero, List.set_cons_succ])
  refine wpAnyH_take (i := 11) (v := .int .i64 1) rfl (by kernel_rfl) (by kernel_rfl) (by kernel_rfl) (fun _ _ _ h => h) (Or.inl ⟨by rfl, by intro w' hS'; have hxx := HX2.out w' hS'; go_simp <;> (first | omega | (rw [IntKind.wrap_i64]; omega) | (rw [IntKind.wrap_u64]; omega) | (rw [IntKind.wrap_u32]; omega) | (rw [Int.tmod_eq_emod_of_nonneg (by omega)]))⟩) hSd ?_
  (try simp only [List.getElem_toArray, List.getElem_cons_succ, List.getElem_cons_zero, Act.put, List.setIfInBounds_toArray, List.set_cons_zero, List.set_cons_succ])
  refine wpAnyH_take (i := 13) (v := .pointer (some ⟨g, 0, none⟩)) rfl (by kernel_rfl) (by kernel_rfl) (by kernel_rfl) (fun _ _ _ h => h) (Or.inl ⟨by rfl, by intro w' hS'; go_simp <;> (first | omega | (rw [IntKind.wrap_i64]; omega) | (rw [IntKind.wrap_u64]; omega) | (rw [IntKind.wrap_u32]; omega) | (rw [Int.tmod_eq_emod_of_nonneg (by omega)]))⟩) hSd ?_
  (try simp only [List.getElem_toArray, List.getElem_cons_succ, List.getElem_cons_zero, Act.put, List.setIfInBounds_toArray, List.set_cons_zero, List.set_cons_succ])
  refine wpAnyH_take (i := 14) (v := .pointer (some ⟨g, 1, none⟩)) rfl (by kernel_rfl) (by kernel_rfl) (by kernel_rfl) (fun _ _ _ h => h) (Or.inl ⟨by rfl, by intro w' hS'; go_simp <;> (first | omega | (rw [IntKind.wrap_i64]; omega) | (rw [IntKind.wrap_u64]; omega) | (rw [IntKind.wrap_u32]; omega) | (rw [Int.tmod_eq_emod_of_nonneg (by omega)]))⟩) hSd ?_
  (try simp only [List.getElem_toArray, List.getElem_cons_succ, List.getElem_cons_zero, Act.put, List.setIfInBounds_toArray, List.set_cons_zero, List.set_cons_succ])
  refine held_stepS (i := 9) (by kernel_rfl) rfl (by rfl) ?_
  go_simp
  refine ⟨hSd, ?_⟩
  (try simp only [List.getElem_toArray, List.getElem_cons_succ, List.getElem_cons_zero, Act.put, List.setIfInBounds_toArray, List.set_cons_zero, List.set_cons_succ])
  refine held_stepS (i := 12) (by kernel_rfl) rfl (by rfl) ?_
  go_simp
  refine (HM.out _).mono ?_
  rintro e w3 ⟨rfl, hw3⟩
  subst w3
  refine ⟨hSd, ?_⟩
  (try simp only [List.getElem_toArray, List.getElem_cons_succ, List.getElem_cons_zero, Act.put, List.setIfInBounds_toArray, List.set_cons_zero, List.set_cons_succ])
  refine wpAnyH_take (i := 15) (v := .pointer (some ⟨g, q, none⟩)) rfl (by kernel_rfl) (by kernel_rfl) (by kernel_rfl) (fun _ _ _ h => h) (Or.inl ⟨by rfl, by intro w' hS'; go_simp <;> (first | omega | (rw [IntKind.wrap_i64]; omega) | (rw [IntKind.wrap_u64]; omega) | (rw [IntKind.wrap_u32]; omega) | (rw [Int.tmod_eq_emod_of_nonneg (by omega)]))⟩) hSd ?_
  (try simp only [List.getElem_toArray, List.getElem_cons_succ, List.getElem_cons_zero, Act.put, List.setIfInBounds_toArray, List.set_cons_zero, List.set_cons_succ])
  refine held_stepS (i := 16) (by kernel_rfl) rfl (by rfl) ?_
  go_simp
  refine ⟨by rw [HS.out]; exact ⟨cell_of_row _ _ 0 _ _ _ ((heap_setCell_other _ _ _ _ (by have := HGL.out; show w.heap.size ≠ g; omega)).trans HBX.out), cell_of_row _ _ 1 _ _ _ ((heap_setCell_other _ _ _ _ (by have := HGL.out; show w.heap.size ≠ g; omega)).trans HBX.out)⟩, ?_⟩
  (try simp only [List.getElem_toArray, List.getElem_cons_succ, List.getElem_cons_zero, Act.put, List.setIfInBounds_toArray, List.set_cons_zero, List.set_cons_succ])
  refine wpAnyH_done (by kernel_rfl) ?_ _
  go_wp2_with fail
  go_end0
  refine ⟨⟨_, rfl⟩, ?_, ?_⟩
  · unfold narC; rw [← HQ.out]; show (W2.setCell ⟨g, q, none⟩ _).heap[g]? = _; exact heap_setCell_same _ _ _ _ _ _ HW.out.1
  · exact (HW.out.2.trans (grownBy_setC W2 g q _)).trans ⟨rfl, rfl, rfl, Nat.le_refl _, fun _ _ _ => rfl⟩
end Go.Proofs.Ytibciflmalfbjaa
