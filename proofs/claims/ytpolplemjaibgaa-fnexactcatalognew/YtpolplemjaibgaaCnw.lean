/-
  A catalog without chunks and snapshots: what the law holds of it, and that both make it.
-/
import Derived.Test.YtpolplemjaibgaaToShp
import Derived.Laws.Tables
namespace Go.Proofs.Ytpolplemjaibgaa
open Go.RowKit
set_option linter.unusedVariables false
set_option linter.unusedSimpArgs false
/-- a catalog of no chunks and no snapshots -/
def cnC (l b m n : Int) : Array Value := #[.int .i64 l, .int .i64 b, .int .i64 m, .int .i64 n, .slice none 0 0, .slice none 0 0]
theorem hidC {p : Prop} (h : p) : Hid p := h
theorem blCn {B C : Nat} {a b c : World} (h : Below B a b) (k : Below C b c) (hBC : B ≤ C) : Below B a c := ⟨k.os.trans h.os, k.tape.trans h.tape, k.output.trans h.output, Nat.le_trans h.size k.size, fun i hi => (k.block i (Nat.lt_of_lt_of_le hi hBC)).trans (h.block i hi)⟩
theorem results_cell_1 {P : Program} {fn : Func} {t p : Tmp} {ty : TypeId} (h : fn.results = #[.cell p ty, .tmp t]) (tmps : Array Value) (w : World) (g : Nat) (t2 : TypeId) (cs : Array Value) (fr : Nat × Nat) (d : TypeDesc)
    (hp : tmps.getD p undef = .pointer (some ⟨g, 0, none⟩)) (hg : w.heap[g]? = some (.cells cs t2 fr))
    (hu : P.underlying ty = some d) (hd : (match d with | .struct _ | .array _ _ => true | _ => false) = true) (hi : (P.info? ty).map (·.size) = some cs.size) :
    (results fn tmps).run P w = .ok (.tuple #[.agg cs, tmps.getD t undef]) w := by
  have hp' : tmps[p]?.getD undef = .pointer (some ⟨g, 0, none⟩) := by simpa using hp
  simp [results, h, hp', asAddr, run_loadVar_row w g t2 ty cs fr d hg hu hd hi]
theorem setRow_below {B g : Nat} {w0 w : World} (h : Below B w0 w) (hg : B ≤ g) (cs : Array Value) : Below B w0 (w.setRow g cs) :=
  ⟨h.os, h.tape, h.output, by simpa using h.size, fun i hi => (setRow_other w g i _ (by omega)).trans (h.block i hi)⟩
set_option maxRecDepth 100000 in
theorem eqShp_same (l b m : Int) (w : World) :
    Calls Try.prog 44 #[shpV l b m, shpV l b m] w fun e w' => e = .returned (.bool true) ∧ Below w.heap.size w w' := by
  unfold shpV
  go_enter Try.func44, Try.ntmps44
  go_wp2_with fail
  go_ret
  exact ⟨rfl, ((Below.refl _ _).alloc (Nat.le_refl _) _).alloc (by simp) _⟩
set_option maxRecDepth 100000 in
theorem eqChk_none (w : World) : Calls Try.prog 45 #[.slice none 0 0, .slice none 0 0] w fun e w' => e = .returned (.bool true) ∧ w' = w := by
  go_enter Try.func45, Try.ntmps45
  go_wp2_with fail
  go_loop [5] (fun x => x = .int .i64 0) (fun _ => 0)
  case atStart => rfl
  case round =>
    obtain rfl := hrel
    go_wp2_with fail
    go_ret
    exact ⟨rfl, rfl⟩
set_option maxRecDepth 100000 in
theorem eqSnp_none (w : World) : Calls Try.prog 46 #[.slice none 0 0, .slice none 0 0] w fun e w' => e = .returned (.bool true) ∧ w' = w := by
  go_enter Try.func46, Try.ntmps46
  go_wp2_with fail
  go_loop [5] (fun x => x = .int .i64 0) (fun _ => 0)
  case atStart => rfl
  case round =>
    obtain rfl := hrel
    go_wp2_with fail
    go_ret
    exact ⟨rfl, rfl⟩
set_option maxRecDepth 100000 in
theorem eqCn_same (l b m n : Int) (w : World) :
    Calls Try.prog 27 #[.agg (cnC l b m n), .agg (cnC l b m n)] w fun e w' => e = .returned (.bool true) ∧ Below w.heap.size w w' := by
  unfold cnC
  have HS : Hid (∀ w, Calls Try.prog 44 #[.agg #[.int .i64 l, .int .i64 b, .int .i64 m], .agg #[.int .i64 l, .int .i64 b, .int .i64 m]] w fun e w' => e = .returned (.bool true) ∧ Below w.heap.size w w') := fun w => eqShp_same l b m w
  have HC : Hid (∀ w, Calls Try.prog 45 #[.slice none 0 0, .slice none 0 0] w fun e w' => e = .returned (.bool true) ∧ w' = w) := fun w => eqChk_none w
  have HN : Hid (∀ w, Calls Try.prog 46 #[.slice none 0 0, .slice none 0 0] w fun e w' => e = .returned (.bool true) ∧ w' = w) := fun w => eqSnp_none w
  obtain ⟨W, hW⟩ : ∃ W, W = (w.alloc (.cells #[.int .i64 l, .int .i64 b, .int .i64 m, .int .i64 n, .slice none 0 0, .slice none 0 0] 48)).alloc (.cells #[.int .i64 l, .int .i64 b, .int .i64 m, .int .i64 n, .slice none 0 0, .slice none 0 0] 48) := ⟨_, rfl⟩
  have hHR0 : W.heap[w.heap.size]? = some (.cells #[.int .i64 l, .int .i64 b, .int .i64 m, .int .i64 n, .slice none 0 0, .slice none 0 0] 48 (0, 0)) := by
    rw [hW, Below.heap_alloc _ _ _ (by simp)]; exact heap_alloc_new w _
  have HR0 := hidC hHR0
  have hHR1 : W.heap[w.heap.size + 1]? = some (.cells #[.int .i64 l, .int .i64 b, .int .i64 m, .int .i64 n, .slice none 0 0, .slice none 0 0] 48 (0, 0)) := by
    rw [hW]
    have h := heap_alloc_new (w.alloc (.cells #[.int .i64 l, .int .i64 b, .int .i64 m, .int .i64 n, .slice none 0 0, .slice none 0 0] 48)) (.cells #[.int .i64 l, .int .i64 b, .int .i64 m, .int .i64 n, .slice none 0 0, .slice none 0 0] 48)
    simpa using h
  have HR1 := hidC hHR1
  have HB : Hid (Below w.heap.size w W) := by rw [hW]; exact ((Below.refl _ _).alloc (Nat.le_refl _) _).alloc (by simp) _
  have hsz2 : W.heap.size = w.heap.size + 2 := by rw [hW]; simp
  have HSZ := hidC hsz2
  clear hHR0 hHR1 hsz2
  go_enter Try.func27, Try.ntmps27
  go_wp2_with fail
  refine (HS.out _).mono ?_
  rintro e w1 ⟨rfl, hb1⟩
  rw [← hW] at hb1
  have r0 : w1.heap[w.heap.size]? = _ := (hb1.block _ (by rw [HSZ.out]; omega)).trans HR0.out
  have r1 : w1.heap[w.heap.size + 1]? = _ := (hb1.block _ (by rw [HSZ.out]; omega)).trans HR1.out
  have a3 : w1.cell? ⟨w.heap.size, 3, none⟩ = some (.int .i64 n) := cell_of_row _ _ _ _ _ _ r0
  have a4 : w1.cell? ⟨w.heap.size, 4, none⟩ = some (.slice none 0 0) := cell_of_row _ _ _ _ _ _ r0
  have a5 : w1.cell? ⟨w.heap.size, 5, none⟩ = some (.slice none 0 0) := cell_of_row _ _ _ _ _ _ r0
  have b3 : w1.cell? ⟨w.heap.size + 1, 3, none⟩ = some (.int .i64 n) := cell_of_row _ _ _ _ _ _ r1
  have b4 : w1.cell? ⟨w.heap.size + 1, 4, none⟩ = some (.slice none 0 0) := cell_of_row _ _ _ _ _ _ r1
  have b5 : w1.cell? ⟨w.heap.size + 1, 5, none⟩ = some (.slice none 0 0) := cell_of_row _ _ _ _ _ _ r1
  have HB1 : Hid (Below w.heap.size w w1) := blCn HB.out hb1 HB.out.size
  clear r0 r1 hb1 hW
  go_wp2_with fail
  refine (HC.out _).mono ?_
  rintro e w2 ⟨rfl, hw2⟩
  subst w2
  go_wp2_with fail
  refine (HN.out _).mono ?_
  rintro e w2 ⟨rfl, hw2⟩
  subst w2
  go_wp2_with fail
  go_ret
  exact ⟨rfl, HB1.out⟩
set_option maxRecDepth 100000 in
theorem mkChk_none (k : Int) (w : World) : Calls Try.prog 47 #[.slice none 0 0, .int .i64 k] w fun e w' => e = .returned (.int .i64 k) ∧ w' = w := by
  go_enter Try.func47, Try.ntmps47
  go_wp2_with fail
  go_loop [1, 5] (fun y x => y = .int .i64 k ∧ x = .int .i64 0) (fun _ _ => 0)
  case atStart => exact ⟨rfl, rfl⟩
  case round =>
    obtain ⟨rfl, rfl⟩ := hrel
    go_wp2_with fail
    go_ret
    exact ⟨rfl, rfl⟩
set_option maxRecDepth 100000 in
theorem mkSnp_none (k : Int) (w : World) : Calls Try.prog 48 #[.slice none 0 0, .int .i64 k] w fun e w' => e = .returned (.int .i64 k) ∧ w' = w := by
  go_enter Try.func48, Try.ntmps48
  go_wp2_with fail
  go_loop [1, 5] (fun y x => y = .int .i64 k ∧ x = .int .i64 0) (fun _ _ => 0)
  case atStart => exact ⟨rfl, rfl⟩
  case round =>
    obtain ⟨rfl, rfl⟩ := hrel
    go_wp2_with fail
    go_ret
    exact ⟨rfl, rfl⟩
set_option maxRecDepth 100000 in
theorem hdChk_none (k : Int) (w : World) : Calls Try.prog 49 #[.slice none 0 0, .int .i64 k] w fun e w' => e = .returned (.int .i64 k) ∧ w' = w := by
  go_enter Try.func49, Try.ntmps49
  go_wp2_with fail
  go_loop [1, 5] (fun y x => y = .int .i64 k ∧ x = .int .i64 0) (fun _ _ => 0)
  case atStart => exact ⟨rfl, rfl⟩
  case round =>
    obtain ⟨rfl, rfl⟩ := hrel
    go_wp2_with fail
    go_ret
    exact ⟨rfl, rfl⟩
set_option maxRecDepth 100000 in
theorem hdSnp_none (k : Int) (w : World) : Calls Try.prog 50 #[.slice none 0 0, .int .i64 k] w fun e w' => e = .returned (.int .i64 k) ∧ w' = w := by
  go_enter Try.func50, Try.ntmps50
  go_wp2_with fail
  go_loop [1, 5] (fun y x => y = .int .i64 k ∧ x = .int .i64 0) (fun _ _ => 0)
  case atStart => exact ⟨rfl, rfl⟩
  case round =>
    obtain ⟨rfl, rfl⟩ := hrel
    go_wp2_with fail
    go_ret
    exact ⟨rfl, rfl⟩
set_option maxRecDepth 100000 in
theorem mkCn_any (l b m n : Int) (w : World) :
    Calls Try.prog 28 #[.agg (cnC l b m n), .int .i64 1] w fun e w' => e = .returned (.int .i64 1) ∧ Below w.heap.size w w' := by
  unfold cnC
  have HC : Hid (∀ w, Calls Try.prog 47 #[.slice none 0 0, .int .i64 1] w fun e w' => e = .returned (.int .i64 1) ∧ w' = w) := fun w => mkChk_none 1 w
  have HN : Hid (∀ w, Calls Try.prog 48 #[.slice none 0 0, .int .i64 1] w fun e w' => e = .returned (.int .i64 1) ∧ w' = w) := fun w => mkSnp_none 1 w
  go_enter Try.func28, Try.ntmps28
  go_wp2_with fail
  refine (HC.out _).mono ?_
  rintro e w2 ⟨rfl, hw2⟩
  subst w2
  go_wp2_with fail
  refine (HN.out _).mono ?_
  rintro e w2 ⟨rfl, hw2⟩
  subst w2
  go_wp2_with fail
  go_ret
  exact ⟨rfl, (Below.refl _ _).alloc (Nat.le_refl _) _⟩
set_option maxRecDepth 100000 in
theorem hdCn_any (l b m n : Int) (w : World) :
    Calls Try.prog 29 #[.agg (cnC l b m n), .int .i64 1] w fun e w' => e = .returned (.int .i64 1) ∧ Below w.heap.size w w' := by
  unfold cnC
  have HC : Hid (∀ w, Calls Try.prog 49 #[.slice none 0 0, .int .i64 1] w fun e w' => e = .returned (.int .i64 1) ∧ w' = w) := fun w => hdChk_none 1 w
  have HN : Hid (∀ w, Calls Try.prog 50 #[.slice none 0 0, .int .i64 1] w fun e w' => e = .returned (.int .i64 1) ∧ w' = w) := fun w => hdSnp_none 1 w
  go_enter Try.func29, Try.ntmps29
  go_wp2_with fail
  refine (HC.out _).mono ?_
  rintro e w2 ⟨rfl, hw2⟩
  subst w2
  go_wp2_with fail
  refine (HN.out _).mono ?_
  rintro e w2 ⟨rfl, hw2⟩
  subst w2
  go_wp2_with fail
  go_ret
  exact ⟨rfl, (Below.refl _ _).alloc (Nat.le_refl _) _⟩
set_option maxRecDepth 100000 in
set_option maxHeartbeats 1000000 in
theorem cnew_impl (l b m : Int) (w : World) (ok : Bool) (HK : Hid (∀ w, Calls Try.prog 43 #[.agg #[.int .i64 l, .int .i64 b, .int .i64 m]] w fun e w' => e = .returned (.bool ok) ∧ Below w.heap.size w w')) :
    Calls Try.prog 26 #[shpV l b m] w fun e w' => e = .returned (.tuple #[.agg (if ok then cnC l b m 1 else cnC 0 0 0 0), .bool ok]) ∧ Below w.heap.size w w' := by
  unfold shpV
  have hi3 : Option.map (·.size) (Try.prog.info? 44) = some 3 := by kernel_rfl
  have HI := hidC hi3
  have hi6 : Option.map (·.size) (Try.prog.info? 48) = some 6 := by kernel_rfl
  have HI6 := hidC hi6
  clear hi3 hi6
  obtain ⟨W, hW⟩ : ∃ W, W = (w.alloc (.cells #[.int .i64 l, .int .i64 b, .int .i64 m] 44)).alloc (.cells #[.int .i64 0, .int .i64 0, .int .i64 0, .int .i64 0, .slice none 0 0, .slice none 0 0] 48) := ⟨_, rfl⟩
  have hHR0 : W.heap[w.heap.size]? = some (.cells #[.int .i64 l, .int .i64 b, .int .i64 m] 44 (0, 0)) := by
    rw [hW, Below.heap_alloc _ _ _ (by simp)]; exact heap_alloc_new w _
  have HR0 := hidC hHR0
  have hHR1 : W.heap[w.heap.size + 1]? = some (.cells #[.int .i64 0, .int .i64 0, .int .i64 0, .int .i64 0, .slice none 0 0, .slice none 0 0] 48 (0, 0)) := by
    rw [hW]
    have h := heap_alloc_new (w.alloc (.cells #[.int .i64 l, .int .i64 b, .int .i64 m] 44)) (.cells #[.int .i64 0, .int .i64 0, .int .i64 0, .int .i64 0, .slice none 0 0, .slice none 0 0] 48)
    simpa using h
  have HR1 := hidC hHR1
  have HB : Hid (Below w.heap.size w W) := by rw [hW]; exact ((Below.refl _ _).alloc (Nat.le_refl _) _).alloc (by simp) _
  have hsz2 : W.heap.size = w.heap.size + 2 := by rw [hW]; simp
  have HSZ := hidC hsz2
  clear hHR0 hHR1 hsz2
  go_enter Try.func26, Try.ntmps26
  go_wp2_with fail
  refine (HK.out _).mono ?_
  rintro e w1 ⟨rfl, hb1⟩
  rw [← hW] at hb1
  have r0 : w1.heap[w.heap.size]? = _ := (hb1.block _ (by rw [HSZ.out]; omega)).trans HR0.out
  have r1 : w1.heap[w.heap.size + 1]? = _ := (hb1.block _ (by rw [HSZ.out]; omega)).trans HR1.out
  have HR : Hid (w1.heap[w.heap.size]? = some (.cells #[.int .i64 l, .int .i64 b, .int .i64 m] 44 (0, 0))) := r0
  have HRR : Hid (w1.heap[w.heap.size + 1]? = some (.cells #[.int .i64 0, .int .i64 0, .int .i64 0, .int .i64 0, .slice none 0 0, .slice none 0 0] 48 (0, 0))) := r1
  have HB1 : Hid (Below w.heap.size w w1) := blCn HB.out hb1 HB.out.size
  have k0 : w1.cell? ⟨w.heap.size + 1, 0, none⟩ = some (.int .i64 0) := cell_of_row _ _ _ _ _ _ HRR.out
  have z0 := frozen_of_row w1 (w.heap.size + 1) 0 _ _ HRR.out
  have k1 : w1.cell? ⟨w.heap.size + 1, 1, none⟩ = some (.int .i64 0) := cell_of_row _ _ _ _ _ _ HRR.out
  have z1 := frozen_of_row w1 (w.heap.size + 1) 1 _ _ HRR.out
  have k2 : w1.cell? ⟨w.heap.size + 1, 2, none⟩ = some (.int .i64 0) := cell_of_row _ _ _ _ _ _ HRR.out
  have z2 := frozen_of_row w1 (w.heap.size + 1) 2 _ _ HRR.out
  have k3 : w1.cell? ⟨w.heap.size + 1, 3, none⟩ = some (.int .i64 0) := cell_of_row _ _ _ _ _ _ HRR.out
  have z3 := frozen_of_row w1 (w.heap.size + 1) 3 _ _ HRR.out
  have k4 : w1.cell? ⟨w.heap.size + 1, 4, none⟩ = some (.slice none 0 0) := cell_of_row _ _ _ _ _ _ HRR.out
  have z4 := frozen_of_row w1 (w.heap.size + 1) 4 _ _ HRR.out
  have k5 : w1.cell? ⟨w.heap.size + 1, 5, none⟩ = some (.slice none 0 0) := cell_of_row _ _ _ _ _ _ HRR.out
  have z5 := frozen_of_row w1 (w.heap.size + 1) 5 _ _ HRR.out
  have hi := HI.out
  clear r0 r1 hb1 hW
  cases ok with
  | true =>
    go_wp2_with (refine wpList_load_row rfl 44 _ rfl (w.heap.size) rfl 44 #[.int .i64 l, .int .i64 b, .int .i64 m] (0, 0) _ HR.out Try.underlying44 rfl hi ?_)
    refine bodyPost_ret (results_cell_1 rfl _ _ (w.heap.size + 1) 48 #[.int .i64 l, .int .i64 b, .int .i64 m, .int .i64 1, .slice none 0 0, .slice none 0 0] (0, 0) _ rfl (heap_setCell_same _ _ _ _ _ _ (heap_setCell_same _ _ _ _ _ _ (heap_setCell_same _ _ _ _ _ _ (heap_setCell_same _ _ _ _ _ _ (heap_setCell_same _ _ _ _ _ _ (heap_setCell_same _ _ _ _ _ _ HRR.out)))))) Try.underlying48 rfl (by kernel_rfl)) rfl ⟨rfl, ((((((HB1.out.setCell (p := ⟨w.heap.size + 1, 0, none⟩) (by show w.heap.size ≤ w.heap.size + 1; omega) (.int .i64 l)).setCell (p := ⟨w.heap.size + 1, 1, none⟩) (by show w.heap.size ≤ w.heap.size + 1; omega) (.int .i64 b)).setCell (p := ⟨w.heap.size + 1, 2, none⟩) (by show w.heap.size ≤ w.heap.size + 1; omega) (.int .i64 m)).setCell (p := ⟨w.heap.size + 1, 3, none⟩) (by show w.heap.size ≤ w.heap.size + 1; omega) (.int .i64 1)).setCell (p := ⟨w.heap.size + 1, 4, none⟩) (by show w.heap.size ≤ w.heap.size + 1; omega) (.slice none 0 0)).setCell (p := ⟨w.heap.size + 1, 5, none⟩) (by show w.heap.size ≤ w.heap.size + 1; omega) (.slice none 0 0))⟩
  | false =>
    go_wp2_with fail
    refine bodyPost_ret (results_cell_1 rfl _ _ (w.heap.size + 1) 48 #[.int .i64 0, .int .i64 0, .int .i64 0, .int .i64 0, .slice none 0 0, .slice none 0 0] (0, 0) _ rfl (heap_setCell_same _ _ _ _ _ _ (heap_setCell_same _ _ _ _ _ _ (heap_setCell_same _ _ _ _ _ _ (heap_setCell_same _ _ _ _ _ _ (heap_setCell_same _ _ _ _ _ _ (heap_setCell_same _ _ _ _ _ _ HRR.out)))))) Try.underlying48 rfl (by kernel_rfl)) rfl ⟨rfl, ((((((HB1.out.setCell (p := ⟨w.heap.size + 1, 0, none⟩) (by show w.heap.size ≤ w.heap.size + 1; omega) (.int .i64 0)).setCell (p := ⟨w.heap.size + 1, 1, none⟩) (by show w.heap.size ≤ w.heap.size + 1; omega) (.int .i64 0)).setCell (p := ⟨w.heap.size + 1, 2, none⟩) (by show w.heap.size ≤ w.heap.size + 1; omega) (.int .i64 0)).setCell (p := ⟨w.heap.size + 1, 3, none⟩) (by show w.heap.size ≤ w.heap.size + 1; omega) (.int .i64 0)).setCell (p := ⟨w.heap.size + 1, 4, none⟩) (by show w.heap.size ≤ w.heap.size + 1; omega) (.slice none 0 0)).setCell (p := ⟨w.heap.size + 1, 5, none⟩) (by show w.heap.size ≤ w.heap.size + 1; omega) (.slice none 0 0))⟩
set_option maxRecDepth 100000 in
set_option maxHeartbeats 1000000 in
theorem cnew_spec (l b m : Int) (w : World) (ok : Bool) (HK : Hid (∀ w, Calls Try.prog 42 #[.agg #[.int .i64 l, .int .i64 b, .int .i64 m]] w fun e w' => e = .returned (.bool ok) ∧ Below w.heap.size w w')) :
    Calls Try.prog 24 #[shpV l b m] w fun e w' => e = .returned (.tuple #[.agg (if ok then cnC l b m 1 else cnC 0 0 0 0), .bool ok]) ∧ Below w.heap.size w w' := by
  unfold shpV
  have hi3 : Option.map (·.size) (Try.prog.info? 44) = some 3 := by kernel_rfl
  have HI := hidC hi3
  have hi6 : Option.map (·.size) (Try.prog.info? 48) = some 6 := by kernel_rfl
  have HI6 := hidC hi6
  clear hi3 hi6
  obtain ⟨W, hW⟩ : ∃ W, W = (w.alloc (.cells #[.int .i64 l, .int .i64 b, .int .i64 m] 44)).alloc (.cells #[.int .i64 0, .int .i64 0, .int .i64 0, .int .i64 0, .slice none 0 0, .slice none 0 0] 48) := ⟨_, rfl⟩
  have hHR0 : W.heap[w.heap.size]? = some (.cells #[.int .i64 l, .int .i64 b, .int .i64 m] 44 (0, 0)) := by
    rw [hW, Below.heap_alloc _ _ _ (by simp)]; exact heap_alloc_new w _
  have HR0 := hidC hHR0
  have hHR1 : W.heap[w.heap.size + 1]? = some (.cells #[.int .i64 0, .int .i64 0, .int .i64 0, .int .i64 0, .slice none 0 0, .slice none 0 0] 48 (0, 0)) := by
    rw [hW]
    have h := heap_alloc_new (w.alloc (.cells #[.int .i64 l, .int .i64 b, .int .i64 m] 44)) (.cells #[.int .i64 0, .int .i64 0, .int .i64 0, .int .i64 0, .slice none 0 0, .slice none 0 0] 48)
    simpa using h
  have HR1 := hidC hHR1
  have HB : Hid (Below w.heap.size w W) := by rw [hW]; exact ((Below.refl _ _).alloc (Nat.le_refl _) _).alloc (by simp) _
  have hsz2 : W.heap.size = w.heap.size + 2 := by rw [hW]; simp
  have HSZ := hidC hsz2
  clear hHR0 hHR1 hsz2
  go_enter Try.func24, Try.ntmps24
  go_wp2_with fail
  refine (HK.out _).mono ?_
  rintro e w1 ⟨rfl, hb1⟩
  rw [← hW] at hb1
  have r0 : w1.heap[w.heap.size]? = _ := (hb1.block _ (by rw [HSZ.out]; omega)).trans HR0.out
  have r1 : w1.heap[w.heap.size + 1]? = _ := (hb1.block _ (by rw [HSZ.out]; omega)).trans HR1.out
  have HR : Hid (w1.heap[w.heap.size]? = some (.cells #[.int .i64 l, .int .i64 b, .int .i64 m] 44 (0, 0))) := r0
  have HRR : Hid (w1.heap[w.heap.size + 1]? = some (.cells #[.int .i64 0, .int .i64 0, .int .i64 0, .int .i64 0, .slice none 0 0, .slice none 0 0] 48 (0, 0))) := r1
  have HB1 : Hid (Below w.heap.size w w1) := blCn HB.out hb1 HB.out.size
  have k0 : w1.cell? ⟨w.heap.size + 1, 0, none⟩ = some (.int .i64 0) := cell_of_row _ _ _ _ _ _ HRR.out
  have z0 := frozen_of_row w1 (w.heap.size + 1) 0 _ _ HRR.out
  have k1 : w1.cell? ⟨w.heap.size + 1, 1, none⟩ = some (.int .i64 0) := cell_of_row _ _ _ _ _ _ HRR.out
  have z1 := frozen_of_row w1 (w.heap.size + 1) 1 _ _ HRR.out
  have k2 : w1.cell? ⟨w.heap.size + 1, 2, none⟩ = some (.int .i64 0) := cell_of_row _ _ _ _ _ _ HRR.out
  have z2 := frozen_of_row w1 (w.heap.size + 1) 2 _ _ HRR.out
  have k3 : w1.cell? ⟨w.heap.size + 1, 3, none⟩ = some (.int .i64 0) := cell_of_row _ _ _ _ _ _ HRR.out
  have z3 := frozen_of_row w1 (w.heap.size + 1) 3 _ _ HRR.out
  have k4 : w1.cell? ⟨w.heap.size + 1, 4, none⟩ = some (.slice none 0 0) := cell_of_row _ _ _ _ _ _ HRR.out
  have z4 := frozen_of_row w1 (w.heap.size + 1) 4 _ _ HRR.out
  have k5 : w1.cell? ⟨w.heap.size + 1, 5, none⟩ = some (.slice none 0 0) := cell_of_row _ _ _ _ _ _ HRR.out
  have z5 := frozen_of_row w1 (w.heap.size + 1) 5 _ _ HRR.out
  have hi := HI.out
  clear r0 r1 hb1 hW
  cases ok with
  | true =>
    go_wp2_with (refine wpList_load_row rfl 44 _ rfl (w.heap.size) rfl 44 #[.int .i64 l, .int .i64 b, .int .i64 m] (0, 0) _ HR.out Try.underlying44 rfl hi ?_)
    refine bodyPost_ret (results_cell_1 rfl _ _ (w.heap.size + 1) 48 #[.int .i64 l, .int .i64 b, .int .i64 m, .int .i64 1, .slice none 0 0, .slice none 0 0] (0, 0) _ rfl (heap_setCell_same _ _ _ _ _ _ (heap_setCell_same _ _ _ _ _ _ (heap_setCell_same _ _ _ _ _ _ (heap_setCell_same _ _ _ _ _ _ (heap_setCell_same _ _ _ _ _ _ (heap_setCell_same _ _ _ _ _ _ HRR.out)))))) Try.underlying48 rfl (by kernel_rfl)) rfl ⟨rfl, ((((((HB1.out.setCell (p := ⟨w.heap.size + 1, 0, none⟩) (by show w.heap.size ≤ w.heap.size + 1; omega) (.int .i64 l)).setCell (p := ⟨w.heap.size + 1, 1, none⟩) (by show w.heap.size ≤ w.heap.size + 1; omega) (.int .i64 b)).setCell (p := ⟨w.heap.size + 1, 2, none⟩) (by show w.heap.size ≤ w.heap.size + 1; omega) (.int .i64 m)).setCell (p := ⟨w.heap.size + 1, 3, none⟩) (by show w.heap.size ≤ w.heap.size + 1; omega) (.int .i64 1)).setCell (p := ⟨w.heap.size + 1, 4, none⟩) (by show w.heap.size ≤ w.heap.size + 1; omega) (.slice none 0 0)).setCell (p := ⟨w.heap.size + 1, 5, none⟩) (by show w.heap.size ≤ w.heap.size + 1; omega) (.slice none 0 0))⟩
  | false =>
    go_wp2_with fail
    refine bodyPost_ret (results_cell_1 rfl _ _ (w.heap.size + 1) 48 #[.int .i64 0, .int .i64 0, .int .i64 0, .int .i64 0, .slice none 0 0, .slice none 0 0] (0, 0) _ rfl (heap_setCell_same _ _ _ _ _ _ (heap_setCell_same _ _ _ _ _ _ (heap_setCell_same _ _ _ _ _ _ (heap_setCell_same _ _ _ _ _ _ (heap_setCell_same _ _ _ _ _ _ (heap_setCell_same _ _ _ _ _ _ HRR.out)))))) Try.underlying48 rfl (by kernel_rfl)) rfl ⟨rfl, ((((((HB1.out.setCell (p := ⟨w.heap.size + 1, 0, none⟩) (by show w.heap.size ≤ w.heap.size + 1; omega) (.int .i64 0)).setCell (p := ⟨w.heap.size + 1, 1, none⟩) (by show w.heap.size ≤ w.heap.size + 1; omega) (.int .i64 0)).setCell (p := ⟨w.heap.size + 1, 2, none⟩) (by show w.heap.size ≤ w.heap.size + 1; omega) (.int .i64 0)).setCell (p := ⟨w.heap.size + 1, 3, none⟩) (by show w.heap.size ≤ w.heap.size + 1; omega) (.int .i64 0)).setCell (p := ⟨w.heap.size + 1, 4, none⟩) (by show w.heap.size ≤ w.heap.size + 1; omega) (.slice none 0 0)).setCell (p := ⟨w.heap.size + 1, 5, none⟩) (by show w.heap.size ≤ w.heap.size + 1; omega) (.slice none 0 0))⟩
end Go.Proofs.Ytpolplemjaibgaa
