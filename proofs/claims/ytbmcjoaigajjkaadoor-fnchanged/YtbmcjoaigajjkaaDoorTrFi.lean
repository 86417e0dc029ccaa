/-
  The node of a path: what is told; the copy of a node; the code's Find.
-/
import Derived.Test.YtbmcjoaigajjkaaDoorTrP
import Derived.Test.YtbmcjoaigajjkaaDoorClone
namespace Go.Proofs.YtbmcjoaigajjkaaDoor
open Go.RowKit
set_option linter.unusedVariables false
set_option linter.unusedSimpArgs false
theorem results_cell_1 {P : Program} {fn : Func} {t p : Tmp} {ty : TypeId} (h : fn.results = #[.cell p ty, .tmp t]) (tmps : Array Value) (w : World) (g : Nat) (t2 : TypeId) (cs : Array Value) (fr : Nat × Nat) (d : TypeDesc)
    (hp : tmps.getD p undef = .pointer (some ⟨g, 0, none⟩)) (hg : w.heap[g]? = some (.cells cs t2 fr))
    (hu : P.underlying ty = some d) (hd : (match d with | .struct _ | .array _ _ => true | _ => false) = true) (hi : (P.info? ty).map (·.size) = some cs.size) :
    (results fn tmps).run P w = .ok (.tuple #[.agg cs, tmps.getD t undef]) w := by
  have hp' : tmps[p]?.getD undef = .pointer (some ⟨g, 0, none⟩) := by simpa using hp
  simp [results, h, hp', asAddr, run_loadVar_row w g t2 ty cs fr d hg hu hd hi]
theorem splitB_ne (k : Nat) (s : ByteArray) : Lib.splitB ⟨#[47]⟩ 0 k s ≠ [] := by
  cases k with
  | zero => unfold Lib.splitB; simp
  | succ k =>
    by_cases c : Lib.indexB s ⟨#[47]⟩ = -1
    · rw [Lib.splitB_miss ⟨#[47]⟩ 0 (k + 1) s c]; simp
    · rw [Lib.splitB, if_neg (fun q => c (beq_iff_eq.1 q))]; simp
theorem pcsB_ne (s : ByteArray) : pcsB s ≠ [] := splitB_ne _ _
/-- the branch of a path's names is its node -/
theorem bF_path {F : Nat → NdI} {n : Nat} {s : ByteArray} (h : trV F n) : (∃ j, j < n ∧ (F j).p = s ∧ bF F n (pcsB s) = some (j + 1)) ∨ ((∀ j, j < n → (F j).p ≠ s) ∧ bF F n (pcsB s) = none) := by
  by_cases hx : ∃ j, j < n ∧ (F j).p = s
  · obtain ⟨j, hj, e⟩ := hx
    exact Or.inl ⟨j, hj, e, bF_some h (by omega) (by show pcsB (F j).p = _; rw [e])⟩
  · refine Or.inr ⟨fun j hj e => hx ⟨j, hj, e⟩, bF_none fun k hk e => ?_⟩
    match k, hk, e with
    | 0, _, e => exact pcsB_ne s e.symm
    | j + 1, hk, e => exact hx ⟨j, by omega, pcs_inj (h j (by omega)).1.1 e⟩
open Classical in
noncomputable def fdI (F : Nat → NdI) (n : Nat) (s : ByteArray) : Option Nat := if h : ndR F n ∧ ∃ j, j < n ∧ (F j).p = s then some (Classical.choose h.2) else none
theorem fdI_some {F : Nat → NdI} {n j : Nat} {s : ByteArray} (h : ndR F n) (hj : j < n) (e : (F j).p = s) : fdI F n s = some j := by
  have hx : ndR F n ∧ ∃ j, j < n ∧ (F j).p = s := ⟨h, j, hj, e⟩
  unfold fdI
  rw [dif_pos hx]
  have h2 := Classical.choose_spec hx.2
  exact congrArg some (trV_inj h.2 h2.1 hj (h2.2.trans e.symm))
theorem fdI_none {F : Nat → NdI} {n : Nat} {s : ByteArray} (h : ¬ ndR F n ∨ ∀ j, j < n → (F j).p ≠ s) : fdI F n s = none := by
  unfold fdI
  rw [dif_neg]
  rintro ⟨h1, j, hj, e⟩
  rcases h with h | h
  · exact h h1
  · exact h j hj e
def ndVal (p : NdI) : Value := .agg #[.string p.p, .bool p.r, .int .i64 p.m, .string p.d]
def nd0 : NdI := ⟨⟨#[]⟩, false, 0, ⟨#[]⟩⟩
def fdT (F : Nat → NdI) : Option Nat → Value
  | some j => .tuple #[ndVal (F j), .bool true]
  | none => .tuple #[ndVal nd0, .bool false]
set_option maxRecDepth 100000 in
set_option maxHeartbeats 4000000 in
theorem copied_any (p : NdI) (w : World) (hs : p.p.size ≤ 1048576 ∧ p.d.size ≤ 1048576) :
    Calls Tryd.prog 31 #[ndVal p] w fun e w' => e = .returned (ndVal p) ∧ Below w.heap.size w w' := by
  have HC : Hid (∀ (x : ByteArray) w, x.size ≤ 1048576 → Calls Tryd.prog 25 #[.string x] w fun e w' => e = .returned (.string x) ∧ Below w.heap.size w w') := fun x w h => clone_any x w (by omega)
  obtain ⟨a, r, m, d⟩ := p
  unfold ndVal
  simp only at hs ⊢
  have HS := hidT hs
  have HB0 : Hid (Below w.heap.size w ((w.alloc (.cells #[.string a, .bool r, .int .i64 m, .string d] 32)).alloc (.cells #[.string ⟨#[]⟩, .bool false, .int .i64 0, .string ⟨#[]⟩] 32))) := ((Below.refl _ _).alloc (Nat.le_refl _) _).alloc (by simp) _
  have HX0 : Hid (((w.alloc (.cells #[.string a, .bool r, .int .i64 m, .string d] 32)).alloc (.cells #[.string ⟨#[]⟩, .bool false, .int .i64 0, .string ⟨#[]⟩] 32)).heap[w.heap.size]? = some (.cells #[.string a, .bool r, .int .i64 m, .string d] 32 (0, 0))) := (Below.heap_alloc _ _ _ (by simp)).trans (heap_alloc_new w _)
  have hy0 : ((w.alloc (.cells #[.string a, .bool r, .int .i64 m, .string d] 32)).alloc (.cells #[.string ⟨#[]⟩, .bool false, .int .i64 0, .string ⟨#[]⟩] 32)).heap[w.heap.size + 1]? = some (.cells #[.string ⟨#[]⟩, .bool false, .int .i64 0, .string ⟨#[]⟩] 32 (0, 0)) := by
    have h := heap_alloc_new (w.alloc (.cells #[.string a, .bool r, .int .i64 m, .string d] 32)) (.cells #[.string ⟨#[]⟩, .bool false, .int .i64 0, .string ⟨#[]⟩] 32)
    simpa using h
  have HY0 := hidT hy0
  clear hs hy0
  go_enter Tryd.func31, Tryd.ntmps31
  go_wp2_with fail
  generalize (w.alloc (.cells #[.string a, .bool r, .int .i64 m, .string d] 32)).alloc (.cells #[.string ⟨#[]⟩, .bool false, .int .i64 0, .string ⟨#[]⟩] 32) = W at HB0 HX0 HY0 ⊢
  obtain ⟨S, hSS⟩ : ∃ S : World → Prop, S = fun w' => Below w.heap.size w w' ∧ w'.heap[w.heap.size]? = some (.cells #[.string a, .bool r, .int .i64 m, .string d] 32 (0, 0)) ∧ w'.heap[w.heap.size + 1]? = some (.cells #[.string ⟨#[]⟩, .bool false, .int .i64 0, .string ⟨#[]⟩] 32 (0, 0)) := ⟨_, rfl⟩
  have HSS := hidT hSS
  have hSd : S W.drew := by rw [hSS]; exact ⟨HB0.out.drew, HX0.out, HY0.out⟩
  have HK : Hid (∀ w1 w2 : World, S w1 → Below w1.heap.size w1 w2 → S w2) := fun w1 w2 h hb => by
    rw [HSS.out] at h ⊢
    exact ⟨blNd h.1 hb h.1.size, (hb.block _ (Array.getElem?_eq_some_iff.1 h.2.1).1).trans h.2.1, (hb.block _ (Array.getElem?_eq_some_iff.1 h.2.2).1).trans h.2.2⟩
  have HC0 : Hid (∀ w', S w' → w'.cell? ⟨w.heap.size, 0, none⟩ = some (.string a)) := fun w' h => by rw [HSS.out] at h; exact cell_of_row _ _ 0 _ _ _ h.2.1
  have HC3 : Hid (∀ w', S w' → w'.cell? ⟨w.heap.size, 3, none⟩ = some (.string d)) := fun w' h => by rw [HSS.out] at h; exact cell_of_row _ _ 3 _ _ _ h.2.1
  have HW0 : Hid (∀ w', S w' → S (w'.setCell ⟨w.heap.size, 0, none⟩ (.string a))) := fun w' h => by
    rw [HSS.out] at h ⊢
    exact ⟨h.1.setCell (p := ⟨w.heap.size, 0, none⟩) (Nat.le_refl _) _, heap_setCell_same _ _ _ _ _ _ h.2.1, (heap_setCell_other _ _ _ _ (by show w.heap.size + 1 ≠ w.heap.size; omega)).trans h.2.2⟩
  have HW3 : Hid (∀ w', S w' → S (w'.setCell ⟨w.heap.size, 3, none⟩ (.string d))) := fun w' h => by
    rw [HSS.out] at h ⊢
    exact ⟨h.1.setCell (p := ⟨w.heap.size, 3, none⟩) (Nat.le_refl _) _, heap_setCell_same _ _ _ _ _ _ h.2.1, (heap_setCell_other _ _ _ _ (by show w.heap.size + 1 ≠ w.heap.size; omega)).trans h.2.2⟩
  have HF : Hid (∀ w' t, S w' → w'.frozen? ⟨w.heap.size, t, none⟩ = false) := fun w' t h => by rw [HSS.out] at h; exact frozen_of_row _ _ t _ _ h.2.1
  clear hSS
  refine wp_region_held (S := S) (by kernel_rfl) ?_
  change wpAnyH _ _ _ _ _ _ _ _ (World.drew _)
  refine wpAnyH_take (i := 0) (v := .pointer (some ⟨w.heap.size, 0, none⟩)) rfl (by kernel_rfl) (by kernel_rfl) (by kernel_rfl) (fun _ _ _ h => h) (Or.inl ⟨by rfl, by intro w' hS'; go_simp <;> (first | omega | (rw [IntKind.wrap_i64]; omega) | (rw [IntKind.wrap_u64]; omega) | (rw [IntKind.wrap_u32]; omega) | (rw [Int.tmod_eq_emod_of_nonneg (by omega)]) | rfl)⟩) hSd ?_
  (try simp only [List.getElem_toArray, List.getElem_cons_succ, List.getElem_cons_zero, Act.put, List.setIfInBounds_toArray, List.set_cons_zero, List.set_cons_succ])
  refine wpAnyH_take (i := 1) (v := .string a) rfl (by kernel_rfl) (by kernel_rfl) (by kernel_rfl) (fun _ _ _ h => h) (Or.inl ⟨by rfl, by intro w' hS'; have hxx := HC0.out w' hS'; go_simp <;> (first | omega | (rw [IntKind.wrap_i64]; omega) | (rw [IntKind.wrap_u64]; omega) | (rw [IntKind.wrap_u32]; omega) | (rw [Int.tmod_eq_emod_of_nonneg (by omega)]) | rfl)⟩) hSd ?_
  (try simp only [List.getElem_toArray, List.getElem_cons_succ, List.getElem_cons_zero, Act.put, List.setIfInBounds_toArray, List.set_cons_zero, List.set_cons_succ])
  refine wpAnyH_take (i := 3) (v := .pointer (some ⟨w.heap.size, 3, none⟩)) rfl (by kernel_rfl) (by kernel_rfl) (by kernel_rfl) (fun _ _ _ h => h) (Or.inl ⟨by rfl, by intro w' hS'; go_simp <;> (first | omega | (rw [IntKind.wrap_i64]; omega) | (rw [IntKind.wrap_u64]; omega) | (rw [IntKind.wrap_u32]; omega) | (rw [Int.tmod_eq_emod_of_nonneg (by omega)]) | rfl)⟩) hSd ?_
  (try simp only [List.getElem_toArray, List.getElem_cons_succ, List.getElem_cons_zero, Act.put, List.setIfInBounds_toArray, List.set_cons_zero, List.set_cons_succ])
  refine wpAnyH_take (i := 4) (v := .string d) rfl (by kernel_rfl) (by kernel_rfl) (by kernel_rfl) (fun _ _ _ h => h) (Or.inl ⟨by rfl, by intro w' hS'; have hxx := HC3.out w' hS'; go_simp <;> (first | omega | (rw [IntKind.wrap_i64]; omega) | (rw [IntKind.wrap_u64]; omega) | (rw [IntKind.wrap_u32]; omega) | (rw [Int.tmod_eq_emod_of_nonneg (by omega)]) | rfl)⟩) hSd ?_
  (try simp only [List.getElem_toArray, List.getElem_cons_succ, List.getElem_cons_zero, Act.put, List.setIfInBounds_toArray, List.set_cons_zero, List.set_cons_succ])
  refine held_stepS (i := 2) (by kernel_rfl) rfl (by rfl) ?_
  go_simp
  refine (HC.out _ _ HS.out.1).mono ?_
  rintro e w3 ⟨rfl, hb3⟩
  have hS3 := HK.out _ _ hSd hb3
  clear hb3
  refine ⟨hS3, ?_⟩
  (try simp only [List.getElem_toArray, List.getElem_cons_succ, List.getElem_cons_zero, Act.put, List.setIfInBounds_toArray, List.set_cons_zero, List.set_cons_succ])
  refine wpAnyH_take (i := 6) (v := .pointer (some ⟨w.heap.size, 0, none⟩)) rfl (by kernel_rfl) (by kernel_rfl) (by kernel_rfl) (fun _ _ _ h => h) (Or.inl ⟨by rfl, by intro w' hS'; go_simp <;> (first | omega | (rw [IntKind.wrap_i64]; omega) | (rw [IntKind.wrap_u64]; omega) | (rw [IntKind.wrap_u32]; omega) | (rw [Int.tmod_eq_emod_of_nonneg (by omega)]) | rfl)⟩) hS3 ?_
  (try simp only [List.getElem_toArray, List.getElem_cons_succ, List.getElem_cons_zero, Act.put, List.setIfInBounds_toArray, List.set_cons_zero, List.set_cons_succ])
  refine held_stepS (i := 5) (by kernel_rfl) rfl (by rfl) ?_
  go_simp
  refine (HC.out _ _ HS.out.2).mono ?_
  rintro e w4 ⟨rfl, hb4⟩
  have hS4 := HK.out _ _ hS3 hb4
  clear hb4
  refine ⟨hS4, ?_⟩
  (try simp only [List.getElem_toArray, List.getElem_cons_succ, List.getElem_cons_zero, Act.put, List.setIfInBounds_toArray, List.set_cons_zero, List.set_cons_succ])
  have c0 := HC0.out _ hS4
  have z0 := HF.out _ 0 hS4
  refine held_stepS (i := 7) (by kernel_rfl) rfl (by rfl) ?_
  go_simp
  have hS5 := HW0.out _ hS4
  refine ⟨hS5, ?_⟩
  (try simp only [List.getElem_toArray, List.getElem_cons_succ, List.getElem_cons_zero, Act.put, List.setIfInBounds_toArray, List.set_cons_zero, List.set_cons_succ])
  refine wpAnyH_take (i := 8) (v := .pointer (some ⟨w.heap.size, 3, none⟩)) rfl (by kernel_rfl) (by kernel_rfl) (by kernel_rfl) (fun _ _ _ h => h) (Or.inl ⟨by rfl, by intro w' hS'; go_simp <;> (first | omega | (rw [IntKind.wrap_i64]; omega) | (rw [IntKind.wrap_u64]; omega) | (rw [IntKind.wrap_u32]; omega) | (rw [Int.tmod_eq_emod_of_nonneg (by omega)]) | rfl)⟩) hS5 ?_
  (try simp only [List.getElem_toArray, List.getElem_cons_succ, List.getElem_cons_zero, Act.put, List.setIfInBounds_toArray, List.set_cons_zero, List.set_cons_succ])
  have c3 := HC3.out _ hS5
  have z3 := HF.out _ 3 hS5
  clear c0 z0
  refine held_stepS (i := 9) (by kernel_rfl) rfl (by rfl) ?_
  go_simp
  have hS6 := HW3.out _ hS5
  refine ⟨hS6, ?_⟩
  (try simp only [List.getElem_toArray, List.getElem_cons_succ, List.getElem_cons_zero, Act.put, List.setIfInBounds_toArray, List.set_cons_zero, List.set_cons_succ])
  refine wpAnyH_done (by kernel_rfl) ?_ _
  have HS6 := hidT hS6
  clear c3 z3 hS6 hS5
  generalize (w4.setCell ⟨w.heap.size, 0, none⟩ (.string a)).setCell ⟨w.heap.size, 3, none⟩ (.string d) = w6 at HS6 ⊢
  have h6 := HS6.out
  rw [HSS.out] at h6
  have H6 := hidT h6
  have b0 : w6.cell? ⟨w.heap.size, 0, none⟩ = some (.string a) := cell_of_row _ _ 0 _ _ _ h6.2.1
  have b1 : w6.cell? ⟨w.heap.size, 1, none⟩ = some (.bool r) := cell_of_row _ _ 1 _ _ _ h6.2.1
  have b2 : w6.cell? ⟨w.heap.size, 2, none⟩ = some (.int .i64 m) := cell_of_row _ _ 2 _ _ _ h6.2.1
  have b3 : w6.cell? ⟨w.heap.size, 3, none⟩ = some (.string d) := cell_of_row _ _ 3 _ _ _ h6.2.1
  have y0 : w6.cell? ⟨w.heap.size + 1, 0, none⟩ = some (.string ⟨#[]⟩) := cell_of_row _ _ 0 _ _ _ h6.2.2
  have y1 : w6.cell? ⟨w.heap.size + 1, 1, none⟩ = some (.bool false) := cell_of_row _ _ 1 _ _ _ h6.2.2
  have y2 : w6.cell? ⟨w.heap.size + 1, 2, none⟩ = some (.int .i64 0) := cell_of_row _ _ 2 _ _ _ h6.2.2
  have y3 : w6.cell? ⟨w.heap.size + 1, 3, none⟩ = some (.string ⟨#[]⟩) := cell_of_row _ _ 3 _ _ _ h6.2.2
  have z0 := frozen_of_row w6 (w.heap.size + 1) 0 _ _ h6.2.2
  have z1 := frozen_of_row w6 (w.heap.size + 1) 1 _ _ h6.2.2
  have z2 := frozen_of_row w6 (w.heap.size + 1) 2 _ _ h6.2.2
  have z3 := frozen_of_row w6 (w.heap.size + 1) 3 _ _ h6.2.2
  have hr : ((((w6.setCell ⟨w.heap.size + 1, 0, none⟩ (.string a)).setCell ⟨w.heap.size + 1, 1, none⟩ (.bool r)).setCell ⟨w.heap.size + 1, 2, none⟩ (.int .i64 m)).setCell ⟨w.heap.size + 1, 3, none⟩ (.string d)).heap[w.heap.size + 1]? = some (.cells #[.string a, .bool r, .int .i64 m, .string d] 32 (0, 0)) := setWNd_row (q := 0) h6.2.2 _ _ _ _
  have HR := hidT hr
  clear hr h6
  go_wp2_with fail
  refine bodyPost_ret (results_cell_row rfl _ _ (w.heap.size + 1) 32 #[.string a, .bool r, .int .i64 m, .string d] (0, 0) _ rfl HR.out Tryd.underlying32 rfl (by kernel_rfl)) rfl ⟨rfl, setWNd_below H6.out.1 (by omega) 0 _ _ _ _⟩
end Go.Proofs.YtbmcjoaigajjkaaDoor
