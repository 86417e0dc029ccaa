/-
  A disk that is worked on: as a disk again; synced.
-/
import Derived.Test.YtanlggglbpibfaaFsO
namespace Go.Proofs.Ytanlggglbpibfaa
open Go.RowKit
set_option linter.unusedVariables false
set_option linter.unusedSimpArgs false
theorem FsW.nlen {lo p mb n : Nat} {L : List FlI} {V : ByteArray → Value} {w : World} (h : FsW w lo p mb L V n) : True := trivial
set_option maxRecDepth 100000 in
set_option maxHeartbeats 2000000 in
theorem wdisk_any {lo wd p mb : Nat} {vS vO : Value} {L S : List FlI} {O : List DqI} (w : World) (h : WdW w lo wd p mb vS vO L O) (hs : FlV w vS S) (hl : L.length ≤ 1000000) (hL : FlLe L) (hS : FlLe S) (hO : DqLe O) :
    Calls Try.prog 54 #[.pointer (some ⟨wd, 0, none⟩)] w fun e w' => DkO w.heap.size w e w' L S O ∧ Below w.heap.size w w' := by
  obtain ⟨V, hF⟩ := h.set
  have HLI : Hid (∀ w', Below w.heap.size w w' → Calls Try.prog 51 #[.pointer (some ⟨p, 0, none⟩)] w' (FlAns w' L)) := fun w' hb => list15_any w' (hF.under hb) hl (fun f hf => by have := (hL.sz f hf).1; omega)
  have HCD : Hid (∀ w' vL, Below w.heap.size w w' → FlV w' vL L → Calls Try.prog 52 #[.agg #[vL, vS, vO]] w' fun e w'' => DkO w'.heap.size w' e w'' L S O ∧ Below w'.heap.size w' w'') := fun w' vL hb hv => cdisk15_any vL vS vO L S O w' hL hS hO hv (hs.below hb) (DqV.of_own (h.under hb).ops)
  obtain ⟨sa, sc, rfl⟩ := hs.slice
  obtain ⟨oa, oc, rfl⟩ := ownQ_slice h.ops
  have HX : Hid (w.heap[wd]? = some (.cells #[.pointer (some ⟨p, 0, none⟩), .slice sa S.length sc, .slice oa O.length oc] 94 (0, 0))) := h.box
  have HLT : Hid (wd < w.heap.size) := (Array.getElem?_eq_some_iff.1 h.box).1
  have HB1 : Hid (Below w.heap.size w (w.alloc (.cells #[.slice none 0 0, .slice none 0 0, .slice none 0 0] 27))) := (Below.refl _ _).alloc (Nat.le_refl _) _
  have HZ1 : Hid ((w.alloc (.cells #[.slice none 0 0, .slice none 0 0, .slice none 0 0] 27)).heap[w.heap.size]? = some (.cells #[.slice none 0 0, .slice none 0 0, .slice none 0 0] 27 (0, 0))) := heap_alloc_new w _
  have HX1 : Hid ((w.alloc (.cells #[.slice none 0 0, .slice none 0 0, .slice none 0 0] 27)).heap[wd]? = some (.cells #[.pointer (some ⟨p, 0, none⟩), .slice sa S.length sc, .slice oa O.length oc] 94 (0, 0))) := (HB1.out.block _ HLT.out).trans HX.out
  clear h hs hF hL hS hO HX
  go_enter Try.func54, Try.ntmps54
  go_wp2_with fail
  generalize w.alloc (.cells #[.slice none 0 0, .slice none 0 0, .slice none 0 0] 27) = w1 at HB1 HZ1 HX1 ⊢
  obtain ⟨rk, hrk⟩ : ∃ rk, rk = w.heap.size := ⟨_, rfl⟩
  rw [← hrk] at HZ1 ⊢
  have HRK := hidF hrk
  clear hrk
  obtain ⟨SS, hS⟩ : ∃ SS : World → Prop, SS = fun w' => Below w.heap.size w w' ∧ w'.heap[wd]? = some (.cells #[.pointer (some ⟨p, 0, none⟩), .slice sa S.length sc, .slice oa O.length oc] 94 (0, 0)) ∧ (∃ p q r, w'.heap[rk]? = some (.cells #[p, q, r] 27 (0, 0))) := ⟨_, rfl⟩
  have hSd : SS w1.drew := by rw [hS]; exact ⟨HB1.out.drew, HX1.out, _, _, _, HZ1.out⟩
  have HSX : Hid (∀ w', SS w' → w'.cell? ⟨wd, 0, none⟩ = some (.pointer (some ⟨p, 0, none⟩)) ∧ w'.cell? ⟨wd, 1, none⟩ = some (.slice sa S.length sc) ∧ w'.cell? ⟨wd, 2, none⟩ = some (.slice oa O.length oc)) := fun w' hq => by
    rw [hS] at hq
    exact ⟨cell_of_row _ _ 0 _ _ _ hq.2.1, cell_of_row _ _ 1 _ _ _ hq.2.1, cell_of_row _ _ 2 _ _ _ hq.2.1⟩
  have HSI : Hid (∀ w' w'', SS w' → Below w'.heap.size w' w'' → SS w'') := fun w' w'' h1 hb => by
    rw [hS] at h1 ⊢
    exact ⟨blFl h1.1 hb h1.1.size, (hb.block _ (Array.getElem?_eq_some_iff.1 h1.2.1).1).trans h1.2.1, let ⟨p, q, r, h2⟩ := h1.2.2; ⟨p, q, r, (hb.block _ (Array.getElem?_eq_some_iff.1 h2).1).trans h2⟩⟩
  have HSZ : Hid (∀ w', SS w' → Below w.heap.size w w' ∧ ∃ p q r, w'.heap[rk]? = some (.cells #[p, q, r] 27 (0, 0))) := fun w' h => by rw [hS] at h; exact ⟨h.1, h.2.2⟩
  have HSB : Hid (∀ w' a b c, SS w' → SS (set3 w' rk a b c)) := fun w' a b c h => by
    rw [hS] at h ⊢
    obtain ⟨p, q, r, h2⟩ := h.2.2
    have h3 : w.heap.size ≤ rk := by have := HRK.out; omega
    exact ⟨((h.1.setCell (p := ⟨rk, 0, none⟩) h3 _).setCell (p := ⟨rk, 1, none⟩) h3 _).setCell (p := ⟨rk, 2, none⟩) h3 _, (set3_other _ _ _ (by have := HRK.out; have := HLT.out; omega)).trans h.2.1, _, _, _, heap_setCell_same _ _ _ _ _ _ (heap_setCell_same _ _ _ _ _ _ (heap_setCell_same _ _ _ _ _ _ h2))⟩
  clear hS HB1 HZ1 HX1
  refine wp_region_held (S := SS) (by kernel_rfl) ?_
  change wpAnyH _ _ _ _ _ _ _ _ (World.drew _)
  generalize hX2 : w1.drew = X2 at hSd ⊢
  clear hX2
  refine wpAnyH_take (i := 0) (v := .pointer (some ⟨wd, 0, none⟩)) rfl (by kernel_rfl) (by kernel_rfl) (by kernel_rfl) (fun _ _ _ h => h) (Or.inl ⟨by rfl, by intro w' hS'; go_simp <;> (first | omega | rfl | (rw [IntKind.wrap_i64]; omega))⟩) hSd ?_
  (try simp only [List.getElem_toArray, List.getElem_cons_succ, List.getElem_cons_zero, Act.put, List.setIfInBounds_toArray, List.set_cons_zero, List.set_cons_succ])
  refine wpAnyH_take (i := 1) (v := .pointer (some ⟨wd, 0, none⟩)) rfl (by kernel_rfl) (by kernel_rfl) (by kernel_rfl) (fun _ _ _ h => h) (Or.inl ⟨by rfl, by intro w' hS'; go_simp <;> (first | omega | rfl | (rw [IntKind.wrap_i64]; omega))⟩) hSd ?_
  (try simp only [List.getElem_toArray, List.getElem_cons_succ, List.getElem_cons_zero, Act.put, List.setIfInBounds_toArray, List.set_cons_zero, List.set_cons_succ])
  refine wpAnyH_take (i := 2) (v := .pointer (some ⟨wd, 0, none⟩)) rfl (by kernel_rfl) (by kernel_rfl) (by kernel_rfl) (fun _ _ _ h => h) (Or.inl ⟨by rfl, by intro w' hS'; go_simp <;> (first | omega | rfl | (rw [IntKind.wrap_i64]; omega))⟩) hSd ?_
  (try simp only [List.getElem_toArray, List.getElem_cons_succ, List.getElem_cons_zero, Act.put, List.setIfInBounds_toArray, List.set_cons_zero, List.set_cons_succ])
  refine wpAnyH_take (i := 3) (v := .pointer (some ⟨p, 0, none⟩)) rfl (by kernel_rfl) (by kernel_rfl) (by kernel_rfl) (fun _ _ _ h => h) (Or.inl ⟨by rfl, by intro w' hS'; obtain ⟨q1, q2, q3⟩ := HSX.out w' hS'; go_simp <;> (first | omega | rfl | (rw [IntKind.wrap_i64]; omega))⟩) hSd ?_
  (try simp only [List.getElem_toArray, List.getElem_cons_succ, List.getElem_cons_zero, Act.put, List.setIfInBounds_toArray, List.set_cons_zero, List.set_cons_succ])
  refine wpAnyH_take (i := 5) (v := .pointer (some ⟨wd, 0, none⟩)) rfl (by kernel_rfl) (by kernel_rfl) (by kernel_rfl) (fun _ _ _ h => h) (Or.inl ⟨by rfl, by intro w' hS'; go_simp <;> (first | omega | rfl | (rw [IntKind.wrap_i64]; omega))⟩) hSd ?_
  (try simp only [List.getElem_toArray, List.getElem_cons_succ, List.getElem_cons_zero, Act.put, List.setIfInBounds_toArray, List.set_cons_zero, List.set_cons_succ])
  refine wpAnyH_take (i := 6) (v := .pointer (some ⟨wd, 0, none⟩)) rfl (by kernel_rfl) (by kernel_rfl) (by kernel_rfl) (fun _ _ _ h => h) (Or.inl ⟨by rfl, by intro w' hS'; go_simp <;> (first | omega | rfl | (rw [IntKind.wrap_i64]; omega))⟩) hSd ?_
  (try simp only [List.getElem_toArray, List.getElem_cons_succ, List.getElem_cons_zero, Act.put, List.setIfInBounds_toArray, List.set_cons_zero, List.set_cons_succ])
  refine wpAnyH_take (i := 7) (v := .pointer (some ⟨wd, 1, none⟩)) rfl (by kernel_rfl) (by kernel_rfl) (by kernel_rfl) (fun _ _ _ h => h) (Or.inl ⟨by rfl, by intro w' hS'; go_simp <;> (first | omega | rfl | (rw [IntKind.wrap_i64]; omega))⟩) hSd ?_
  (try simp only [List.getElem_toArray, List.getElem_cons_succ, List.getElem_cons_zero, Act.put, List.setIfInBounds_toArray, List.set_cons_zero, List.set_cons_succ])
  refine wpAnyH_take (i := 8) (v := .slice sa S.length sc) rfl (by kernel_rfl) (by kernel_rfl) (by kernel_rfl) (fun _ _ _ h => h) (Or.inl ⟨by rfl, by intro w' hS'; obtain ⟨q1, q2, q3⟩ := HSX.out w' hS'; go_simp <;> (first | omega | rfl | (rw [IntKind.wrap_i64]; omega))⟩) hSd ?_
  (try simp only [List.getElem_toArray, List.getElem_cons_succ, List.getElem_cons_zero, Act.put, List.setIfInBounds_toArray, List.set_cons_zero, List.set_cons_succ])
  refine wpAnyH_take (i := 9) (v := .pointer (some ⟨wd, 0, none⟩)) rfl (by kernel_rfl) (by kernel_rfl) (by kernel_rfl) (fun _ _ _ h => h) (Or.inl ⟨by rfl, by intro w' hS'; go_simp <;> (first | omega | rfl | (rw [IntKind.wrap_i64]; omega))⟩) hSd ?_
  (try simp only [List.getElem_toArray, List.getElem_cons_succ, List.getElem_cons_zero, Act.put, List.setIfInBounds_toArray, List.set_cons_zero, List.set_cons_succ])
  refine wpAnyH_take (i := 10) (v := .pointer (some ⟨wd, 0, none⟩)) rfl (by kernel_rfl) (by kernel_rfl) (by kernel_rfl) (fun _ _ _ h => h) (Or.inl ⟨by rfl, by intro w' hS'; go_simp <;> (first | omega | rfl | (rw [IntKind.wrap_i64]; omega))⟩) hSd ?_
  (try simp only [List.getElem_toArray, List.getElem_cons_succ, List.getElem_cons_zero, Act.put, List.setIfInBounds_toArray, List.set_cons_zero, List.set_cons_succ])
  refine wpAnyH_take (i := 11) (v := .pointer (some ⟨wd, 2, none⟩)) rfl (by kernel_rfl) (by kernel_rfl) (by kernel_rfl) (fun _ _ _ h => h) (Or.inl ⟨by rfl, by intro w' hS'; go_simp <;> (first | omega | rfl | (rw [IntKind.wrap_i64]; omega))⟩) hSd ?_
  (try simp only [List.getElem_toArray, List.getElem_cons_succ, List.getElem_cons_zero, Act.put, List.setIfInBounds_toArray, List.set_cons_zero, List.set_cons_succ])
  refine wpAnyH_take (i := 12) (v := .slice oa O.length oc) rfl (by kernel_rfl) (by kernel_rfl) (by kernel_rfl) (fun _ _ _ h => h) (Or.inl ⟨by rfl, by intro w' hS'; obtain ⟨q1, q2, q3⟩ := HSX.out w' hS'; go_simp <;> (first | omega | rfl | (rw [IntKind.wrap_i64]; omega))⟩) hSd ?_
  (try simp only [List.getElem_toArray, List.getElem_cons_succ, List.getElem_cons_zero, Act.put, List.setIfInBounds_toArray, List.set_cons_zero, List.set_cons_succ])
  refine held_stepS (i := 4) (by kernel_rfl) rfl (by rfl) ?_
  go_simp
  refine (HLI.out _ (HSZ.out _ hSd).1).mono ?_
  rintro e w3 ⟨va, rfl, hwa⟩
  obtain ⟨ga, ca, rfl⟩ := ownF_slice hwa.own
  have HVA : Hid (FlV w3 (.slice ga L.length ca) L) := FlV.of_own hwa.own
  have hS3 := HSI.out _ _ hSd hwa.bel
  refine ⟨hS3, ?_⟩
  (try simp only [List.getElem_toArray, List.getElem_cons_succ, List.getElem_cons_zero, Act.put, List.setIfInBounds_toArray, List.set_cons_zero, List.set_cons_succ])
  clear hwa hSd
  refine wpAnyH_take (i := 13) (v := .agg #[.slice ga L.length ca, .slice sa S.length sc, .slice oa O.length oc]) rfl (by kernel_rfl) (by kernel_rfl) (by kernel_rfl) (fun _ _ _ h => h) (Or.inl ⟨by rfl, by intro w' hS'; go_simp <;> (first | omega | rfl | (rw [IntKind.wrap_i64]; omega))⟩) hS3 ?_
  (try simp only [List.getElem_toArray, List.getElem_cons_succ, List.getElem_cons_zero, Act.put, List.setIfInBounds_toArray, List.set_cons_zero, List.set_cons_succ])
  have hw3 := (HSZ.out _ hS3).1
  refine held_stepS (i := 14) (by kernel_rfl) rfl (by rfl) ?_
  go_simp
  refine (HCD.out _ _ hw3 HVA.out).mono ?_
  rintro e w4 ⟨⟨va, vb, vc, rfl, o1, o2, o3, o4, o5⟩, hb4⟩
  obtain ⟨g1, c1, rfl⟩ := ownF_slice o1
  obtain ⟨g2, c2, rfl⟩ := ownF_slice o2
  obtain ⟨g3, c3, rfl⟩ := ownQ_slice o3
  have hS4 := HSI.out _ _ hS3 hb4
  obtain ⟨hw4, p0, q0, r0, hz4⟩ := HSZ.out _ hS4
  have HZ4 := hidF hz4
  have h3 : w.heap.size ≤ rk := by have := HRK.out; omega
  have hrk3 : rk < w3.heap.size := by obtain ⟨_, _, _, h⟩ := (HSZ.out _ hS3).2; exact (Array.getElem?_eq_some_iff.1 h).1
  have HB9 : Hid (Below w.heap.size w (set3 w4 rk (.slice g1 L.length c1) (.slice g2 S.length c2) (.slice g3 O.length c3))) := ((hw4.setCell (p := ⟨rk, 0, none⟩) h3 _).setCell (p := ⟨rk, 1, none⟩) h3 _).setCell (p := ⟨rk, 2, none⟩) h3 _
  have HR9 : Hid ((set3 w4 rk (.slice g1 L.length c1) (.slice g2 S.length c2) (.slice g3 O.length c3)).heap[rk]? = some (.cells #[.slice g1 L.length c1, .slice g2 S.length c2, .slice g3 O.length c3] 27 (0, 0))) := heap_setCell_same _ _ _ _ _ _ (heap_setCell_same _ _ _ _ _ _ (heap_setCell_same _ _ _ _ _ _ hz4))
  have HO9 : Hid (DkO w.heap.size w (.returned (.agg #[.slice g1 L.length c1, .slice g2 S.length c2, .slice g3 O.length c3])) (set3 w4 rk (.slice g1 L.length c1) (.slice g2 S.length c2) (.slice g3 O.length c3)) L S O) := by
    have hle := hw3.size
    exact ⟨_, _, _, rfl, ownF_base (ownK_keep o1 fun k hk => set3_other _ _ _ (by have := (o1.lt k hk).1; omega)) hle, ownF_base (ownK_keep o2 fun k hk => set3_other _ _ _ (by have := (o2.lt k hk).1; omega)) hle, ownF_base (ownK_keep o3 fun k hk => set3_other _ _ _ (by have := (o3.lt k hk).1; omega)) hle, o4, o5⟩
  refine ⟨hS4, ?_⟩
  (try simp only [List.getElem_toArray, List.getElem_cons_succ, List.getElem_cons_zero, Act.put, List.setIfInBounds_toArray, List.set_cons_zero, List.set_cons_succ])
  clear o1 o2 o3 o4 o5 hb4 hS3 hw3 hw4 hz4 h3 hrk3
  have z0 := cell_of_row _ _ 0 _ _ _ HZ4.out
  have z1 := cell_of_row _ _ 1 _ _ _ HZ4.out
  have z2 := cell_of_row _ _ 2 _ _ _ HZ4.out
  have f0 := frozen_of_row _ _ 0 _ _ HZ4.out
  have f1 := frozen_of_row _ _ 1 _ _ HZ4.out
  have f2 := frozen_of_row _ _ 2 _ _ HZ4.out
  refine held_step (i := 15) (by kernel_rfl) rfl (by rfl) ?_
  have hS9 := HSB.out w4 (.slice g1 L.length c1) (.slice g2 S.length c2) (.slice g3 O.length c3) hS4
  go_simp
  refine ⟨hS9, ?_⟩
  (try simp only [List.getElem_toArray, List.getElem_cons_succ, List.getElem_cons_zero, Act.put, List.setIfInBounds_toArray, List.set_cons_zero, List.set_cons_succ])
  clear hS9 hS4 HSX HSI HSZ HSB z0 z1 z2 f0 f1 f2
  refine wpAnyH_done (by kernel_rfl) ?_ _
  go_wp2_with fail
  exact bodyPost_ret (results_cell_row rfl _ _ rk 27 #[.slice g1 L.length c1, .slice g2 S.length c2, .slice g3 O.length c3] (0, 0) _ rfl HR9.out Try.underlying27 rfl (by kernel_rfl)) rfl ⟨HO9.out, HB9.out⟩
end Go.Proofs.Ytanlggglbpibfaa
