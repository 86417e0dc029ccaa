/-
  Sync: the specification's.
-/
import Derived.Test.YtanlggglbpibfaaFsS
namespace Go.Proofs.Ytanlggglbpibfaa
open Go.RowKit
set_option linter.unusedVariables false
set_option linter.unusedSimpArgs false
/-- append of a list of files, as one operation -/
theorem append_fls1 {P : Program} {w : World} {o : Oper} {a : Act} {K : Act → World → Prop} {Q : Exit → Act → World → Prop} (s x : Operand) (t : TypeId)
    (ho : o.op = .call { callee := .builtin .append, args := #[s, x], argTypes := #[t, t] })
    (base : Nat) (i : TypeInfo) (z : Value) (ht : P.underlying t = some (.slice 88)) (hi : P.info? 88 = some i) (hz : i.zero = some z)
    (hsize : i.size = 2) (hby : i.bytes = 32) (hzs : z.cells.size = 2)
    (v u : Value) (L M : List FlI) (hs : a.eval s = v) (hown : w.ownsRow base 88 2 v L.length (flC L)) (hx : a.eval x = u) (hv : FlV w u M)
    (hn : L.length + M.length ≤ 4000000) (hbase : base ≤ w.heap.size)
    (h : ∀ v' w', w'.ownsRow base 88 2 v' (L ++ M).length (flC (L ++ M)) → w.grownBy w' v.ownBlock → K (a.put o.dst v') w') : o.wp P a w K Q := by
  rcases hv with ⟨he, rfl⟩ | ⟨g, c, he, hc⟩
  · have hrun := run_append_owned_none (P := P) (w := w) base t o.type 88 i 2 ht hi v L.length (flC L) hown
    unfold Oper.wp
    simp [execOp, ho, resolve, invoke, builtin, hs, hx.trans he, hrun, Result.andThen]
    exact h v w (by rw [List.append_nil]; exact hown) (World.grownBy.refl _ _)
  · exact wp_append_own w s x t ho base 88 i z 2 32 ht hi hz hsize hby hzs (by decide) v L.length (flC L) hs hown ⟨g, 0, none⟩ M.length c (flC M) (hx.trans he) (by rw [flC_len]; omega) (flC_cells hc) (flC_one M) (by unfold maxLen; omega) (by omega) hbase
      (fun v' w' h1 h2 _ => h v' w' (by rw [flC_app, List.length_append]; exact h1) h2)
theorem own_grown {w w' : World} {B z n : Nat} {e : TypeId} {v : Value} {xs : List Value} {o : Option Nat} (h : w.ownsRow B e z v n xs) (hg : w.grownBy w' o) (hne : ∀ k, v.ownBlock = some k → o ≠ some k) : w'.ownsRow B e z v n xs :=
  ownK_keep h fun k hk => hg.block k (h.lt k hk).2 (fun c => hne k hk c.symm)
theorem flv_grown {w w' : World} {B k : Nat} {v : Value} {L : List FlI} (h : w.ownsRow B 88 2 v L.length (flC L)) (hk : w.heap[k]? = some (.cells #[] 88 (0, 0))) (hg : w.grownBy w' (some k)) : FlV w' v L := by
  by_cases hL : L = []
  · subst hL
    obtain ⟨_, ⟨h0, _⟩ | ⟨g, cap, cur, h1, h2, h3, _⟩⟩ := h
    · exact Or.inl ⟨h0, rfl⟩
    · exact Or.inr ⟨g, cap, h1, ⟨Nat.lt_of_lt_of_le (Array.getElem?_eq_some_iff.1 h3).1 hg.size, fun i hi => absurd hi (Nat.not_lt_zero _), fun i hi => absurd hi (Nat.not_lt_zero _)⟩⟩
  · refine FlV.of_own (own_grown h hg fun j hj c => ?_)
    have e := Option.some.inj c
    subst e
    obtain ⟨g, cap, cur, h1, _, h3, h4, _⟩ := ownF_form h (List.length_pos_iff.2 hL)
    subst h1
    have e : g = k := Option.some.inj hj
    subst e
    rw [hk] at h3
    injection h3 with h3
    injection h3 with h3 _ _
    subst h3
    have := List.length_pos_iff.2 hL
    simp at h4
    omega
theorem made0 (w : World) : (w.alloc (.cells #[] 88)).ownsRow w.heap.size 88 2 (.slice (some ⟨w.heap.size, 0, none⟩) 0 0) ([] : List FlI).length (flC []) := World.ownsRow_made (e := 88) (size := 2) w #[] 0 (Nat.le_refl _) (by unfold maxLen; omega) rfl
set_option maxRecDepth 100000 in
set_option maxHeartbeats 4000000 in
theorem ssync15_any (vL vS vO : Value) (L S : List FlI) (O : List DqI) (w : World) (hL : FlLe L) (hS : FlLe S) (hO : DqLe O) (h1 : FlV w vL L) (h2 : FlV w vS S) (h3 : DqV w vO O) :
    Calls Try.prog 33 #[.agg #[vL, vS, vO]] w fun e w' => (∃ a b c, e = .returned (.agg #[a, b, c]) ∧ FlV w' a (syL L S O) ∧ FlV w' b (syL L S O) ∧ DqV w' c []) ∧ Below w.heap.size w w' := by
  have HDK : Hid (∀ w', Below w.heap.size w w' → Calls Try.prog 15 #[.agg #[vL, vS, vO]] w' fun e w'' => e = .returned (.bool (dkB L S O)) ∧ Below w'.heap.size w' w'') := fun w' hb => sdisk_any vL vS vO L S O w' hL hS hO (h1.below hb) (h2.below hb) (h3.below hb)
  have HV : Hid (∀ w', Below w.heap.size w w' → FlV w' vL L) := fun w' hb => h1.below hb
  obtain ⟨al, cl, rfl⟩ := h1.slice
  have HX1 : Hid (((w.alloc (.cells #[.slice al L.length cl, vS, vO] 27)).alloc (.cells #[.slice none 0 0, .slice none 0 0, .slice none 0 0] 27)).heap[w.heap.size]? = some (.cells #[.slice al L.length cl, vS, vO] 27 (0, 0)) ∧ ((w.alloc (.cells #[.slice al L.length cl, vS, vO] 27)).alloc (.cells #[.slice none 0 0, .slice none 0 0, .slice none 0 0] 27)).heap[w.heap.size + 1]? = some (.cells #[.slice none 0 0, .slice none 0 0, .slice none 0 0] 27 (0, 0))) := by
    refine ⟨?_, ?_⟩
    · rw [Below.heap_alloc _ _ _ (by simp), heap_alloc_new]
    · have := heap_alloc_new (w.alloc (.cells #[.slice al L.length cl, vS, vO] 27)) (.cells #[.slice none 0 0, .slice none 0 0, .slice none 0 0] 27)
      rw [World.size_alloc] at this
      exact this
  have HB1 : Hid (Below w.heap.size w ((w.alloc (.cells #[.slice al L.length cl, vS, vO] 27)).alloc (.cells #[.slice none 0 0, .slice none 0 0, .slice none 0 0] 27))) := ((Below.refl _ _).alloc (Nat.le_refl _) _).alloc (by simp) _
  have HLN := hidF hL.len
  obtain ⟨i0, hi0, hz0, hz1, hz2⟩ := info_parts Try.infFl
  have hi : Option.map (·.size) (Try.prog.info? 27) = some 3 := by kernel_rfl
  clear hL hS hO h1 h2 h3
  go_enter Try.func33, Try.ntmps33
  go_wp2_with fail
  have hdk := HDK.out _ HB1.out
  generalize (w.alloc (.cells #[.slice al L.length cl, vS, vO] 27)).alloc (.cells #[.slice none 0 0, .slice none 0 0, .slice none 0 0] 27) = w1 at HB1 HX1 hdk ⊢
  obtain ⟨bk, hbk⟩ : ∃ bk, bk = w.heap.size := ⟨_, rfl⟩
  obtain ⟨rk, hrk⟩ : ∃ rk, rk = w.heap.size + 1 := ⟨_, rfl⟩
  have HBK : Hid (bk = w.heap.size ∧ rk = w.heap.size + 1) := ⟨hbk, hrk⟩
  rw [← hrk, ← hbk] at HX1 ⊢
  clear hbk hrk
  refine hdk.mono ?_
  rintro e w2 ⟨rfl, hb2⟩
  have HX2 : Hid (w2.heap[bk]? = some (.cells #[.slice al L.length cl, vS, vO] 27 (0, 0)) ∧ w2.heap[rk]? = some (.cells #[.slice none 0 0, .slice none 0 0, .slice none 0 0] 27 (0, 0))) := ⟨(hb2.block _ (Array.getElem?_eq_some_iff.1 HX1.out.1).1).trans HX1.out.1, (hb2.block _ (Array.getElem?_eq_some_iff.1 HX1.out.2).1).trans HX1.out.2⟩
  have HB2 := hidF (blFl HB1.out hb2 HB1.out.size)
  have h3 : w.heap.size ≤ rk := by have := HBK.out; omega
  clear hb2 HB1 HX1 hdk
  by_cases hd : diskP L S O
  rotate_left
  · have HE : Hid (syL L S O = []) := syL_no hd
    rw [dkB_no hd]
    have HB9 : Hid (Below w.heap.size w (set3 w2 rk (.slice none 0 0) (.slice none 0 0) (.slice none 0 0))) := ((HB2.out.setCell (p := ⟨rk, 0, none⟩) h3 _).setCell (p := ⟨rk, 1, none⟩) h3 _).setCell (p := ⟨rk, 2, none⟩) h3 _
    have HR9 : Hid ((set3 w2 rk (.slice none 0 0) (.slice none 0 0) (.slice none 0 0)).heap[rk]? = some (.cells #[.slice none 0 0, .slice none 0 0, .slice none 0 0] 27 (0, 0))) := heap_setCell_same _ _ _ _ _ _ (heap_setCell_same _ _ _ _ _ _ (heap_setCell_same _ _ _ _ _ _ HX2.out.2))
    have z0 := cell_of_row _ _ 0 _ _ _ HX2.out.2
    have z1 := cell_of_row _ _ 1 _ _ _ HX2.out.2
    have z2 := cell_of_row _ _ 2 _ _ _ HX2.out.2
    have f0 := frozen_of_row _ _ 0 _ _ HX2.out.2
    have f1 := frozen_of_row _ _ 1 _ _ HX2.out.2
    have f2 := frozen_of_row _ _ 2 _ _ HX2.out.2
    clear hd h3
    go_wp2_with fail
    exact bodyPost_ret (results_cell_row rfl _ _ rk 27 #[.slice none 0 0, .slice none 0 0, .slice none 0 0] (0, 0) _ rfl HR9.out Try.underlying27 rfl (by kernel_rfl)) rfl ⟨⟨_, _, _, rfl, by rw [HE.out]; exact Or.inl ⟨rfl, rfl⟩, by rw [HE.out]; exact Or.inl ⟨rfl, rfl⟩, Or.inl ⟨rfl, rfl⟩⟩, HB9.out⟩
  have HE : Hid (syL L S O = L) := syL_yes hd
  rw [dkB_yes hd]
  clear hd
  go_wp2_with fail
  obtain ⟨SS, hS⟩ : ∃ SS : World → Prop, SS = fun w' => Below w.heap.size w w' ∧ w'.heap[bk]? = some (.cells #[.slice al L.length cl, vS, vO] 27 (0, 0)) ∧ ∃ p q r, w'.heap[rk]? = some (.cells #[p, q, r] 27 (0, 0)) := ⟨_, rfl⟩
  have hSd : SS w2.drew := by rw [hS]; exact ⟨HB2.out.drew, HX2.out.1, _, _, _, HX2.out.2⟩
  have HSX : Hid (∀ w', SS w' → w'.cell? ⟨bk, 0, none⟩ = some (.slice al L.length cl)) := fun w' hq => by
    rw [hS] at hq
    exact cell_of_row _ _ 0 _ _ _ hq.2.1
  have HSV : Hid (∀ w', SS w' → FlV w' (.slice al L.length cl) L) := fun w' hq => by
    rw [hS] at hq
    exact HV.out _ hq.1
  have HSE : Hid (∀ w', SS w' → Below w.heap.size w w' ∧ rk < w'.heap.size ∧ ∃ p q r, w'.heap[rk]? = some (.cells #[p, q, r] 27 (0, 0))) := fun w' hq => by
    rw [hS] at hq
    exact ⟨hq.1, (let ⟨_, _, _, h⟩ := hq.2.2; (Array.getElem?_eq_some_iff.1 h).1), hq.2.2⟩
  have HSI : Hid (∀ w' w'', SS w' → Below w'.heap.size w' w'' → SS w'') := fun w' w'' h1 hb => by
    rw [hS] at h1 ⊢
    obtain ⟨h1, h2, p, q, r, h3⟩ := h1
    exact ⟨blFl h1 hb h1.size, (hb.block _ (Array.getElem?_eq_some_iff.1 h2).1).trans h2, p, q, r, (hb.block _ (Array.getElem?_eq_some_iff.1 h3).1).trans h3⟩
  have HSG : Hid (∀ w' w'' (k : Nat), SS w' → w'.grownBy w'' (some k) → rk < k → SS w'') := fun w' w'' k h1 hg hk => by
    rw [hS] at h1 ⊢
    obtain ⟨h1, h2, p, q, r, h3⟩ := h1
    have hbk := HBK.out
    exact ⟨h1.grown hg h1.size (fun j hj => by have e := Option.some.inj hj; omega), (hg.block _ (Array.getElem?_eq_some_iff.1 h2).1 (fun c => by have e := Option.some.inj c; omega)).trans h2, p, q, r, (hg.block _ (Array.getElem?_eq_some_iff.1 h3).1 (fun c => by have e := Option.some.inj c; omega)).trans h3⟩
  have HSB : Hid (∀ w' a b c, SS w' → SS (set3 w' rk a b c)) := fun w' a b c h => by
    rw [hS] at h ⊢
    obtain ⟨h1, h2, p, q, r, h4⟩ := h
    exact ⟨((h1.setCell (p := ⟨rk, 0, none⟩) h3 _).setCell (p := ⟨rk, 1, none⟩) h3 _).setCell (p := ⟨rk, 2, none⟩) h3 _, (set3_other _ _ _ (by have := HBK.out; omega)).trans h2, _, _, _, heap_setCell_same _ _ _ _ _ _ (heap_setCell_same _ _ _ _ _ _ (heap_setCell_same _ _ _ _ _ _ h4))⟩
  have hlen : L.length ≤ 1100000 := HLN.out
  clear hS HB2 HX2
  refine wp_region_held (S := SS) (by kernel_rfl) ?_
  change wpAnyH _ _ _ _ _ _ _ _ (World.drew _)
  generalize hX2 : w2.drew = X0 at hSd ⊢
  clear hX2
  refine wpAnyH_take (i := 1) (v := .pointer (some ⟨bk, 0, none⟩)) rfl (by kernel_rfl) (by kernel_rfl) (by kernel_rfl) (fun _ _ _ h => h) (Or.inl ⟨by rfl, by intro w' hS'; go_simp <;> (first | omega | rfl | (rw [IntKind.wrap_i64]; omega))⟩) hSd ?_
  (try simp only [List.getElem_toArray, List.getElem_cons_succ, List.getElem_cons_zero, Act.put, List.setIfInBounds_toArray, List.set_cons_zero, List.set_cons_succ])
  refine wpAnyH_take (i := 2) (v := .slice al L.length cl) rfl (by kernel_rfl) (by kernel_rfl) (by kernel_rfl) (fun _ _ _ h => h) (Or.inl ⟨by rfl, by intro w' hS'; have q1 := HSX.out w' hS'; go_simp <;> (first | omega | rfl | (rw [IntKind.wrap_i64]; omega))⟩) hSd ?_
  (try simp only [List.getElem_toArray, List.getElem_cons_succ, List.getElem_cons_zero, Act.put, List.setIfInBounds_toArray, List.set_cons_zero, List.set_cons_succ])
  refine wpAnyH_take (i := 5) (v := .pointer (some ⟨bk, 0, none⟩)) rfl (by kernel_rfl) (by kernel_rfl) (by kernel_rfl) (fun _ _ _ h => h) (Or.inl ⟨by rfl, by intro w' hS'; go_simp <;> (first | omega | rfl | (rw [IntKind.wrap_i64]; omega))⟩) hSd ?_
  (try simp only [List.getElem_toArray, List.getElem_cons_succ, List.getElem_cons_zero, Act.put, List.setIfInBounds_toArray, List.set_cons_zero, List.set_cons_succ])
  refine wpAnyH_take (i := 6) (v := .slice al L.length cl) rfl (by kernel_rfl) (by kernel_rfl) (by kernel_rfl) (fun _ _ _ h => h) (Or.inl ⟨by rfl, by intro w' hS'; have q1 := HSX.out w' hS'; go_simp <;> (first | omega | rfl | (rw [IntKind.wrap_i64]; omega))⟩) hSd ?_
  (try simp only [List.getElem_toArray, List.getElem_cons_succ, List.getElem_cons_zero, Act.put, List.setIfInBounds_toArray, List.set_cons_zero, List.set_cons_succ])
  have hrk0 := (HSE.out _ hSd).2.1
  refine held_two (i := 0) (k := 4) (by kernel_rfl) rfl rfl (by rfl) (by rfl) ?_ ?_
  · go_simp
    have hSn := HSI.out _ _ hSd ((Below.refl _ _).alloc (Nat.le_refl _) (.cells #[] 88))
    have OA := hidF (made0 X0)
    have RA : Hid ((X0.alloc (.cells #[] 88)).heap[X0.heap.size]? = some (.cells #[] 88 (0, 0))) := heap_alloc_new _ _
    have HKk1 : Hid (rk < X0.heap.size) := (HSE.out _ hSd).2.1
    have HBk1 : Hid (Below X0.heap.size X0 (X0.alloc (.cells #[] 88))) := (Below.refl _ _).alloc (Nat.le_refl _) _
    refine ⟨hSn, ?_⟩
    (try simp only [List.getElem_toArray, List.getElem_cons_succ, List.getElem_cons_zero, Act.put, List.setIfInBounds_toArray, List.set_cons_zero, List.set_cons_succ])
    generalize hY : X0.alloc (.cells #[] 88) = Y1 at hSn OA RA HBk1 ⊢
    clear hY
    obtain ⟨k1, hk1⟩ : ∃ k1, k1 = X0.heap.size := ⟨_, rfl⟩
    have HEk1 := hidF hk1
    rw [← hk1] at OA RA HKk1 ⊢
    clear hk1
    refine held_two (i := 3) (k := 4) (by kernel_rfl) rfl rfl (by rfl) (by rfl) ?_ ?_
    · refine append_fls1 _ _ 24 rfl k1 i0 _ Try.underlying24 hi0 hz0 hz1 hz2 rfl _ _ [] L rfl OA.out rfl (HSV.out _ hSn) (by simp; omega) (by have := (OA.out.lt k1 rfl).2; omega) ?_
      intro v3 w3 hown hgrow
      obtain ⟨g3, c3, rfl⟩ := ownF_slice hown
      have OWN3 : Hid (w3.ownsRow k1 88 2 (.slice g3 L.length c3) L.length (flC L)) := (show w3.ownsRow k1 88 2 (.slice g3 L.length c3) L.length (flC L) by simpa using hown)
      have GR3 : Hid (Y1.grownBy w3 (some k1)) := hgrow
      have hS3 := HSG.out _ _ k1 hSn hgrow HKk1.out
      refine ⟨hS3, ?_⟩
      (try simp only [List.getElem_toArray, List.getElem_cons_succ, List.getElem_cons_zero, Act.put, List.setIfInBounds_toArray, List.set_cons_zero, List.set_cons_succ])
      clear hown hgrow
      refine held_stepS (i := 4) (by kernel_rfl) rfl (by rfl) ?_
      go_simp
      have hSm := HSI.out _ _ hS3 ((Below.refl _ _).alloc (Nat.le_refl _) (.cells #[] 88))
      have OB := hidF (made0 w3)
      have RB : Hid ((w3.alloc (.cells #[] 88)).heap[w3.heap.size]? = some (.cells #[] 88 (0, 0))) := heap_alloc_new _ _
      have HKk4 : Hid (rk < w3.heap.size) := (HSE.out _ hS3).2.1
      have HBk4 : Hid (Below w3.heap.size w3 (w3.alloc (.cells #[] 88))) := (Below.refl _ _).alloc (Nat.le_refl _) _
      refine ⟨hSm, ?_⟩
      (try simp only [List.getElem_toArray, List.getElem_cons_succ, List.getElem_cons_zero, Act.put, List.setIfInBounds_toArray, List.set_cons_zero, List.set_cons_succ])
      generalize hY : w3.alloc (.cells #[] 88) = Y4 at hSm OB RB HBk4 ⊢
      clear hY
      obtain ⟨k4, hk4⟩ : ∃ k4, k4 = w3.heap.size := ⟨_, rfl⟩
      have HEk4 := hidF hk4
      rw [← hk4] at OB RB HKk4 ⊢
      clear hk4
      have OWN3b := hidF (ownF_call OWN3.out HBk4.out)
      clear OWN3
      have OWN3 := OWN3b
      clear OWN3b
      refine held_stepS (i := 7) (by kernel_rfl) rfl (by rfl) ?_
      refine append_fls1 _ _ 24 rfl k4 i0 _ Try.underlying24 hi0 hz0 hz1 hz2 rfl _ _ [] L rfl OB.out rfl (HSV.out _ hSm) (by simp; omega) (by have := (OB.out.lt k4 rfl).2; omega) ?_
      intro v7 w7 hown hgrow
      obtain ⟨g7, c7, rfl⟩ := ownF_slice hown
      have OWN7 : Hid (w7.ownsRow k4 88 2 (.slice g7 L.length c7) L.length (flC L)) := (show w7.ownsRow k4 88 2 (.slice g7 L.length c7) L.length (flC L) by simpa using hown)
      have HF3 : Hid (KFl rk w7 (.slice g3 L.length c3) L) := ⟨flv_grown OWN3.out RB.out hgrow, fun j hj => Nat.lt_of_lt_of_le HKk1.out (OWN3.out.lt j hj).1⟩
      have HF7 : Hid (KFl rk w7 (.slice g7 L.length c7) L) := ⟨FlV.of_own OWN7.out, fun j hj => Nat.lt_of_lt_of_le HKk4.out (OWN7.out.lt j hj).1⟩
      have hS7 := HSG.out _ _ k4 hSm hgrow HKk4.out
      refine ⟨hS7, ?_⟩
      (try simp only [List.getElem_toArray, List.getElem_cons_succ, List.getElem_cons_zero, Act.put, List.setIfInBounds_toArray, List.set_cons_zero, List.set_cons_succ])
      clear hown hgrow
      refine wpAnyH_take (i := 8) (v := .agg #[.slice g3 L.length c3, .slice g7 L.length c7, .slice none 0 0]) rfl (by kernel_rfl) (by kernel_rfl) (by kernel_rfl) (fun _ _ _ h => h) (Or.inl ⟨by rfl, by intro w' hS'; go_simp <;> (first | omega | rfl | (rw [IntKind.wrap_i64]; omega))⟩) hS7 ?_
      (try simp only [List.getElem_toArray, List.getElem_cons_succ, List.getElem_cons_zero, Act.put, List.setIfInBounds_toArray, List.set_cons_zero, List.set_cons_succ])
      obtain ⟨hb7, _, p0, q0, r0, hz4⟩ := HSE.out _ hS7
      have HB9 : Hid (Below w.heap.size w (set3 w7 rk (.slice g3 L.length c3) (.slice g7 L.length c7) (.slice none 0 0))) := ((hb7.setCell (p := ⟨rk, 0, none⟩) h3 _).setCell (p := ⟨rk, 1, none⟩) h3 _).setCell (p := ⟨rk, 2, none⟩) h3 _
      have HR9 : Hid ((set3 w7 rk (.slice g3 L.length c3) (.slice g7 L.length c7) (.slice none 0 0)).heap[rk]? = some (.cells #[.slice g3 L.length c3, .slice g7 L.length c7, .slice none 0 0] 27 (0, 0))) := heap_setCell_same _ _ _ _ _ _ (heap_setCell_same _ _ _ _ _ _ (heap_setCell_same _ _ _ _ _ _ hz4))
      have HO9 : Hid (FlV (set3 w7 rk (.slice g3 L.length c3) (.slice g7 L.length c7) (.slice none 0 0)) (.slice g3 L.length c3) L ∧ FlV (set3 w7 rk (.slice g3 L.length c3) (.slice g7 L.length c7) (.slice none 0 0)) (.slice g7 L.length c7) L) := ⟨(((HF3.out.put 0 _).put 1 _).put 2 _).1, (((HF7.out.put 0 _).put 1 _).put 2 _).1⟩
      have z0 := cell_of_row _ _ 0 _ _ _ hz4
      have z1 := cell_of_row _ _ 1 _ _ _ hz4
      have z2 := cell_of_row _ _ 2 _ _ _ hz4
      have f0 := frozen_of_row _ _ 0 _ _ hz4
      have f1 := frozen_of_row _ _ 1 _ _ hz4
      have f2 := frozen_of_row _ _ 2 _ _ hz4
      have hS9 := HSB.out w7 (.slice g3 L.length c3) (.slice g7 L.length c7) (.slice none 0 0) hS7
      clear hz4
      refine held_step (i := 9) (by kernel_rfl) rfl (by rfl) ?_
      go_simp
      refine ⟨hS9, ?_⟩
      (try simp only [List.getElem_toArray, List.getElem_cons_succ, List.getElem_cons_zero, Act.put, List.setIfInBounds_toArray, List.set_cons_zero, List.set_cons_succ])
      clear hS9 hS7 HSX HSI HSE HSB HSG HSV z0 z1 z2 f0 f1 f2
      refine wpAnyH_done (by kernel_rfl) ?_ _
      go_wp2_with fail
      exact bodyPost_ret (results_cell_row rfl _ _ rk 27 #[.slice g3 L.length c3, .slice g7 L.length c7, .slice none 0 0] (0, 0) _ rfl HR9.out Try.underlying27 rfl (by kernel_rfl)) rfl ⟨⟨_, _, _, rfl, by rw [HE.out]; exact HO9.out.1, by rw [HE.out]; exact HO9.out.2, Or.inl ⟨rfl, rfl⟩⟩, HB9.out⟩
    · go_simp
      have hSm := HSI.out _ _ hSn ((Below.refl _ _).alloc (Nat.le_refl _) (.cells #[] 88))
      have OB := hidF (made0 Y1)
      have RB : Hid ((Y1.alloc (.cells #[] 88)).heap[Y1.heap.size]? = some (.cells #[] 88 (0, 0))) := heap_alloc_new _ _
      have HKk2 : Hid (rk < Y1.heap.size) := (HSE.out _ hSn).2.1
      have HBk2 : Hid (Below Y1.heap.size Y1 (Y1.alloc (.cells #[] 88))) := (Below.refl _ _).alloc (Nat.le_refl _) _
      refine ⟨hSm, ?_⟩
      (try simp only [List.getElem_toArray, List.getElem_cons_succ, List.getElem_cons_zero, Act.put, List.setIfInBounds_toArray, List.set_cons_zero, List.set_cons_succ])
      generalize hY : Y1.alloc (.cells #[] 88) = Y2 at hSm OB RB HBk2 ⊢
      clear hY
      obtain ⟨k2, hk2⟩ : ∃ k2, k2 = Y1.heap.size := ⟨_, rfl⟩
      have HEk2 := hidF hk2
      rw [← hk2] at OB RB HKk2 ⊢
      clear hk2
      have OA2 := hidF (ownF_call OA.out HBk2.out)
      have hne : k1 < k2 := by have := (OA.out.lt k1 rfl).2; have := HEk2.out; omega
      refine held_stepS (i := 3) (by kernel_rfl) rfl (by rfl) ?_
      refine append_fls1 _ _ 24 rfl k1 i0 _ Try.underlying24 hi0 hz0 hz1 hz2 rfl _ _ [] L rfl OA2.out rfl (HSV.out _ hSm) (by simp; omega) (by have := (OA2.out.lt k1 rfl).2; omega) ?_
      intro v3 w3 hown hgrow
      obtain ⟨g3, c3, rfl⟩ := ownF_slice hown
      have OWN3 : Hid (w3.ownsRow k1 88 2 (.slice g3 L.length c3) L.length (flC L)) := (show w3.ownsRow k1 88 2 (.slice g3 L.length c3) L.length (flC L) by simpa using hown)
      have GR3 : Hid (Y2.grownBy w3 (some k1)) := hgrow
      have hS3 := HSG.out _ _ k1 hSm hgrow HKk1.out
      refine ⟨hS3, ?_⟩
      (try simp only [List.getElem_toArray, List.getElem_cons_succ, List.getElem_cons_zero, Act.put, List.setIfInBounds_toArray, List.set_cons_zero, List.set_cons_succ])
      clear hown hgrow
      have RB3 : Hid (w3.heap[k2]? = some (.cells #[] 88 (0, 0))) := (GR3.out.block _ (Array.getElem?_eq_some_iff.1 RB.out).1 (fun c => by have e := Option.some.inj c; omega)).trans RB.out
      have OB3 := hidF (own_grown OB.out GR3.out fun j hj c => by have e := Option.some.inj c; have e2 : k2 = j := Option.some.inj hj; omega)
      refine held_stepS (i := 7) (by kernel_rfl) rfl (by rfl) ?_
      refine append_fls1 _ _ 24 rfl k2 i0 _ Try.underlying24 hi0 hz0 hz1 hz2 rfl _ _ [] L rfl OB3.out rfl (HSV.out _ hS3) (by simp; omega) (by have := (OB3.out.lt k2 rfl).2; omega) ?_
      intro v7 w7 hown hgrow
      obtain ⟨g7, c7, rfl⟩ := ownF_slice hown
      have OWN7 : Hid (w7.ownsRow k2 88 2 (.slice g7 L.length c7) L.length (flC L)) := (show w7.ownsRow k2 88 2 (.slice g7 L.length c7) L.length (flC L) by simpa using hown)
      have HF3 : Hid (KFl rk w7 (.slice g3 L.length c3) L) := ⟨flv_grown OWN3.out RB3.out hgrow, fun j hj => Nat.lt_of_lt_of_le HKk1.out (OWN3.out.lt j hj).1⟩
      have HF7 : Hid (KFl rk w7 (.slice g7 L.length c7) L) := ⟨FlV.of_own OWN7.out, fun j hj => Nat.lt_of_lt_of_le HKk2.out (OWN7.out.lt j hj).1⟩
      have hS7 := HSG.out _ _ k2 hS3 hgrow HKk2.out
      refine ⟨hS7, ?_⟩
      (try simp only [List.getElem_toArray, List.getElem_cons_succ, List.getElem_cons_zero, Act.put, List.setIfInBounds_toArray, List.set_cons_zero, List.set_cons_succ])
      clear hown hgrow
      refine wpAnyH_take (i := 8) (v := .agg #[.slice g3 L.length c3, .slice g7 L.length c7, .slice none 0 0]) rfl (by kernel_rfl) (by kernel_rfl) (by kernel_rfl) (fun _ _ _ h => h) (Or.inl ⟨by rfl, by intro w' hS'; go_simp <;> (first | omega | rfl | (rw [IntKind.wrap_i64]; omega))⟩) hS7 ?_
      (try simp only [List.getElem_toArray, List.getElem_cons_succ, List.getElem_cons_zero, Act.put, List.setIfInBounds_toArray, List.set_cons_zero, List.set_cons_succ])
      obtain ⟨hb7, _, p0, q0, r0, hz4⟩ := HSE.out _ hS7
      have HB9 : Hid (Below w.heap.size w (set3 w7 rk (.slice g3 L.length c3) (.slice g7 L.length c7) (.slice none 0 0))) := ((hb7.setCell (p := ⟨rk, 0, none⟩) h3 _).setCell (p := ⟨rk, 1, none⟩) h3 _).setCell (p := ⟨rk, 2, none⟩) h3 _
      have HR9 : Hid ((set3 w7 rk (.slice g3 L.length c3) (.slice g7 L.length c7) (.slice none 0 0)).heap[rk]? = some (.cells #[.slice g3 L.length c3, .slice g7 L.length c7, .slice none 0 0] 27 (0, 0))) := heap_setCell_same _ _ _ _ _ _ (heap_setCell_same _ _ _ _ _ _ (heap_setCell_same _ _ _ _ _ _ hz4))
      have HO9 : Hid (FlV (set3 w7 rk (.slice g3 L.length c3) (.slice g7 L.length c7) (.slice none 0 0)) (.slice g3 L.length c3) L ∧ FlV (set3 w7 rk (.slice g3 L.length c3) (.slice g7 L.length c7) (.slice none 0 0)) (.slice g7 L.length c7) L) := ⟨(((HF3.out.put 0 _).put 1 _).put 2 _).1, (((HF7.out.put 0 _).put 1 _).put 2 _).1⟩
      have z0 := cell_of_row _ _ 0 _ _ _ hz4
      have z1 := cell_of_row _ _ 1 _ _ _ hz4
      have z2 := cell_of_row _ _ 2 _ _ _ hz4
      have f0 := frozen_of_row _ _ 0 _ _ hz4
      have f1 := frozen_of_row _ _ 1 _ _ hz4
      have f2 := frozen_of_row _ _ 2 _ _ hz4
      have hS9 := HSB.out w7 (.slice g3 L.length c3) (.slice g7 L.length c7) (.slice none 0 0) hS7
      clear hz4
      refine held_step (i := 9) (by kernel_rfl) rfl (by rfl) ?_
      go_simp
      refine ⟨hS9, ?_⟩
      (try simp only [List.getElem_toArray, List.getElem_cons_succ, List.getElem_cons_zero, Act.put, List.setIfInBounds_toArray, List.set_cons_zero, List.set_cons_succ])
      clear hS9 hS7 HSX HSI HSE HSB HSG HSV z0 z1 z2 f0 f1 f2
      refine wpAnyH_done (by kernel_rfl) ?_ _
      go_wp2_with fail
      exact bodyPost_ret (results_cell_row rfl _ _ rk 27 #[.slice g3 L.length c3, .slice g7 L.length c7, .slice none 0 0] (0, 0) _ rfl HR9.out Try.underlying27 rfl (by kernel_rfl)) rfl ⟨⟨_, _, _, rfl, by rw [HE.out]; exact HO9.out.1, by rw [HE.out]; exact HO9.out.2, Or.inl ⟨rfl, rfl⟩⟩, HB9.out⟩
  · go_simp
    have hSn := HSI.out _ _ hSd ((Below.refl _ _).alloc (Nat.le_refl _) (.cells #[] 88))
    have OB0 := hidF (made0 X0)
    have RB0 : Hid ((X0.alloc (.cells #[] 88)).heap[X0.heap.size]? = some (.cells #[] 88 (0, 0))) := heap_alloc_new _ _
    have HKk2 : Hid (rk < X0.heap.size) := (HSE.out _ hSd).2.1
    have HBk2 : Hid (Below X0.heap.size X0 (X0.alloc (.cells #[] 88))) := (Below.refl _ _).alloc (Nat.le_refl _) _
    refine ⟨hSn, ?_⟩
    (try simp only [List.getElem_toArray, List.getElem_cons_succ, List.getElem_cons_zero, Act.put, List.setIfInBounds_toArray, List.set_cons_zero, List.set_cons_succ])
    generalize hY : X0.alloc (.cells #[] 88) = Y1 at hSn OB0 RB0 HBk2 ⊢
    clear hY
    obtain ⟨k2, hk2⟩ : ∃ k2, k2 = X0.heap.size := ⟨_, rfl⟩
    have HEk2 := hidF hk2
    rw [← hk2] at OB0 RB0 HKk2 ⊢
    clear hk2
    refine held_stepS (i := 0) (by kernel_rfl) rfl (by rfl) ?_
    go_simp
    have hSm := HSI.out _ _ hSn ((Below.refl _ _).alloc (Nat.le_refl _) (.cells #[] 88))
    have OA2 := hidF (made0 Y1)
    have RA : Hid ((Y1.alloc (.cells #[] 88)).heap[Y1.heap.size]? = some (.cells #[] 88 (0, 0))) := heap_alloc_new _ _
    have HKk1 : Hid (rk < Y1.heap.size) := (HSE.out _ hSn).2.1
    have HBk1 : Hid (Below Y1.heap.size Y1 (Y1.alloc (.cells #[] 88))) := (Below.refl _ _).alloc (Nat.le_refl _) _
    refine ⟨hSm, ?_⟩
    (try simp only [List.getElem_toArray, List.getElem_cons_succ, List.getElem_cons_zero, Act.put, List.setIfInBounds_toArray, List.set_cons_zero, List.set_cons_succ])
    generalize hY : Y1.alloc (.cells #[] 88) = Y2 at hSm OA2 RA HBk1 ⊢
    clear hY
    obtain ⟨k1, hk1⟩ : ∃ k1, k1 = Y1.heap.size := ⟨_, rfl⟩
    have HEk1 := hidF hk1
    rw [← hk1] at OA2 RA HKk1 ⊢
    clear hk1
    have OB := hidF (ownF_call OB0.out HBk1.out)
    have hne : k2 < k1 := by have := (OB0.out.lt k2 rfl).2; have := HEk1.out; omega
    have RB : Hid (Y2.heap[k2]? = some (.cells #[] 88 (0, 0))) := (HBk1.out.block _ (Array.getElem?_eq_some_iff.1 RB0.out).1).trans RB0.out
    refine held_stepS (i := 3) (by kernel_rfl) rfl (by rfl) ?_
    refine append_fls1 _ _ 24 rfl k1 i0 _ Try.underlying24 hi0 hz0 hz1 hz2 rfl _ _ [] L rfl OA2.out rfl (HSV.out _ hSm) (by simp; omega) (by have := (OA2.out.lt k1 rfl).2; omega) ?_
    intro v3 w3 hown hgrow
    obtain ⟨g3, c3, rfl⟩ := ownF_slice hown
    have OWN3 : Hid (w3.ownsRow k1 88 2 (.slice g3 L.length c3) L.length (flC L)) := (show w3.ownsRow k1 88 2 (.slice g3 L.length c3) L.length (flC L) by simpa using hown)
    have GR3 : Hid (Y2.grownBy w3 (some k1)) := hgrow
    have hS3 := HSG.out _ _ k1 hSm hgrow HKk1.out
    refine ⟨hS3, ?_⟩
    (try simp only [List.getElem_toArray, List.getElem_cons_succ, List.getElem_cons_zero, Act.put, List.setIfInBounds_toArray, List.set_cons_zero, List.set_cons_succ])
    clear hown hgrow
    have RB3 : Hid (w3.heap[k2]? = some (.cells #[] 88 (0, 0))) := (GR3.out.block _ (Array.getElem?_eq_some_iff.1 RB.out).1 (fun c => by have e := Option.some.inj c; omega)).trans RB.out
    have OB3 := hidF (own_grown OB.out GR3.out fun j hj c => by have e := Option.some.inj c; have e2 : k2 = j := Option.some.inj hj; omega)
    refine held_stepS (i := 7) (by kernel_rfl) rfl (by rfl) ?_
    refine append_fls1 _ _ 24 rfl k2 i0 _ Try.underlying24 hi0 hz0 hz1 hz2 rfl _ _ [] L rfl OB3.out rfl (HSV.out _ hS3) (by simp; omega) (by have := (OB3.out.lt k2 rfl).2; omega) ?_
    intro v7 w7 hown hgrow
    obtain ⟨g7, c7, rfl⟩ := ownF_slice hown
    have OWN7 : Hid (w7.ownsRow k2 88 2 (.slice g7 L.length c7) L.length (flC L)) := (show w7.ownsRow k2 88 2 (.slice g7 L.length c7) L.length (flC L) by simpa using hown)
    have HF3 : Hid (KFl rk w7 (.slice g3 L.length c3) L) := ⟨flv_grown OWN3.out RB3.out hgrow, fun j hj => Nat.lt_of_lt_of_le HKk1.out (OWN3.out.lt j hj).1⟩
    have HF7 : Hid (KFl rk w7 (.slice g7 L.length c7) L) := ⟨FlV.of_own OWN7.out, fun j hj => Nat.lt_of_lt_of_le HKk2.out (OWN7.out.lt j hj).1⟩
    have hS7 := HSG.out _ _ k2 hS3 hgrow HKk2.out
    refine ⟨hS7, ?_⟩
    (try simp only [List.getElem_toArray, List.getElem_cons_succ, List.getElem_cons_zero, Act.put, List.setIfInBounds_toArray, List.set_cons_zero, List.set_cons_succ])
    clear hown hgrow
    refine wpAnyH_take (i := 8) (v := .agg #[.slice g3 L.length c3, .slice g7 L.length c7, .slice none 0 0]) rfl (by kernel_rfl) (by kernel_rfl) (by kernel_rfl) (fun _ _ _ h => h) (Or.inl ⟨by rfl, by intro w' hS'; go_simp <;> (first | omega | rfl | (rw [IntKind.wrap_i64]; omega))⟩) hS7 ?_
    (try simp only [List.getElem_toArray, List.getElem_cons_succ, List.getElem_cons_zero, Act.put, List.setIfInBounds_toArray, List.set_cons_zero, List.set_cons_succ])
    obtain ⟨hb7, _, p0, q0, r0, hz4⟩ := HSE.out _ hS7
    have HB9 : Hid (Below w.heap.size w (set3 w7 rk (.slice g3 L.length c3) (.slice g7 L.length c7) (.slice none 0 0))) := ((hb7.setCell (p := ⟨rk, 0, none⟩) h3 _).setCell (p := ⟨rk, 1, none⟩) h3 _).setCell (p := ⟨rk, 2, none⟩) h3 _
    have HR9 : Hid ((set3 w7 rk (.slice g3 L.length c3) (.slice g7 L.length c7) (.slice none 0 0)).heap[rk]? = some (.cells #[.slice g3 L.length c3, .slice g7 L.length c7, .slice none 0 0] 27 (0, 0))) := heap_setCell_same _ _ _ _ _ _ (heap_setCell_same _ _ _ _ _ _ (heap_setCell_same _ _ _ _ _ _ hz4))
    have HO9 : Hid (FlV (set3 w7 rk (.slice g3 L.length c3) (.slice g7 L.length c7) (.slice none 0 0)) (.slice g3 L.length c3) L ∧ FlV (set3 w7 rk (.slice g3 L.length c3) (.slice g7 L.length c7) (.slice none 0 0)) (.slice g7 L.length c7) L) := ⟨(((HF3.out.put 0 _).put 1 _).put 2 _).1, (((HF7.out.put 0 _).put 1 _).put 2 _).1⟩
    have z0 := cell_of_row _ _ 0 _ _ _ hz4
    have z1 := cell_of_row _ _ 1 _ _ _ hz4
    have z2 := cell_of_row _ _ 2 _ _ _ hz4
    have f0 := frozen_of_row _ _ 0 _ _ hz4
    have f1 := frozen_of_row _ _ 1 _ _ hz4
    have f2 := frozen_of_row _ _ 2 _ _ hz4
    have hS9 := HSB.out w7 (.slice g3 L.length c3) (.slice g7 L.length c7) (.slice none 0 0) hS7
    clear hz4
    refine held_step (i := 9) (by kernel_rfl) rfl (by rfl) ?_
    go_simp
    refine ⟨hS9, ?_⟩
    (try simp only [List.getElem_toArray, List.getElem_cons_succ, List.getElem_cons_zero, Act.put, List.setIfInBounds_toArray, List.set_cons_zero, List.set_cons_succ])
    clear hS9 hS7 HSX HSI HSE HSB HSG HSV z0 z1 z2 f0 f1 f2
    refine wpAnyH_done (by kernel_rfl) ?_ _
    go_wp2_with fail
    exact bodyPost_ret (results_cell_row rfl _ _ rk 27 #[.slice g3 L.length c3, .slice g7 L.length c7, .slice none 0 0] (0, 0) _ rfl HR9.out Try.underlying27 rfl (by kernel_rfl)) rfl ⟨⟨_, _, _, rfl, by rw [HE.out]; exact HO9.out.1, by rw [HE.out]; exact HO9.out.2, Or.inl ⟨rfl, rfl⟩⟩, HB9.out⟩
end Go.Proofs.Ytanlggglbpibfaa
