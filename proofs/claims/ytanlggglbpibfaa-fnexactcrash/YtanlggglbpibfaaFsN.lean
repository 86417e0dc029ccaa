/-
  Lists of a disk that are copied.
-/
import Derived.Test.YtanlggglbpibfaaFsL
import Derived.Test.YtanlggglbpibfaaClone
namespace Go.Proofs.Ytanlggglbpibfaa
open Go.RowKit
set_option linter.unusedVariables false
set_option linter.unusedSimpArgs false
set_option maxRecDepth 100000 in
set_option maxHeartbeats 2000000 in
theorem copied15_any (v : Value) (L : List FlI) (w : World) (hL : FlLe L) (h : FlV w v L) :
    Calls Try.prog 88 #[v] w (FlAns w L) := by
  have HCL : Hid (∀ (s : ByteArray) w', s.size ≤ 1500000 → Calls Try.prog 87 #[.string s] w' fun e w'' => e = .returned (.string s) ∧ Below w'.heap.size w' w'') := fun s w' hs => clone_any s w' (by omega)
  have HOR : Hid (∀ i w', i < L.length → Below w.heap.size w w' → ∃ g c, v = .slice (some ⟨g, 0, none⟩) L.length c ∧ FlRow w' g L.length (flF L)) := fun i w' hi hb => by
    rcases h with ⟨_, rfl⟩ | ⟨g, c, e, hr⟩
    · simp at hi
    · exact ⟨g, c, e, hr.below hb hr.lt⟩
  obtain ⟨a, c, rfl⟩ := h.slice
  obtain ⟨i0, hi0, hz0, hz1, hz2⟩ := info_parts Try.infFl
  have HOZ := hidF hL
  have hlen : (L.length : Int) ≤ 1100000 := by have := hL.len; omega
  have HS0 : Hid (FlW w.heap.size w w (.slice none 0 0) (L.take 0)) := FlW.none w
  clear h hL
  go_enter Try.func88, Try.ntmps88
  go_wp2_with fail
  go_loopw [3, 8] (fun x y wr => ∃ (i : Nat) (u : Value), i ≤ L.length ∧ x = u ∧ y = .int .i64 (i : Int) ∧ Hid (FlW w.heap.size w wr u (L.take i))) (fun _ y _ => L.length - (intFl y).toNat)
  case atStart => exact ⟨0, _, by omega, rfl, rfl, HS0⟩
  case round =>
    clear HS0
    rename World => W0
    obtain ⟨i, u, hi, hxu, rfl, HT⟩ := hrel
    have hux := hxu.symm
    subst hux
    clear hxu
    by_cases hlt : i < L.length
    · have hltI : (i : Int) < (L.length : Int) := by omega
      obtain ⟨g, cc, hv, hrow⟩ := HOR.out i _ hlt HT.out.bel
      injection hv with e1 e2 e3
      subst e1 e3
      clear e2
      obtain ⟨q, hq⟩ : ∃ q, q = 2 * i := ⟨_, rfl⟩
      have hiq : i * 2 = q := by omega
      have x0 := hrow.c0 i hlt
      have x1 := hrow.c1 i hlt
      rw [← hq] at x0 x1
      have HTS : Hid (L.take (i + 1) = L.take i ++ [flF L i]) := take_snoc hlt
      have HSZ : Hid ((flF L i).a.size ≤ 1500000 ∧ (flF L i).d.size ≤ 1500000) := by
        show _ ∧ _
        rw [flF_at hlt]
        exact HOZ.out.sz _ (List.getElem_mem hlt)
      have HIN := hidF hlt
      have hm9 : (L.take i).length ≤ 1100000 := by rw [List.length_take]; omega
      clear hrow hq
      generalize flF L i = f at x0 x1 HTS HSZ
      obtain ⟨fa, fd⟩ := f
      simp only at x0 x1 HSZ
      generalize L.take i = M at HT HTS hm9
      have HT1 : Hid (FlW w.heap.size w (W0.alloc (.cells #[.string fa, .string fd] 88)) u M) := HT.out.call ((Below.refl _ _).alloc (Nat.le_refl _) _)
      have HX1 : Hid ((W0.alloc (.cells #[.string fa, .string fd] 88)).heap[W0.heap.size]? = some (.cells #[.string fa, .string fd] 88 (0, 0))) := heap_alloc_new W0 _
      have HNE : Hid (∀ k, u.ownBlock = some k → k ≠ W0.heap.size) := fun k hk => by have := (HT.out.own.lt k hk).2; omega
      go_wp2_with fail
      clear x0 x1 HT
      generalize W0.alloc (.cells #[.string fa, .string fd] 88) = W1 at HT1 HX1 ⊢
      generalize W0.heap.size = bk at HX1 HNE ⊢
      obtain ⟨SS, hS⟩ : ∃ SS : World → Prop, SS = fun w' => w'.heap[bk]? = some (.cells #[.string fa, .string fd] 88 (0, 0)) := ⟨_, rfl⟩
      have hSd : SS W1.drew := by rw [hS]; exact HX1.out
      have HSX : Hid (∀ w', SS w' → w'.cell? ⟨bk, 0, none⟩ = some (.string fa) ∧ w'.cell? ⟨bk, 1, none⟩ = some (.string fd)) := fun w' hq => by
        rw [hS] at hq
        exact ⟨cell_of_row _ _ 0 _ _ _ hq, cell_of_row _ _ 1 _ _ _ hq⟩
      have HSI : Hid (∀ w', w'.heap[bk]? = some (.cells #[.string fa, .string fd] 88 (0, 0)) → SS w') := fun w' h1 => by rw [hS]; exact h1
      have HSO : Hid (∀ w', SS w' → w'.heap[bk]? = some (.cells #[.string fa, .string fd] 88 (0, 0))) := fun w' h1 => by rw [hS] at h1; exact h1
      have HT2 : Hid (FlW w.heap.size w W1.drew u M) := HT1.out.call (Below.refl _ _).drew
      clear hS HX1 HT1
      refine wp_region_held (S := SS) (by kernel_rfl) ?_
      change wpAnyH _ _ _ _ _ _ _ _ (World.drew _)
      generalize hX2 : W1.drew = X2 at hSd HT2 ⊢
      clear hX2
      refine wpAnyH_take (i := 0) (v := u) rfl (by kernel_rfl) (by kernel_rfl) (by kernel_rfl) (fun _ _ _ h => h) (Or.inl ⟨by rfl, by intro w' hS'; go_simp <;> (first | omega | rfl | (rw [IntKind.wrap_i64]; omega))⟩) hSd ?_
      (try simp only [List.getElem_toArray, List.getElem_cons_succ, List.getElem_cons_zero, Act.put, List.setIfInBounds_toArray, List.set_cons_zero, List.set_cons_succ])
      refine wpAnyH_take (i := 1) (v := .pointer (some ⟨bk, 0, none⟩)) rfl (by kernel_rfl) (by kernel_rfl) (by kernel_rfl) (fun _ _ _ h => h) (Or.inl ⟨by rfl, by intro w' hS'; go_simp <;> (first | omega | rfl | (rw [IntKind.wrap_i64]; omega))⟩) hSd ?_
      (try simp only [List.getElem_toArray, List.getElem_cons_succ, List.getElem_cons_zero, Act.put, List.setIfInBounds_toArray, List.set_cons_zero, List.set_cons_succ])
      refine wpAnyH_take (i := 2) (v := .string fa) rfl (by kernel_rfl) (by kernel_rfl) (by kernel_rfl) (fun _ _ _ h => h) (Or.inl ⟨by rfl, by intro w' hS'; obtain ⟨q1, q2⟩ := HSX.out w' hS'; go_simp <;> (first | omega | rfl | (rw [IntKind.wrap_i64]; omega))⟩) hSd ?_
      (try simp only [List.getElem_toArray, List.getElem_cons_succ, List.getElem_cons_zero, Act.put, List.setIfInBounds_toArray, List.set_cons_zero, List.set_cons_succ])
      refine wpAnyH_take (i := 4) (v := .pointer (some ⟨bk, 1, none⟩)) rfl (by kernel_rfl) (by kernel_rfl) (by kernel_rfl) (fun _ _ _ h => h) (Or.inl ⟨by rfl, by intro w' hS'; go_simp <;> (first | omega | rfl | (rw [IntKind.wrap_i64]; omega))⟩) hSd ?_
      (try simp only [List.getElem_toArray, List.getElem_cons_succ, List.getElem_cons_zero, Act.put, List.setIfInBounds_toArray, List.set_cons_zero, List.set_cons_succ])
      refine wpAnyH_take (i := 5) (v := .string fd) rfl (by kernel_rfl) (by kernel_rfl) (by kernel_rfl) (fun _ _ _ h => h) (Or.inl ⟨by rfl, by intro w' hS'; obtain ⟨q1, q2⟩ := HSX.out w' hS'; go_simp <;> (first | omega | rfl | (rw [IntKind.wrap_i64]; omega))⟩) hSd ?_
      (try simp only [List.getElem_toArray, List.getElem_cons_succ, List.getElem_cons_zero, Act.put, List.setIfInBounds_toArray, List.set_cons_zero, List.set_cons_succ])
      refine held_stepS (i := 3) (by kernel_rfl) rfl (by rfl) ?_
      go_simp
      refine (HCL.out fa _ HSZ.out.1).mono ?_
      rintro e w3 ⟨rfl, hb3⟩
      have HT3 := hidF (HT2.out.call hb3)
      have hS3 := HSI.out _ ((hb3.block _ (Array.getElem?_eq_some_iff.1 (HSO.out _ hSd)).1).trans (HSO.out _ hSd))
      refine ⟨hS3, ?_⟩
      (try simp only [List.getElem_toArray, List.getElem_cons_succ, List.getElem_cons_zero, Act.put, List.setIfInBounds_toArray, List.set_cons_zero, List.set_cons_succ])
      clear hb3 HT2 hSd
      refine held_stepS (i := 6) (by kernel_rfl) rfl (by rfl) ?_
      go_simp
      refine (HCL.out fd _ HSZ.out.2).mono ?_
      rintro e w4 ⟨rfl, hb4⟩
      have HT4 := hidF (HT3.out.call hb4)
      have hS4 := HSI.out _ ((hb4.block _ (Array.getElem?_eq_some_iff.1 (HSO.out _ hS3)).1).trans (HSO.out _ hS3))
      refine ⟨hS4, ?_⟩
      (try simp only [List.getElem_toArray, List.getElem_cons_succ, List.getElem_cons_zero, Act.put, List.setIfInBounds_toArray, List.set_cons_zero, List.set_cons_succ])
      clear hb4 HT3 hS3
      refine wpAnyH_take (i := 7) (v := .agg #[.string fa, .string fd]) rfl (by kernel_rfl) (by kernel_rfl) (by kernel_rfl) (fun _ _ _ h => h) (Or.inl ⟨by rfl, by intro w' hS'; go_simp <;> (first | omega | rfl | (rw [IntKind.wrap_i64]; omega))⟩) hS4 ?_
      (try simp only [List.getElem_toArray, List.getElem_cons_succ, List.getElem_cons_zero, Act.put, List.setIfInBounds_toArray, List.set_cons_zero, List.set_cons_succ])
      have HX5 : Hid ((w4.alloc (.cells #[.string fa, .string fd] 88)).heap[bk]? = some (.cells #[.string fa, .string fd] 88 (0, 0))) := (Below.heap_alloc _ _ _ (Array.getElem?_eq_some_iff.1 (HSO.out _ hS4)).1).trans (HSO.out _ hS4)
      have hS5 := HSI.out _ HX5.out
      refine held_stepS (i := 8) (by kernel_rfl) rfl (by rfl) ?_
      go_simp
      refine ⟨hS5, ?_⟩
      (try simp only [List.getElem_toArray, List.getElem_cons_succ, List.getElem_cons_zero, Act.put, List.setIfInBounds_toArray, List.set_cons_zero, List.set_cons_succ])
      clear hS4
      have hws := HT4.out.lo.2
      refine held_stepS (i := 9) (by kernel_rfl) rfl (by rfl) ?_
      refine wp_append_own _ _ _ 24 rfl w.heap.size 88 i0 _ 2 32 Try.underlying24 hi0 hz0 hz1 hz2 rfl (by decide) u M.length (flC M) rfl (World.ownsRow.alloc HT4.out.own _) ⟨w4.heap.size, 0, none⟩ 1 1 [.string fa, .string fd] rfl rfl (cell_twoF rfl) (two_fl _ _) (by unfold maxLen; omega) (by omega) (by rw [World.size_alloc]; omega) ?_
      intro v6 w6 hown hgrow _
      have H6 := hidF (HT4.out.one (a := fa) (d := fd) hown hgrow)
      have hS6 := HSI.out w6 ((hgrow.block bk (Array.getElem?_eq_some_iff.1 HX5.out).1 (fun c => HNE.out bk c.symm rfl)).trans HX5.out)
      refine ⟨hS6, ?_⟩
      (try simp only [List.getElem_toArray, List.getElem_cons_succ, List.getElem_cons_zero, Act.put, List.setIfInBounds_toArray, List.set_cons_zero, List.set_cons_succ])
      clear hown hgrow hS5 HX5 HT4
      refine wpAnyH_take (i := 10) (v := v6) rfl (by kernel_rfl) (by kernel_rfl) (by kernel_rfl) (fun _ _ _ h => h) (Or.inl ⟨by rfl, by intro w' hS'; go_simp <;> (first | omega | rfl | (rw [IntKind.wrap_i64]; omega))⟩) hS6 ?_
      (try simp only [List.getElem_toArray, List.getElem_cons_succ, List.getElem_cons_zero, Act.put, List.setIfInBounds_toArray, List.set_cons_zero, List.set_cons_succ])
      refine wpAnyH_done (by kernel_rfl) ?_ _
      clear hS6 HSX HSI HSO
      go_wp2_with fail
      go_roundw
      case rel => exact ⟨i + 1, _, by have := HIN.out; omega, rfl, by go_num, by rw [HTS.out]; exact H6⟩
      case measure => simp [intFl]; have := HIN.out; omega
    · have hie : i = L.length := by omega
      have hltI : ¬ (i : Int) < (L.length : Int) := by omega
      have HM : Hid (L.take i = L) := by show _ = _; rw [hie, List.take_length]
      clear hie
      go_wp2_with fail
      go_ret
      exact ⟨_, rfl, by rw [← HM.out]; exact HT.out⟩
end Go.Proofs.Ytanlggglbpibfaa
