/-
  A disk that is copied.
-/
import Derived.Test.YtanlggglbpibfaaFsN
namespace Go.Proofs.Ytanlggglbpibfaa
open Go.RowKit
set_option linter.unusedVariables false
set_option linter.unusedSimpArgs false
structure DqW (B : Nat) (w wr : World) (v : Value) (L : List DqI) : Prop where
  own : wr.ownsRow B 36 4 v L.length (dqC L)
  bel : Below w.heap.size w wr
  lo : w.heap.size ≤ B ∧ B ≤ wr.heap.size
theorem DqW.call {B : Nat} {w wr w' : World} {v : Value} {L : List DqI} (h : DqW B w wr v L) (hb : Below wr.heap.size wr w') : DqW B w w' v L := ⟨ownF_call h.own hb, blFl h.bel hb h.bel.size, h.lo.1, Nat.le_trans h.lo.2 hb.size⟩
theorem DqW.one {B : Nat} {w W w' : World} {v v' : Value} {L : List DqI} {m : Int} {a q d : ByteArray} {o : Obj} (h : DqW B w W v L) (hown : w'.ownsRow B 36 4 v' (L.length + 1) (dqC L ++ [.int .i64 m, .string a, .string q, .string d])) (hg : (W.alloc o).grownBy w' v.ownBlock) : DqW B w w' v' (L ++ [⟨m, a, q, d⟩]) := by
  refine ⟨?_, (h.bel.alloc h.bel.size _).grown hg (by rw [World.size_alloc]; have := h.bel.size; omega) (fun k hk => Nat.le_trans h.lo.1 (h.own.lt k hk).1), h.lo.1, by have := hg.size; rw [World.size_alloc] at this; have := h.lo.2; omega⟩
  rw [dqC_snoc L ⟨m, a, q, d⟩] at hown
  simpa only [List.length_append, List.length_singleton, List.length_cons, List.length_nil] using hown
theorem FlV.of_w {B : Nat} {w wr : World} {v : Value} {L : List FlI} (h : FlW B w wr v L) : FlV wr v L := FlV.of_own h.own
theorem DqV.of_own {w : World} {B : Nat} {v : Value} {L : List DqI} (h : w.ownsRow B 36 4 v L.length (dqC L)) : DqV w v L := by
  obtain ⟨hl, ⟨h0, hn⟩ | ⟨g, cap, cur, h1, h2, h3, h4, h5, h6, h7⟩⟩ := id h
  · exact Or.inl ⟨by rw [h0], List.eq_nil_of_length_eq_zero hn⟩
  · refine Or.inr ⟨g, cap, h1, ?_⟩
    have hx : ∀ (j : Nat) (u : Value), (dqC L)[j]? = some u → cur[j]? = some u := fun j u hj => by
      rw [← h7, List.getElem?_take] at hj
      split at hj
      · simpa using hj
      · cases hj
    exact ⟨(Array.getElem?_eq_some_iff.1 h3).1, fun i hi => (cell_of_row _ _ _ _ _ _ h3).trans (hx _ _ (dqC_at L i hi).1), fun i hi => (cell_of_row _ _ _ _ _ _ h3).trans (hx _ _ (dqC_at L i hi).2.1), fun i hi => (cell_of_row _ _ _ _ _ _ h3).trans (hx _ _ (dqC_at L i hi).2.2.1), fun i hi => (cell_of_row _ _ _ _ _ _ h3).trans (hx _ _ (dqC_at L i hi).2.2.2)⟩
theorem ownK_keep {w w' : World} {B z n : Nat} {e : TypeId} {v : Value} {xs : List Value} (h : w.ownsRow B e z v n xs) (hb : ∀ k, v.ownBlock = some k → w'.heap[k]? = w.heap[k]?) : w'.ownsRow B e z v n xs := by
  obtain ⟨h0, h1 | ⟨g, cap, cur, h1, h2, h3, h4, h5, h6, h7⟩⟩ := h
  · exact ⟨h0, Or.inl h1⟩
  · exact ⟨h0, Or.inr ⟨g, cap, cur, h1, h2, (hb g (by rw [h1]; rfl)).trans h3, h4, h5, h6, h7⟩⟩
def set3 (w : World) (k : Nat) (a b c : Value) : World := ((w.setCell ⟨k, 0, none⟩ a).setCell ⟨k, 1, none⟩ b).setCell ⟨k, 2, none⟩ c
theorem set3_other {w : World} {k j : Nat} (a b c : Value) (h : j ≠ k) : (set3 w k a b c).heap[j]? = w.heap[j]? :=
  (heap_setCell_other _ _ _ _ h).trans ((heap_setCell_other _ _ _ _ h).trans (heap_setCell_other _ _ _ _ h))
/-- a disk that is all its own: rows of block B on, no two alike -/
def DkO (B : Nat) (w : World) (e : Ending) (w' : World) (L S : List FlI) (O : List DqI) : Prop := ∃ a b c, e = .returned (.agg #[a, b, c]) ∧ w'.ownsRow B 88 2 a L.length (flC L) ∧ w'.ownsRow B 88 2 b S.length (flC S) ∧ w'.ownsRow B 36 4 c O.length (dqC O) ∧ (∀ k, a.ownBlock = some k → b.ownBlock ≠ some k ∧ c.ownBlock ≠ some k) ∧ (∀ k, b.ownBlock = some k → c.ownBlock ≠ some k)
set_option maxRecDepth 100000 in
set_option maxHeartbeats 4000000 in
theorem cdisk15_any (vL vS vO : Value) (L S : List FlI) (O : List DqI) (w : World) (hL : FlLe L) (hS : FlLe S) (hO : DqLe O) (h1 : FlV w vL L) (h2 : FlV w vS S) (h3 : DqV w vO O) :
    Calls Try.prog 52 #[.agg #[vL, vS, vO]] w fun e w' => DkO w.heap.size w e w' L S O ∧ Below w.heap.size w w' := by
  have HCL : Hid (∀ (s : ByteArray) w', s.size ≤ 1500000 → Calls Try.prog 87 #[.string s] w' fun e w'' => e = .returned (.string s) ∧ Below w'.heap.size w' w'') := fun s w' hs => clone_any s w' (by omega)
  obtain ⟨ao, co, rfl⟩ := h3.slice
  obtain ⟨al, cl, rfl⟩ := h1.slice
  obtain ⟨a2, ks, rfl⟩ := h2.slice
  have HF1 : Hid (∀ w', Below w.heap.size w w' → Calls Try.prog 88 #[.slice al L.length cl] w' (FlAns w' L)) := fun w' hb => copied15_any _ L w' hL (h1.below hb)
  have HF2 : Hid (∀ w', Below w.heap.size w w' → Calls Try.prog 88 #[.slice a2 S.length ks] w' (FlAns w' S)) := fun w' hb => copied15_any _ S w' hS (h2.below hb)
  have HOR : Hid (∀ i w', i < O.length → Below w.heap.size w w' → ∃ g c, (Value.slice ao O.length co) = .slice (some ⟨g, 0, none⟩) O.length c ∧ DqRow w' g O.length (dqF O)) := fun i w' hi hb => by
    rcases h3 with ⟨_, rfl⟩ | ⟨g, c, e, hr⟩
    · simp at hi
    · exact ⟨g, c, e, hr.below hb hr.lt⟩
  obtain ⟨i0, hi0, hz0, hz1, hz2⟩ := info_parts Try.infDq
  have HOZ := hidF hO
  have hlen : (O.length : Int) ≤ 1100000 := by have := hO.len; omega
  have HB1 : Hid (Below w.heap.size w ((w.alloc (.cells #[.slice al L.length cl, .slice a2 S.length ks, .slice ao O.length co] 27)).alloc (.cells #[.slice none 0 0, .slice none 0 0, .slice none 0 0] 27))) := ((Below.refl _ _).alloc (Nat.le_refl _) _).alloc (by simp) _
  have HX1 : Hid (((w.alloc (.cells #[.slice al L.length cl, .slice a2 S.length ks, .slice ao O.length co] 27)).alloc (.cells #[.slice none 0 0, .slice none 0 0, .slice none 0 0] 27)).heap[w.heap.size]? = some (.cells #[.slice al L.length cl, .slice a2 S.length ks, .slice ao O.length co] 27 (0, 0)) ∧ ((w.alloc (.cells #[.slice al L.length cl, .slice a2 S.length ks, .slice ao O.length co] 27)).alloc (.cells #[.slice none 0 0, .slice none 0 0, .slice none 0 0] 27)).heap[w.heap.size + 1]? = some (.cells #[.slice none 0 0, .slice none 0 0, .slice none 0 0] 27 (0, 0))) := by
    refine ⟨?_, ?_⟩
    · rw [Below.heap_alloc _ _ _ (by simp), heap_alloc_new]
    · have := heap_alloc_new (w.alloc (.cells #[.slice al L.length cl, .slice a2 S.length ks, .slice ao O.length co] 27)) (.cells #[.slice none 0 0, .slice none 0 0, .slice none 0 0] 27)
      rw [World.size_alloc] at this
      exact this
  have HD0 : Hid (DqW (w.heap.size + 2) w ((w.alloc (.cells #[.slice al L.length cl, .slice a2 S.length ks, .slice ao O.length co] 27)).alloc (.cells #[.slice none 0 0, .slice none 0 0, .slice none 0 0] 27)) (.slice none 0 0) (O.take 0)) := ⟨World.ownsRow_nil _ _ _ _, HB1.out, by omega, by simp⟩
  clear hL hS hO h1 h2 h3
  go_enter Try.func52, Try.ntmps52
  go_wp2_with fail
  generalize (w.alloc (.cells #[.slice al L.length cl, .slice a2 S.length ks, .slice ao O.length co] 27)).alloc (.cells #[.slice none 0 0, .slice none 0 0, .slice none 0 0] 27) = w1 at HB1 HX1 HD0 ⊢
  obtain ⟨bk, hbk⟩ : ∃ bk, bk = w.heap.size := ⟨_, rfl⟩
  rw [← hbk] at HX1 ⊢
  obtain ⟨rk, hrk⟩ : ∃ rk, rk = bk + 1 := ⟨_, rfl⟩
  rw [← hrk] at HX1 ⊢
  have HBK : Hid (bk = w.heap.size ∧ rk = w.heap.size + 1) := ⟨hbk, by omega⟩
  clear hbk hrk
  go_loopw [3, 9] (fun x y wr => ∃ (i : Nat) (u : Value), i ≤ O.length ∧ x = u ∧ y = .int .i64 (i : Int) ∧ Hid (DqW (w.heap.size + 2) w wr u (O.take i)) ∧ Hid (wr.heap[bk]? = some (.cells #[.slice al L.length cl, .slice a2 S.length ks, .slice ao O.length co] 27 (0, 0)) ∧ wr.heap[rk]? = some (.cells #[.slice none 0 0, .slice none 0 0, .slice none 0 0] 27 (0, 0)))) (fun _ y _ => O.length - (intFl y).toNat)
  case atStart => exact ⟨0, _, by omega, rfl, rfl, HD0, HX1⟩
  case round =>
    clear HD0 HX1 HB1
    rename World => W0
    obtain ⟨i, u, hi, hxu, rfl, HT, HX⟩ := hrel
    have hux := hxu.symm
    subst hux
    clear hxu
    by_cases hlt : i < O.length
    · have hltI : (i : Int) < (O.length : Int) := by omega
      obtain ⟨g, cc, hv, hrow⟩ := HOR.out i _ hlt HT.out.bel
      injection hv with e1 e2 e3
      subst e1 e3
      clear e2
      obtain ⟨q, hq⟩ : ∃ q, q = 4 * i := ⟨_, rfl⟩
      have hiq : i * 4 = q := by omega
      have x0 := hrow.c0 i hlt
      have x1 := hrow.c1 i hlt
      have x2 := hrow.c2 i hlt
      have x3 := hrow.c3 i hlt
      rw [← hq] at x0 x1 x2 x3
      have HTS : Hid (O.take (i + 1) = O.take i ++ [dqF O i]) := takeD_snoc hlt
      have HSZ := hidF (HOZ.out.at hlt)
      have HIN := hidF hlt
      have hm9 : (O.take i).length ≤ 1100000 := by rw [List.length_take]; omega
      clear hrow hq
      generalize dqF O i = f at x0 x1 x2 x3 HTS HSZ
      obtain ⟨om, oa, oq, od⟩ := f
      simp only at x0 x1 x2 x3 HSZ
      generalize O.take i = M at HT HTS hm9
      have HT1 : Hid (DqW (w.heap.size + 2) w (W0.alloc (.cells #[.int .i64 om, .string oa, .string oq, .string od] 36)) u M) := HT.out.call ((Below.refl _ _).alloc (Nat.le_refl _) _)
      have HX1 : Hid ((W0.alloc (.cells #[.int .i64 om, .string oa, .string oq, .string od] 36)).heap[W0.heap.size]? = some (.cells #[.int .i64 om, .string oa, .string oq, .string od] 36 (0, 0))) := heap_alloc_new W0 _
      have HXK : Hid ((W0.alloc (.cells #[.int .i64 om, .string oa, .string oq, .string od] 36)).heap[bk]? = some (.cells #[.slice al L.length cl, .slice a2 S.length ks, .slice (some ⟨g, 0, none⟩) O.length co] 27 (0, 0)) ∧ (W0.alloc (.cells #[.int .i64 om, .string oa, .string oq, .string od] 36)).heap[rk]? = some (.cells #[.slice none 0 0, .slice none 0 0, .slice none 0 0] 27 (0, 0))) := ⟨(Below.heap_alloc _ _ _ (Array.getElem?_eq_some_iff.1 HX.out.1).1).trans HX.out.1, (Below.heap_alloc _ _ _ (Array.getElem?_eq_some_iff.1 HX.out.2).1).trans HX.out.2⟩
      have HNE : Hid (∀ k, u.ownBlock = some k → k ≠ W0.heap.size ∧ k ≠ bk ∧ k ≠ rk) := fun k hk => by have := (HT.out.own.lt k hk); have := HBK.out; omega
      go_wp2_with fail
      clear x0 x1 x2 x3 HT HX
      generalize W0.alloc (.cells #[.int .i64 om, .string oa, .string oq, .string od] 36) = W1 at HT1 HX1 HXK ⊢
      generalize W0.heap.size = bo at HX1 HNE ⊢
      obtain ⟨SS, hS⟩ : ∃ SS : World → Prop, SS = fun w' => w'.heap[bo]? = some (.cells #[.int .i64 om, .string oa, .string oq, .string od] 36 (0, 0)) ∧ (w'.heap[bk]? = some (.cells #[.slice al L.length cl, .slice a2 S.length ks, .slice (some ⟨g, 0, none⟩) O.length co] 27 (0, 0)) ∧ w'.heap[rk]? = some (.cells #[.slice none 0 0, .slice none 0 0, .slice none 0 0] 27 (0, 0))) := ⟨_, rfl⟩
      have hSd : SS W1.drew := by rw [hS]; exact ⟨HX1.out, HXK.out⟩
      have HSX : Hid (∀ w', SS w' → w'.cell? ⟨bo, 0, none⟩ = some (.int .i64 om) ∧ w'.cell? ⟨bo, 1, none⟩ = some (.string oa) ∧ w'.cell? ⟨bo, 2, none⟩ = some (.string oq) ∧ w'.cell? ⟨bo, 3, none⟩ = some (.string od)) := fun w' hq => by
        rw [hS] at hq
        exact ⟨cell_of_row _ _ 0 _ _ _ hq.1, cell_of_row _ _ 1 _ _ _ hq.1, cell_of_row _ _ 2 _ _ _ hq.1, cell_of_row _ _ 3 _ _ _ hq.1⟩
      have HSI : Hid (∀ w' w'', SS w' → Below w'.heap.size w' w'' → SS w'') := fun w' w'' h1 hb => by
        rw [hS] at h1 ⊢
        exact ⟨(hb.block _ (Array.getElem?_eq_some_iff.1 h1.1).1).trans h1.1, (hb.block _ (Array.getElem?_eq_some_iff.1 h1.2.1).1).trans h1.2.1, (hb.block _ (Array.getElem?_eq_some_iff.1 h1.2.2).1).trans h1.2.2⟩
      have HSG : Hid (∀ w' w'', SS w' → w'.grownBy w'' u.ownBlock → SS w'') := fun w' w'' h1 hb => by
        rw [hS] at h1 ⊢
        exact ⟨(hb.block _ (Array.getElem?_eq_some_iff.1 h1.1).1 (fun c => (HNE.out _ c.symm).1 rfl)).trans h1.1, (hb.block _ (Array.getElem?_eq_some_iff.1 h1.2.1).1 (fun c => (HNE.out _ c.symm).2.1 rfl)).trans h1.2.1, (hb.block _ (Array.getElem?_eq_some_iff.1 h1.2.2).1 (fun c => (HNE.out _ c.symm).2.2 rfl)).trans h1.2.2⟩
      have HSE : Hid (∀ w', SS w' → w'.heap[bk]? = some (.cells #[.slice al L.length cl, .slice a2 S.length ks, .slice (some ⟨g, 0, none⟩) O.length co] 27 (0, 0)) ∧ w'.heap[rk]? = some (.cells #[.slice none 0 0, .slice none 0 0, .slice none 0 0] 27 (0, 0))) := fun w' h => by rw [hS] at h; exact h.2
      have HT2 : Hid (DqW (w.heap.size + 2) w W1.drew u M) := HT1.out.call (Below.refl _ _).drew
      clear hS HX1 HT1 HXK
      refine wp_region_held (S := SS) (by kernel_rfl) ?_
      change wpAnyH _ _ _ _ _ _ _ _ (World.drew _)
      generalize hX2 : W1.drew = X2 at hSd HT2 ⊢
      clear hX2
      refine wpAnyH_take (i := 0) (v := u) rfl (by kernel_rfl) (by kernel_rfl) (by kernel_rfl) (fun _ _ _ h => h) (Or.inl ⟨by rfl, by intro w' hS'; go_simp <;> (first | omega | rfl | (rw [IntKind.wrap_i64]; omega))⟩) hSd ?_
      (try simp only [List.getElem_toArray, List.getElem_cons_succ, List.getElem_cons_zero, Act.put, List.setIfInBounds_toArray, List.set_cons_zero, List.set_cons_succ])
      refine wpAnyH_take (i := 1) (v := .pointer (some ⟨bo, 0, none⟩)) rfl (by kernel_rfl) (by kernel_rfl) (by kernel_rfl) (fun _ _ _ h => h) (Or.inl ⟨by rfl, by intro w' hS'; go_simp <;> (first | omega | rfl | (rw [IntKind.wrap_i64]; omega))⟩) hSd ?_
      (try simp only [List.getElem_toArray, List.getElem_cons_succ, List.getElem_cons_zero, Act.put, List.setIfInBounds_toArray, List.set_cons_zero, List.set_cons_succ])
      refine wpAnyH_take (i := 2) (v := .int .i64 om) rfl (by kernel_rfl) (by kernel_rfl) (by kernel_rfl) (fun _ _ _ h => h) (Or.inl ⟨by rfl, by intro w' hS'; obtain ⟨q1, q2, q3, q4⟩ := HSX.out w' hS'; go_simp <;> (first | omega | rfl | (rw [IntKind.wrap_i64]; omega))⟩) hSd ?_
      (try simp only [List.getElem_toArray, List.getElem_cons_succ, List.getElem_cons_zero, Act.put, List.setIfInBounds_toArray, List.set_cons_zero, List.set_cons_succ])
      refine wpAnyH_take (i := 3) (v := .pointer (some ⟨bo, 1, none⟩)) rfl (by kernel_rfl) (by kernel_rfl) (by kernel_rfl) (fun _ _ _ h => h) (Or.inl ⟨by rfl, by intro w' hS'; go_simp <;> (first | omega | rfl | (rw [IntKind.wrap_i64]; omega))⟩) hSd ?_
      (try simp only [List.getElem_toArray, List.getElem_cons_succ, List.getElem_cons_zero, Act.put, List.setIfInBounds_toArray, List.set_cons_zero, List.set_cons_succ])
      refine wpAnyH_take (i := 4) (v := .string oa) rfl (by kernel_rfl) (by kernel_rfl) (by kernel_rfl) (fun _ _ _ h => h) (Or.inl ⟨by rfl, by intro w' hS'; obtain ⟨q1, q2, q3, q4⟩ := HSX.out w' hS'; go_simp <;> (first | omega | rfl | (rw [IntKind.wrap_i64]; omega))⟩) hSd ?_
      (try simp only [List.getElem_toArray, List.getElem_cons_succ, List.getElem_cons_zero, Act.put, List.setIfInBounds_toArray, List.set_cons_zero, List.set_cons_succ])
      refine wpAnyH_take (i := 6) (v := .pointer (some ⟨bo, 2, none⟩)) rfl (by kernel_rfl) (by kernel_rfl) (by kernel_rfl) (fun _ _ _ h => h) (Or.inl ⟨by rfl, by intro w' hS'; go_simp <;> (first | omega | rfl | (rw [IntKind.wrap_i64]; omega))⟩) hSd ?_
      (try simp only [List.getElem_toArray, List.getElem_cons_succ, List.getElem_cons_zero, Act.put, List.setIfInBounds_toArray, List.set_cons_zero, List.set_cons_succ])
      refine wpAnyH_take (i := 7) (v := .string oq) rfl (by kernel_rfl) (by kernel_rfl) (by kernel_rfl) (fun _ _ _ h => h) (Or.inl ⟨by rfl, by intro w' hS'; obtain ⟨q1, q2, q3, q4⟩ := HSX.out w' hS'; go_simp <;> (first | omega | rfl | (rw [IntKind.wrap_i64]; omega))⟩) hSd ?_
      (try simp only [List.getElem_toArray, List.getElem_cons_succ, List.getElem_cons_zero, Act.put, List.setIfInBounds_toArray, List.set_cons_zero, List.set_cons_succ])
      refine wpAnyH_take (i := 9) (v := .pointer (some ⟨bo, 3, none⟩)) rfl (by kernel_rfl) (by kernel_rfl) (by kernel_rfl) (fun _ _ _ h => h) (Or.inl ⟨by rfl, by intro w' hS'; go_simp <;> (first | omega | rfl | (rw [IntKind.wrap_i64]; omega))⟩) hSd ?_
      (try simp only [List.getElem_toArray, List.getElem_cons_succ, List.getElem_cons_zero, Act.put, List.setIfInBounds_toArray, List.set_cons_zero, List.set_cons_succ])
      refine wpAnyH_take (i := 10) (v := .string od) rfl (by kernel_rfl) (by kernel_rfl) (by kernel_rfl) (fun _ _ _ h => h) (Or.inl ⟨by rfl, by intro w' hS'; obtain ⟨q1, q2, q3, q4⟩ := HSX.out w' hS'; go_simp <;> (first | omega | rfl | (rw [IntKind.wrap_i64]; omega))⟩) hSd ?_
      (try simp only [List.getElem_toArray, List.getElem_cons_succ, List.getElem_cons_zero, Act.put, List.setIfInBounds_toArray, List.set_cons_zero, List.set_cons_succ])
      refine held_stepS (i := 5) (by kernel_rfl) rfl (by rfl) ?_
      go_simp
      refine (HCL.out oa _ (Nat.le_trans HSZ.out.1 (by omega))).mono ?_
      rintro e w3 ⟨rfl, hb3⟩
      have HT3 := hidF (HT2.out.call hb3)
      have hS3 := HSI.out _ _ hSd hb3
      refine ⟨hS3, ?_⟩
      (try simp only [List.getElem_toArray, List.getElem_cons_succ, List.getElem_cons_zero, Act.put, List.setIfInBounds_toArray, List.set_cons_zero, List.set_cons_succ])
      clear hb3 HT2 hSd
      refine held_stepS (i := 8) (by kernel_rfl) rfl (by rfl) ?_
      go_simp
      refine (HCL.out oq _ (Nat.le_trans HSZ.out.2.1 (by omega))).mono ?_
      rintro e w4 ⟨rfl, hb3⟩
      have HT4 := hidF (HT3.out.call hb3)
      have hS4 := HSI.out _ _ hS3 hb3
      refine ⟨hS4, ?_⟩
      (try simp only [List.getElem_toArray, List.getElem_cons_succ, List.getElem_cons_zero, Act.put, List.setIfInBounds_toArray, List.set_cons_zero, List.set_cons_succ])
      clear hb3 HT3 hS3
      refine held_stepS (i := 11) (by kernel_rfl) rfl (by rfl) ?_
      go_simp
      refine (HCL.out od _ (Nat.le_trans HSZ.out.2.2 (by omega))).mono ?_
      rintro e w5 ⟨rfl, hb3⟩
      have HT5 := hidF (HT4.out.call hb3)
      have hS5 := HSI.out _ _ hS4 hb3
      refine ⟨hS5, ?_⟩
      (try simp only [List.getElem_toArray, List.getElem_cons_succ, List.getElem_cons_zero, Act.put, List.setIfInBounds_toArray, List.set_cons_zero, List.set_cons_succ])
      clear hb3 HT4 hS4
      refine wpAnyH_take (i := 12) (v := .agg #[.int .i64 om, .string oa, .string oq, .string od]) rfl (by kernel_rfl) (by kernel_rfl) (by kernel_rfl) (fun _ _ _ h => h) (Or.inl ⟨by rfl, by intro w' hS'; go_simp <;> (first | omega | rfl | (rw [IntKind.wrap_i64]; omega))⟩) hS5 ?_
      (try simp only [List.getElem_toArray, List.getElem_cons_succ, List.getElem_cons_zero, Act.put, List.setIfInBounds_toArray, List.set_cons_zero, List.set_cons_succ])
      have hS6 := HSI.out _ _ hS5 ((Below.refl _ _).alloc (Nat.le_refl _) (.cells #[.int .i64 om, .string oa, .string oq, .string od] 36))
      refine held_stepS (i := 13) (by kernel_rfl) rfl (by rfl) ?_
      go_simp
      refine ⟨hS6, ?_⟩
      (try simp only [List.getElem_toArray, List.getElem_cons_succ, List.getElem_cons_zero, Act.put, List.setIfInBounds_toArray, List.set_cons_zero, List.set_cons_succ])
      clear hS5
      have hws := HT5.out.lo.2
      refine held_stepS (i := 14) (by kernel_rfl) rfl (by rfl) ?_
      refine wp_append_own _ _ _ 25 rfl (w.heap.size + 2) 36 i0 _ 4 56 Try.underlying25 hi0 hz0 hz1 hz2 rfl (by decide) u M.length (dqC M) rfl (World.ownsRow.alloc HT5.out.own _) ⟨w5.heap.size, 0, none⟩ 1 1 [.int .i64 om, .string oa, .string oq, .string od] rfl rfl (cell_fourQ rfl) (four_dq _ _ _ _) (by unfold maxLen; omega) (by omega) (by rw [World.size_alloc]; omega) ?_
      intro v7 w7 hown hgrow _
      have H7 := hidF (HT5.out.one (m := om) (a := oa) (q := oq) (d := od) hown hgrow)
      have hS7 := HSG.out _ w7 hS6 hgrow
      refine ⟨hS7, ?_⟩
      (try simp only [List.getElem_toArray, List.getElem_cons_succ, List.getElem_cons_zero, Act.put, List.setIfInBounds_toArray, List.set_cons_zero, List.set_cons_succ])
      clear hown hgrow hS6 HT5
      refine wpAnyH_take (i := 15) (v := v7) rfl (by kernel_rfl) (by kernel_rfl) (by kernel_rfl) (fun _ _ _ h => h) (Or.inl ⟨by rfl, by intro w' hS'; go_simp <;> (first | omega | rfl | (rw [IntKind.wrap_i64]; omega))⟩) hS7 ?_
      (try simp only [List.getElem_toArray, List.getElem_cons_succ, List.getElem_cons_zero, Act.put, List.setIfInBounds_toArray, List.set_cons_zero, List.set_cons_succ])
      refine wpAnyH_done (by kernel_rfl) ?_ _
      have HXE := hidF (HSE.out _ hS7)
      clear hS7 HSX HSI HSE HSG
      go_wp2_with fail
      go_roundw
      case rel => exact ⟨i + 1, _, by have := HIN.out; omega, rfl, by go_num, by rw [HTS.out]; exact H7, HXE⟩
      case measure => simp [intFl]; have := HIN.out; omega
    · have hie : i = O.length := by omega
      have hltI : ¬ (i : Int) < (O.length : Int) := by omega
      have HM : Hid (DqW (w.heap.size + 2) w W0 u O) := by have h := HT.out; rw [hie, List.take_length] at h; exact h
      clear hie HT
      have c0 := cell_of_row _ _ 0 _ _ _ HX.out.1
      have c1 := cell_of_row _ _ 1 _ _ _ HX.out.1
      go_wp2_with fail
      obtain ⟨xg, xc, rfl⟩ := ownQ_slice HM.out.own
      clear c0 c1
      obtain ⟨SS, hS⟩ : ∃ SS : World → Prop, SS = fun w' => w'.heap[bk]? = some (.cells #[.slice al L.length cl, .slice a2 S.length ks, .slice ao O.length co] 27 (0, 0)) ∧ (∃ p q r, w'.heap[rk]? = some (.cells #[p, q, r] 27 (0, 0))) := ⟨_, rfl⟩
      have hSd : SS W0.drew := by rw [hS]; exact ⟨HX.out.1, _, _, _, HX.out.2⟩
      have HSX : Hid (∀ w', SS w' → w'.cell? ⟨bk, 0, none⟩ = some (.slice al L.length cl) ∧ w'.cell? ⟨bk, 1, none⟩ = some (.slice a2 S.length ks)) := fun w' hq => by
        rw [hS] at hq
        exact ⟨cell_of_row _ _ 0 _ _ _ hq.1, cell_of_row _ _ 1 _ _ _ hq.1⟩
      have HSI : Hid (∀ w' w'', SS w' → Below w'.heap.size w' w'' → SS w'') := fun w' w'' h1 hb => by
        rw [hS] at h1 ⊢
        exact ⟨(hb.block _ (Array.getElem?_eq_some_iff.1 h1.1).1).trans h1.1, let ⟨p, q, r, h2⟩ := h1.2; ⟨p, q, r, (hb.block _ (Array.getElem?_eq_some_iff.1 h2).1).trans h2⟩⟩
      have HSZ : Hid (∀ w', SS w' → ∃ p q r, w'.heap[rk]? = some (.cells #[p, q, r] 27 (0, 0))) := fun w' h => by rw [hS] at h; exact h.2
      have HSB : Hid (∀ w' a b c, SS w' → SS (set3 w' rk a b c)) := fun w' a b c h => by
        rw [hS] at h ⊢
        obtain ⟨p, q, r, h2⟩ := h.2
        exact ⟨(set3_other _ _ _ (by have := HBK.out; omega)).trans h.1, _, _, _, heap_setCell_same _ _ _ _ _ _ (heap_setCell_same _ _ _ _ _ _ (heap_setCell_same _ _ _ _ _ _ h2))⟩
      have HM2 := hidF (HM.out.call (Below.refl W0.heap.size W0).drew)
      clear hS HX
      refine wp_region_held (S := SS) (by kernel_rfl) ?_
      change wpAnyH _ _ _ _ _ _ _ _ (World.drew _)
      generalize hX2 : W0.drew = X2 at hSd HM2 ⊢
      clear hX2 HM
      refine wpAnyH_take (i := 0) (v := .pointer (some ⟨bk, 0, none⟩)) rfl (by kernel_rfl) (by kernel_rfl) (by kernel_rfl) (fun _ _ _ h => h) (Or.inl ⟨by rfl, by intro w' hS'; go_simp <;> (first | omega | rfl | (rw [IntKind.wrap_i64]; omega))⟩) hSd ?_
      (try simp only [List.getElem_toArray, List.getElem_cons_succ, List.getElem_cons_zero, Act.put, List.setIfInBounds_toArray, List.set_cons_zero, List.set_cons_succ])
      refine wpAnyH_take (i := 1) (v := .slice al L.length cl) rfl (by kernel_rfl) (by kernel_rfl) (by kernel_rfl) (fun _ _ _ h => h) (Or.inl ⟨by rfl, by intro w' hS'; obtain ⟨q1, q2⟩ := HSX.out w' hS'; go_simp <;> (first | omega | rfl | (rw [IntKind.wrap_i64]; omega))⟩) hSd ?_
      (try simp only [List.getElem_toArray, List.getElem_cons_succ, List.getElem_cons_zero, Act.put, List.setIfInBounds_toArray, List.set_cons_zero, List.set_cons_succ])
      refine wpAnyH_take (i := 3) (v := .pointer (some ⟨bk, 1, none⟩)) rfl (by kernel_rfl) (by kernel_rfl) (by kernel_rfl) (fun _ _ _ h => h) (Or.inl ⟨by rfl, by intro w' hS'; go_simp <;> (first | omega | rfl | (rw [IntKind.wrap_i64]; omega))⟩) hSd ?_
      (try simp only [List.getElem_toArray, List.getElem_cons_succ, List.getElem_cons_zero, Act.put, List.setIfInBounds_toArray, List.set_cons_zero, List.set_cons_succ])
      refine wpAnyH_take (i := 4) (v := .slice a2 S.length ks) rfl (by kernel_rfl) (by kernel_rfl) (by kernel_rfl) (fun _ _ _ h => h) (Or.inl ⟨by rfl, by intro w' hS'; obtain ⟨q1, q2⟩ := HSX.out w' hS'; go_simp <;> (first | omega | rfl | (rw [IntKind.wrap_i64]; omega))⟩) hSd ?_
      (try simp only [List.getElem_toArray, List.getElem_cons_succ, List.getElem_cons_zero, Act.put, List.setIfInBounds_toArray, List.set_cons_zero, List.set_cons_succ])
      refine wpAnyH_take (i := 6) (v := .slice xg O.length xc) rfl (by kernel_rfl) (by kernel_rfl) (by kernel_rfl) (fun _ _ _ h => h) (Or.inl ⟨by rfl, by intro w' hS'; go_simp <;> (first | omega | rfl | (rw [IntKind.wrap_i64]; omega))⟩) hSd ?_
      (try simp only [List.getElem_toArray, List.getElem_cons_succ, List.getElem_cons_zero, Act.put, List.setIfInBounds_toArray, List.set_cons_zero, List.set_cons_succ])
      refine held_stepS (i := 2) (by kernel_rfl) rfl (by rfl) ?_
      go_simp
      refine (HF1.out _ HM2.out.bel).mono ?_
      rintro e w3 ⟨va, rfl, hwa⟩
      obtain ⟨ga, ca, rfl⟩ := ownF_slice hwa.own
      have HWA := hidF hwa
      have HM3 := hidF (HM2.out.call hwa.bel)
      have hS3 := HSI.out _ _ hSd hwa.bel
      refine ⟨hS3, ?_⟩
      (try simp only [List.getElem_toArray, List.getElem_cons_succ, List.getElem_cons_zero, Act.put, List.setIfInBounds_toArray, List.set_cons_zero, List.set_cons_succ])
      clear hwa hSd
      refine held_stepS (i := 5) (by kernel_rfl) rfl (by rfl) ?_
      go_simp
      refine (HF2.out _ HM3.out.bel).mono ?_
      rintro e w4 ⟨vb, rfl, hwb⟩
      obtain ⟨gb, cb, rfl⟩ := ownF_slice hwb.own
      have HWB := hidF hwb
      have HM4 := hidF (HM3.out.call hwb.bel)
      have hS4 := HSI.out _ _ hS3 hwb.bel
      have HA4 := hidF (ownF_call HWA.out.own hwb.bel)
      refine ⟨hS4, ?_⟩
      (try simp only [List.getElem_toArray, List.getElem_cons_succ, List.getElem_cons_zero, Act.put, List.setIfInBounds_toArray, List.set_cons_zero, List.set_cons_succ])
      clear hwb hS3
      refine wpAnyH_take (i := 7) (v := .agg #[.slice ga L.length ca, .slice gb S.length cb, .slice xg O.length xc]) rfl (by kernel_rfl) (by kernel_rfl) (by kernel_rfl) (fun _ _ _ h => h) (Or.inl ⟨by rfl, by intro w' hS'; go_simp <;> (first | omega | rfl | (rw [IntKind.wrap_i64]; omega))⟩) hS4 ?_
      (try simp only [List.getElem_toArray, List.getElem_cons_succ, List.getElem_cons_zero, Act.put, List.setIfInBounds_toArray, List.set_cons_zero, List.set_cons_succ])
      obtain ⟨p0, q0, r0, hz4⟩ := HSZ.out _ hS4
      have HZ4 := hidF hz4
      clear hz4
      have z0 := cell_of_row _ _ 0 _ _ _ HZ4.out
      have z1 := cell_of_row _ _ 1 _ _ _ HZ4.out
      have z2 := cell_of_row _ _ 2 _ _ _ HZ4.out
      have f0 := frozen_of_row _ _ 0 _ _ HZ4.out
      have f1 := frozen_of_row _ _ 1 _ _ HZ4.out
      have f2 := frozen_of_row _ _ 2 _ _ HZ4.out
      have HB9 : Hid (Below w.heap.size w (set3 w4 rk (.slice ga L.length ca) (.slice gb S.length cb) (.slice xg O.length xc))) := ((HM4.out.bel.setCell (p := ⟨rk, 0, none⟩) (by have := HBK.out; show _ ≤ rk; omega) _).setCell (p := ⟨rk, 1, none⟩) (by have := HBK.out; show _ ≤ rk; omega) _).setCell (p := ⟨rk, 2, none⟩) (by have := HBK.out; show _ ≤ rk; omega) _
      have HR9 : Hid ((set3 w4 rk (.slice ga L.length ca) (.slice gb S.length cb) (.slice xg O.length xc)).heap[rk]? = some (.cells #[.slice ga L.length ca, .slice gb S.length cb, .slice xg O.length xc] 27 (0, 0))) := heap_setCell_same _ _ _ _ _ _ (heap_setCell_same _ _ _ _ _ _ (heap_setCell_same _ _ _ _ _ _ HZ4.out))
      have hx2 := HM2.out.lo
      have hx3 := HWA.out.bel.size
      have HO9 : Hid (DkO w.heap.size w (.returned (.agg #[.slice ga L.length ca, .slice gb S.length cb, .slice xg O.length xc])) (set3 w4 rk (.slice ga L.length ca) (.slice gb S.length cb) (.slice xg O.length xc)) L S O) := by
        have hrk := HBK.out
        refine ⟨_, _, _, rfl, ownF_base (ownK_keep HA4.out fun k hk => set3_other _ _ _ (by have := (HWA.out.own.lt k hk).1; omega)) (by omega), ownF_base (ownK_keep HWB.out.own fun k hk => set3_other _ _ _ (by have := (HWB.out.own.lt k hk).1; omega)) (by omega), ownF_base (ownK_keep HM4.out.own fun k hk => set3_other _ _ _ (by have := (HM4.out.own.lt k hk).1; omega)) (by omega), fun k hk => ⟨fun hb => ?_, fun hc => ?_⟩, fun k hk hc => ?_⟩
        · have := (HWA.out.own.lt k hk).2; have := (HWB.out.own.lt k hb).1; omega
        · have := (HWA.out.own.lt k hk).1; have := (HM2.out.own.lt k hc).2; omega
        · have := (HWB.out.own.lt k hk).1; have := (HM2.out.own.lt k hc).2; omega
      clear hx2 hx3
      refine held_step (i := 8) (by kernel_rfl) rfl (by rfl) ?_
      have hS9 := HSB.out w4 (.slice ga L.length ca) (.slice gb S.length cb) (.slice xg O.length xc) hS4
      go_simp
      refine ⟨hS9, ?_⟩
      (try simp only [List.getElem_toArray, List.getElem_cons_succ, List.getElem_cons_zero, Act.put, List.setIfInBounds_toArray, List.set_cons_zero, List.set_cons_succ])
      clear hS9 hS4 HSX HSI HSZ HSB z0 z1 z2 f0 f1 f2
      refine wpAnyH_done (by kernel_rfl) ?_ _
      go_wp2_with fail
      exact bodyPost_ret (results_cell_row rfl _ _ rk 27 #[.slice ga L.length ca, .slice gb S.length cb, .slice xg O.length xc] (0, 0) _ rfl HR9.out Try.underlying27 rfl (by kernel_rfl)) rfl ⟨HO9.out, HB9.out⟩
end Go.Proofs.Ytanlggglbpibfaa
