/-
  Sync: the code's and the specification's.
-/
import Derived.Test.YtanlggglbpibfaaFsQ
namespace Go.Proofs.Ytanlggglbpibfaa
open Go.RowKit
set_option linter.unusedVariables false
set_option linter.unusedSimpArgs false
noncomputable def syL (L S : List FlI) (O : List DqI) : List FlI := open Classical in if diskP L S O then L else []
theorem syL_yes {L S : List FlI} {O : List DqI} (h : diskP L S O) : syL L S O = L := by unfold syL; rw [if_pos h]
theorem syL_no {L S : List FlI} {O : List DqI} (h : ¬ diskP L S O) : syL L S O = [] := by unfold syL; rw [if_neg h]
theorem DkO.nil (B : Nat) (w w' : World) : DkO B w (.returned (.agg #[.slice none 0 0, .slice none 0 0, .slice none 0 0])) w' [] [] [] :=
  ⟨_, _, _, rfl, World.ownsRow_nil _ _ _ _, World.ownsRow_nil _ _ _ _, World.ownsRow_nil _ _ _ _, fun k hk => (by cases hk), fun k hk => (by cases hk)⟩
set_option maxRecDepth 100000 in
set_option maxHeartbeats 2000000 in
theorem sync15_any (vL vS vO : Value) (L S : List FlI) (O : List DqI) (w : World) (hL : FlLe L) (hS : FlLe S) (hO : DqLe O) (h1 : FlV w vL L) (h2 : FlV w vS S) (h3 : DqV w vO O) :
    Calls Try.prog 17 #[.agg #[vL, vS, vO]] w fun e w' => DkO w.heap.size w e w' (syL L S O) (syL L S O) [] ∧ Below w.heap.size w w' := by
  have HOP : Hid (∀ w', Below w.heap.size w w' → Calls Try.prog 41 #[.agg #[vL, vS, vO]] w' fun e w'' => OdAns w' vS L S O e w'' ∧ Below w'.heap.size w' w'') := fun w' hb => open15_any vL vS vO L S O w' hL hS hO (h1.below hb) (h2.below hb) (h3.below hb)
  have HLE := hidF hL
  have HX1 : Hid (((w.alloc (.cells #[vL, vS, vO] 27)).alloc (.cells #[.slice none 0 0, .slice none 0 0, .slice none 0 0] 27)).heap[w.heap.size + 1]? = some (.cells #[.slice none 0 0, .slice none 0 0, .slice none 0 0] 27 (0, 0))) := by
    have := heap_alloc_new (w.alloc (.cells #[vL, vS, vO] 27)) (.cells #[.slice none 0 0, .slice none 0 0, .slice none 0 0] 27)
    rw [World.size_alloc] at this
    exact this
  have HB1 : Hid (Below w.heap.size w ((w.alloc (.cells #[vL, vS, vO] 27)).alloc (.cells #[.slice none 0 0, .slice none 0 0, .slice none 0 0] 27))) := ((Below.refl _ _).alloc (Nat.le_refl _) _).alloc (by simp) _
  clear hL hS hO h1 h2 h3
  go_enter Try.func17, Try.ntmps17
  go_wp2_with fail
  have hop := HOP.out _ HB1.out
  generalize (w.alloc (.cells #[vL, vS, vO] 27)).alloc (.cells #[.slice none 0 0, .slice none 0 0, .slice none 0 0] 27) = w1 at HB1 HX1 hop ⊢
  obtain ⟨rk, hrk⟩ : ∃ rk, rk = w.heap.size + 1 := ⟨_, rfl⟩
  have HRK : Hid (rk = w.heap.size + 1) := hrk
  rw [← hrk] at HX1 ⊢
  clear hrk
  refine hop.mono ?_
  rintro e w2 ⟨⟨hy, lo, wd, p, mb, v, rfl, hlo1, hlo2, hw⟩ | ⟨hn, x, rfl⟩, hb2⟩
  · have HE : Hid (syL L S O = L) := syL_yes hy
    have hrl : rk < w1.heap.size := (Array.getElem?_eq_some_iff.1 HX1.out).1
    have HB2 := hidF (blFl HB1.out hb2 HB1.out.size)
    have HX2 : Hid (w2.heap[rk]? = some (.cells #[.slice none 0 0, .slice none 0 0, .slice none 0 0] 27 (0, 0))) := (hb2.block _ hrl).trans HX1.out
    have HSY := hidF (wsync_any w2 hw (by have := hy.live.len; omega) HLE.out hlo2)
    have HL6 : Hid (L.length ≤ 1000000) := by have := hy.live.len; show _ ≤ _; omega
    clear hw hop hy
    go_wp2_with fail
    refine HSY.out.mono ?_
    rintro e w3 ⟨rfl, ⟨v3, hw3, hv3⟩, hb3⟩
    have HB3 : Hid (Below w.heap.size w w3) := blFl HB2.out (hb3.mono hlo1) HB1.out.size
    have HX3 : Hid (w3.heap[rk]? = some (.cells #[.slice none 0 0, .slice none 0 0, .slice none 0 0] 27 (0, 0))) := (hb3.block _ (by omega)).trans HX2.out
    have HDK := hidF (wdisk_any w3 hw3 hv3 HL6.out HLE.out HLE.out ⟨by simp, fun o h => by cases h⟩)
    clear hw3 hv3 hb3 HSY HX2
    go_wp2_with fail
    refine HDK.out.mono ?_
    rintro e w4 ⟨⟨va, vb, vc, rfl, o1, o2, o3, o4, o5⟩, hb4⟩
    obtain ⟨g1, c1, rfl⟩ := ownF_slice o1
    obtain ⟨g2, c2, rfl⟩ := ownF_slice o2
    obtain ⟨g3, c3, rfl⟩ := ownQ_slice o3
    have hle := HB3.out.size
    have hr3 : rk < w3.heap.size := (Array.getElem?_eq_some_iff.1 HX3.out).1
    have h3 : w.heap.size ≤ rk := by have := HRK.out; omega
    have hx4 := (hb4.block _ hr3).trans HX3.out
    have hw4 := blFl HB3.out hb4 HB3.out.size
    have HB9 : Hid (Below w.heap.size w (set3 w4 rk (.slice g1 L.length c1) (.slice g2 L.length c2) (.slice g3 ([] : List DqI).length c3))) := ((hw4.setCell (p := ⟨rk, 0, none⟩) h3 _).setCell (p := ⟨rk, 1, none⟩) h3 _).setCell (p := ⟨rk, 2, none⟩) h3 _
    have HR9 : Hid ((set3 w4 rk (.slice g1 L.length c1) (.slice g2 L.length c2) (.slice g3 ([] : List DqI).length c3)).heap[rk]? = some (.cells #[.slice g1 L.length c1, .slice g2 L.length c2, .slice g3 ([] : List DqI).length c3] 27 (0, 0))) := heap_setCell_same _ _ _ _ _ _ (heap_setCell_same _ _ _ _ _ _ (heap_setCell_same _ _ _ _ _ _ hx4))
    have HO9 : Hid (DkO w.heap.size w (.returned (.agg #[.slice g1 L.length c1, .slice g2 L.length c2, .slice g3 ([] : List DqI).length c3])) (set3 w4 rk (.slice g1 L.length c1) (.slice g2 L.length c2) (.slice g3 ([] : List DqI).length c3)) (syL L S O) (syL L S O) []) := by
      show DkO _ _ _ _ _ _ _
      rw [HE.out]
      exact ⟨_, _, _, rfl, ownF_base (ownK_keep o1 fun k hk => set3_other _ _ _ (by have := (o1.lt k hk).1; omega)) hle, ownF_base (ownK_keep o2 fun k hk => set3_other _ _ _ (by have := (o2.lt k hk).1; omega)) hle, ownF_base (ownK_keep o3 fun k hk => set3_other _ _ _ (by have := (o3.lt k hk).1; omega)) hle, o4, o5⟩
    have z0 := cell_of_row _ _ 0 _ _ _ hx4
    have z1 := cell_of_row _ _ 1 _ _ _ hx4
    have z2 := cell_of_row _ _ 2 _ _ _ hx4
    have f0 := frozen_of_row _ _ 0 _ _ hx4
    have f1 := frozen_of_row _ _ 1 _ _ hx4
    have f2 := frozen_of_row _ _ 2 _ _ hx4
    clear o1 o2 o3 o4 o5 hb4 hw4 h3 hr3 hle hx4 hrl hlo1 hlo2 hb2
    go_wp2_with fail
    exact bodyPost_ret (results_cell_row rfl _ _ rk 27 #[.slice g1 L.length c1, .slice g2 L.length c2, .slice g3 ([] : List DqI).length c3] (0, 0) _ rfl HR9.out Try.underlying27 rfl (by kernel_rfl)) rfl ⟨HO9.out, HB9.out⟩
  · have HE : Hid (syL L S O = []) := syL_no hn
    have hrl : rk < w1.heap.size := (Array.getElem?_eq_some_iff.1 HX1.out).1
    have hx2 := (hb2.block _ hrl).trans HX1.out
    have HB2 := hidF (blFl HB1.out hb2 HB1.out.size)
    have h3 : w.heap.size ≤ rk := by have := HRK.out; omega
    have HB9 : Hid (Below w.heap.size w (set3 w2 rk (.slice none 0 0) (.slice none 0 0) (.slice none 0 0))) := ((HB2.out.setCell (p := ⟨rk, 0, none⟩) h3 _).setCell (p := ⟨rk, 1, none⟩) h3 _).setCell (p := ⟨rk, 2, none⟩) h3 _
    have HR9 : Hid ((set3 w2 rk (.slice none 0 0) (.slice none 0 0) (.slice none 0 0)).heap[rk]? = some (.cells #[.slice none 0 0, .slice none 0 0, .slice none 0 0] 27 (0, 0))) := heap_setCell_same _ _ _ _ _ _ (heap_setCell_same _ _ _ _ _ _ (heap_setCell_same _ _ _ _ _ _ hx2))
    have z0 := cell_of_row _ _ 0 _ _ _ hx2
    have z1 := cell_of_row _ _ 1 _ _ _ hx2
    have z2 := cell_of_row _ _ 2 _ _ _ hx2
    have f0 := frozen_of_row _ _ 0 _ _ hx2
    have f1 := frozen_of_row _ _ 1 _ _ hx2
    have f2 := frozen_of_row _ _ 2 _ _ hx2
    clear hn hb2 hop hx2 hrl h3
    go_wp2_with fail
    exact bodyPost_ret (results_cell_row rfl _ _ rk 27 #[.slice none 0 0, .slice none 0 0, .slice none 0 0] (0, 0) _ rfl HR9.out Try.underlying27 rfl (by kernel_rfl)) rfl ⟨by rw [HE.out]; exact DkO.nil _ _ _, HB9.out⟩
end Go.Proofs.Ytanlggglbpibfaa
