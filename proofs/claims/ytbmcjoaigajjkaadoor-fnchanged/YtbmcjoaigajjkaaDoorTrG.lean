/-
  Find: the code's and the specification's.
-/
import Derived.Test.YtbmcjoaigajjkaaDoorTrFi
import Derived.Test.YtbmcjoaigajjkaaDoorTrT
namespace Go.Proofs.YtbmcjoaigajjkaaDoor
open Go.RowKit
set_option linter.unusedVariables false
set_option linter.unusedSimpArgs false
theorem fdT_some {F : Nat → NdI} {j : Nat} {p : NdI} (h : F j = p) : fdT F (some j) = .tuple #[ndVal p, .bool true] := by rw [← h]; rfl
set_option maxRecDepth 100000 in
set_option maxHeartbeats 4000000 in
theorem findF_any (v : Value) (n : Nat) (F : Nat → NdI) (s : ByteArray) (w : World) (hF : NdLe F n) (hs : s.size ≤ 1048576) (hm : MxL w) (h : NdArg w v n F) :
    Calls Tryd.prog 11 #[v, .string s] w fun e w' => e = .returned (fdT F (fdI F n s)) ∧ Below w.heap.size w w' := by
  have HP : Hid (∀ w, MxL w → NdArg w v n F → Calls Tryd.prog 22 #[v] w fun e w' => PlP w F n e w') := fun w h1 h2 => planted_any v n F w hF h1 h2
  have HNM : Hid (∀ w, MxL w → Calls Tryd.prog 24 #[.string s] w fun e w' => (∃ g c, e = .returned (.slice (some ⟨g, 0, none⟩) (pcsB s).length c) ∧ (pcsB s).length ≤ c ∧ w.heap.size ≤ g ∧ StRow w' g (pcsB s)) ∧ Below w.heap.size w w') := fun w h2 => namesC_any s w (by omega) h2
  have HCP : Hid (∀ (p : NdI) w, (p.p.size ≤ 1048576 ∧ p.d.size ≤ 1048576) → Calls Tryd.prog 31 #[ndVal p] w fun e w' => e = .returned (ndVal p) ∧ Below w.heap.size w w') := fun p w h => copied_any p w h
  have hb0 : Below w.heap.size w (w.alloc (.cells #[.string ⟨#[]⟩, .bool false, .int .i64 0, .string ⟨#[]⟩] 32)) := (Below.refl _ _).alloc (Nat.le_refl _) _
  have HB0 := hidT hb0
  have HM : Hid (∀ w', Below w.heap.size w w' → MxL w') := fun w' h => hm.on h
  have HA0 := hidT (h.below hb0)
  have HR0 : Hid ((w.alloc (.cells #[.string ⟨#[]⟩, .bool false, .int .i64 0, .string ⟨#[]⟩] 32)).heap[w.heap.size]? = some (.cells #[.string ⟨#[]⟩, .bool false, .int .i64 0, .string ⟨#[]⟩] 32 (0, 0))) := heap_alloc_new w _
  have HFF := hidT hF
  have HSZ : Hid (w.heap.size < (w.alloc (.cells #[.string ⟨#[]⟩, .bool false, .int .i64 0, .string ⟨#[]⟩] 32)).heap.size) := by show _ < _; simp
  unfold ndVal at HCP
  clear hb0 h hm hF
  go_enter Tryd.func11, Tryd.ntmps11
  go_wp2_with fail
  generalize w.alloc (.cells #[.string ⟨#[]⟩, .bool false, .int .i64 0, .string ⟨#[]⟩] 32) = W at HB0 HA0 HR0 HSZ ⊢
  refine (HP.out _ (HM.out _ HB0.out) HA0.out).mono ?_
  rintro e w1 ⟨⟨hr, bl, vs, rfl, ht⟩ | ⟨hr, rfl⟩, hb1⟩
  · have HB1 := hidT (blNd HB0.out hb1 HB0.out.size)
    have HR1 : Hid (w1.heap[w.heap.size]? = some (.cells #[.string ⟨#[]⟩, .bool false, .int .i64 0, .string ⟨#[]⟩] 32 (0, 0))) := (hb1.block _ HSZ.out).trans HR0.out
    have HT1 := hidT ht
    have HRR := hidT hr
    clear hb1 ht hr HR0 HA0
    go_wp2_with fail
    refine (HNM.out _ (HM.out _ HB1.out)).mono ?_
    rintro e w2 ⟨⟨g, c, rfl, hgc, hg, hrow⟩, hb2⟩
    have HB2 := hidT (blNd HB1.out hb2 HB1.out.size)
    have HR2 : Hid (w2.heap[w.heap.size]? = some (.cells #[.string ⟨#[]⟩, .bool false, .int .i64 0, .string ⟨#[]⟩] 32 (0, 0))) := (hb2.block _ (Array.getElem?_eq_some_iff.1 HR1.out).1).trans HR1.out
    have HT2 := hidT (HT1.out.below hb2)
    have HFD := hidT (find_any F n bl vs W.heap.size g c (pcsB s) w2 HRR.out.1 HRR.out.2 HT2.out hrow (pcsB_len s))
    clear hb2 hrow hg hgc HR1 HT1
    go_wp2_with fail
    refine HFD.out.mono ?_
    rintro e w3 ⟨rfl, hb3⟩
    have HB3 := hidT (blNd HB2.out hb3 HB2.out.size)
    have hr3 : w3.heap[w.heap.size]? = some (.cells #[.string ⟨#[]⟩, .bool false, .int .i64 0, .string ⟨#[]⟩] 32 (0, 0)) := (hb3.block _ (Array.getElem?_eq_some_iff.1 HR2.out).1).trans HR2.out
    have HR3 := hidT hr3
    have HT3 := hidT (HT2.out.below hb3)
    clear hb3 HR2 HT2 HFD
    rcases bF_path HRR.out.2 (s := s) with ⟨j, hj, hjs, hf⟩ | ⟨hno, hf⟩
    · have HI : Hid (fdI F n s = some j) := fdI_some HRR.out hj hjs
      obtain ⟨_, c1, c2, c3, c4, _⟩ := HT3.out.cells (show j + 1 ≤ n by omega)
      have hsz := HFF.out.s hj
      have HSS := hidT hsz
      rw [hf]
      unfold ptO
      have e1 : bN F (j + 1) = F j := rfl
      rw [e1] at c1 c2 c3 c4
      obtain ⟨p, hp⟩ : ∃ p, p = F j := ⟨_, rfl⟩
      have HPJ := hidT hp
      have HJ := hidT hj
      clear hf hjs hsz hj e1
      have HCC := hidT (HCP.out (F j))
      rw [← hp] at c1 c2 c3 c4 HSS HCC
      clear hp
      obtain ⟨a, r, m, d⟩ := p
      simp only at c1 c2 c3 c4 HSS HCC
      go_wp2_with fail
      refine (HCC.out _ HSS.out).mono ?_
      rintro e w4 ⟨rfl, hb4⟩
      have HB4 := hidT (blNd HB3.out hb4 HB3.out.size)
      have hr4 : w4.heap[w.heap.size]? = some (.cells #[.string ⟨#[]⟩, .bool false, .int .i64 0, .string ⟨#[]⟩] 32 (0, 0)) := (hb4.block _ (Array.getElem?_eq_some_iff.1 hr3).1).trans hr3
      have y0 : w4.cell? ⟨w.heap.size, 0, none⟩ = some (.string ⟨#[]⟩) := cell_of_row _ _ 0 _ _ _ hr4
      have y1 : w4.cell? ⟨w.heap.size, 1, none⟩ = some (.bool false) := cell_of_row _ _ 1 _ _ _ hr4
      have y2 : w4.cell? ⟨w.heap.size, 2, none⟩ = some (.int .i64 0) := cell_of_row _ _ 2 _ _ _ hr4
      have y3 : w4.cell? ⟨w.heap.size, 3, none⟩ = some (.string ⟨#[]⟩) := cell_of_row _ _ 3 _ _ _ hr4
      have z0 := frozen_of_row w4 w.heap.size 0 _ _ hr4
      have z1 := frozen_of_row w4 w.heap.size 1 _ _ hr4
      have z2 := frozen_of_row w4 w.heap.size 2 _ _ hr4
      have z3 := frozen_of_row w4 w.heap.size 3 _ _ hr4
      have HR := hidT (setWNd_row (q := 0) hr4 (.string a) (.bool r) (.int .i64 m) (.string d))
      clear hb4 hr3 hr4 c1 c2 c3 c4
      go_wp2_with fail
      refine bodyPost_ret (results_cell_1 rfl _ _ w.heap.size 32 #[.string a, .bool r, .int .i64 m, .string d] (0, 0) _ rfl HR.out Tryd.underlying32 rfl (by kernel_rfl)) rfl ⟨by rw [HI.out]; rw [fdT_some HPJ.out.symm]; rfl, setWNd_below HB4.out (Nat.le_refl _) 0 _ _ _ _⟩
    · have HI : Hid (fdI F n s = none) := fdI_none (Or.inr hno)
      rw [hf]
      unfold ptO
      clear hno hf
      have y0 : w3.cell? ⟨w.heap.size, 0, none⟩ = some (.string ⟨#[]⟩) := cell_of_row _ _ 0 _ _ _ hr3
      have y1 : w3.cell? ⟨w.heap.size, 1, none⟩ = some (.bool false) := cell_of_row _ _ 1 _ _ _ hr3
      have y2 : w3.cell? ⟨w.heap.size, 2, none⟩ = some (.int .i64 0) := cell_of_row _ _ 2 _ _ _ hr3
      have y3 : w3.cell? ⟨w.heap.size, 3, none⟩ = some (.string ⟨#[]⟩) := cell_of_row _ _ 3 _ _ _ hr3
      have z0 := frozen_of_row w3 w.heap.size 0 _ _ hr3
      have z1 := frozen_of_row w3 w.heap.size 1 _ _ hr3
      have z2 := frozen_of_row w3 w.heap.size 2 _ _ hr3
      have z3 := frozen_of_row w3 w.heap.size 3 _ _ hr3
      have HR := hidT (setWNd_row (q := 0) hr3 (.string ⟨#[]⟩) (.bool false) (.int .i64 0) (.string ⟨#[]⟩))
      clear hr3
      go_wp2_with fail
      refine bodyPost_ret (results_cell_1 rfl _ _ w.heap.size 32 #[.string ⟨#[]⟩, .bool false, .int .i64 0, .string ⟨#[]⟩] (0, 0) _ rfl HR.out Tryd.underlying32 rfl (by kernel_rfl)) rfl ⟨by rw [HI.out]; rfl, setWNd_below HB3.out (Nat.le_refl _) 0 _ _ _ _⟩
  · have HB1 := hidT (blNd HB0.out hb1 HB0.out.size)
    have hr1 : w1.heap[w.heap.size]? = some (.cells #[.string ⟨#[]⟩, .bool false, .int .i64 0, .string ⟨#[]⟩] 32 (0, 0)) := (hb1.block _ HSZ.out).trans HR0.out
    have HI : Hid (fdI F n s = none) := fdI_none (Or.inl hr)
    have y0 : w1.cell? ⟨w.heap.size, 0, none⟩ = some (.string ⟨#[]⟩) := cell_of_row _ _ 0 _ _ _ hr1
    have y1 : w1.cell? ⟨w.heap.size, 1, none⟩ = some (.bool false) := cell_of_row _ _ 1 _ _ _ hr1
    have y2 : w1.cell? ⟨w.heap.size, 2, none⟩ = some (.int .i64 0) := cell_of_row _ _ 2 _ _ _ hr1
    have y3 : w1.cell? ⟨w.heap.size, 3, none⟩ = some (.string ⟨#[]⟩) := cell_of_row _ _ 3 _ _ _ hr1
    have z0 := frozen_of_row w1 w.heap.size 0 _ _ hr1
    have z1 := frozen_of_row w1 w.heap.size 1 _ _ hr1
    have z2 := frozen_of_row w1 w.heap.size 2 _ _ hr1
    have z3 := frozen_of_row w1 w.heap.size 3 _ _ hr1
    have HR := hidT (setWNd_row (q := 0) hr1 (.string ⟨#[]⟩) (.bool false) (.int .i64 0) (.string ⟨#[]⟩))
    clear hr1 hb1 hr
    go_wp2_with fail
    refine bodyPost_ret (results_cell_1 rfl _ _ w.heap.size 32 #[.string ⟨#[]⟩, .bool false, .int .i64 0, .string ⟨#[]⟩] (0, 0) _ rfl HR.out Tryd.underlying32 rfl (by kernel_rfl)) rfl ⟨by rw [HI.out]; rfl, setWNd_below HB1.out (Nat.le_refl _) 0 _ _ _ _⟩
end Go.Proofs.YtbmcjoaigajjkaaDoor
