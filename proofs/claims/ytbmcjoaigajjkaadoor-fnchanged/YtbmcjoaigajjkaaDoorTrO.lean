/-
  Whether a node is right by itself: the code's.
-/
import Derived.Test.YtbmcjoaigajjkaaDoorTrC
namespace Go.Proofs.YtbmcjoaigajjkaaDoor
open Go.RowKit
set_option linter.unusedVariables false
set_option linter.unusedSimpArgs false
noncomputable def ndOkB (p : NdI) : Bool := open Classical in decide (ndOk p)
open Classical in
theorem ndOkB_yes {p : NdI} (h : ndOk p) : ndOkB p = true := by unfold ndOkB; exact decide_eq_true h
open Classical in
theorem ndOkB_no {p : NdI} (h : ¬ ndOk p) : ndOkB p = false := by unfold ndOkB; exact decide_eq_false h
theorem nd_ne {d : ByteArray} (h : d ≠ ⟨#[]⟩) : d.toList.isEmpty = false := by
  rw [Lib.toList_data]
  cases hd : d.data.toList with
  | nil => exact absurd (ba_ext (by rw [hd])) h
  | cons a l => rfl
set_option maxRecDepth 100000 in
set_option maxHeartbeats 4000000 in
theorem nodeOk_any (p : NdI) (w : World) (hs : p.p.size ≤ 1048576) (hm : MxL w) :
    Calls Tryd.prog 52 #[ndV p.p p.r p.m p.d] w fun e w' => e = .returned (.bool (ndOkB p)) ∧ Below w.heap.size w w' := by
  have HP : Hid (∀ w, MxL w → Calls Tryd.prog 79 #[.string p.p] w fun e w' => e = .returned (.bool (pathB p.p.toList)) ∧ Below w.heap.size w w') := fun w h => pathOk_any p.p w hs h
  have HM : Hid (∀ o, MxL (w.alloc o)) := fun o => hm.on ((Below.refl _ _).alloc (Nat.le_refl _) _)
  have HB0 : Hid (∀ o, Below w.heap.size w (w.alloc o)) := fun o => (Below.refl _ _).alloc (Nat.le_refl _) _
  have HY : Hid (ndOk p → ndOkB p = true) := fun h => ndOkB_yes h
  have HN : Hid (¬ ndOk p → ndOkB p = false) := fun h => ndOkB_no h
  unfold ndOk at HY HN
  unfold ndV
  obtain ⟨a, r, m, d⟩ := p
  simp only at HP HY HN
  generalize ndOkB ⟨a, r, m, d⟩ = R at HY HN ⊢
  clear hm hs
  have HROW : Hid (∀ w2, Below (w.alloc (.cells #[.string a, .bool r, .int .i64 m, .string d] 32)).heap.size (w.alloc (.cells #[.string a, .bool r, .int .i64 m, .string d] 32)) w2 → w2.heap[w.heap.size]? = some (.cells #[.string a, .bool r, .int .i64 m, .string d] 32 (0, 0))) := fun w2 h => (h.block _ (by simp)).trans (heap_alloc_new w _)
  have HT2 : Hid (∀ w2, Below (w.alloc (.cells #[.string a, .bool r, .int .i64 m, .string d] 32)).heap.size (w.alloc (.cells #[.string a, .bool r, .int .i64 m, .string d] 32)) w2 → Below w.heap.size w w2) := fun w2 h => blNd (HB0.out _) h (by simp)
  cases hp : pathB a.toList with
  | false =>
    rw [hp] at HP HN
    obtain rfl := HN.out (fun c => by cases c.1)
    clear hp HY HN
    go_enter Tryd.func52, Tryd.ntmps52
    go_wp2_with fail
    refine (HP.out _ (HM.out _)).mono ?_
    rintro e w2 ⟨rfl, hb2⟩
    have HB2 := hidT (HT2.out _ hb2)
    clear hb2
    go_wp2_with fail
    go_ret
    exact ⟨rfl, HB2.out⟩
  | true =>
    rw [hp] at HP HY HN
    clear hp
    by_cases h1 : m < 0
    · obtain rfl := HN.out (fun c => by have := c.2.1; omega)
      clear HY HN
      go_enter Tryd.func52, Tryd.ntmps52
      go_wp2_with fail
      refine (HP.out _ (HM.out _)).mono ?_
      rintro e w2 ⟨rfl, hb2⟩
      have HB2 := hidT (HT2.out _ hb2)
      have x2 : w2.cell? ⟨w.heap.size, 2, none⟩ = some (.int .i64 m) := cell_of_row _ _ 2 _ _ _ (HROW.out _ hb2)
      clear hb2
      go_wp2_with fail
      go_ret
      exact ⟨rfl, HB2.out⟩
    · by_cases h2 : 511 < m
      · obtain rfl := HN.out (fun c => by have := c.2.1; omega)
        clear HY HN
        go_enter Tryd.func52, Tryd.ntmps52
        go_wp2_with fail
        refine (HP.out _ (HM.out _)).mono ?_
        rintro e w2 ⟨rfl, hb2⟩
        have HB2 := hidT (HT2.out _ hb2)
        have x2 : w2.cell? ⟨w.heap.size, 2, none⟩ = some (.int .i64 m) := cell_of_row _ _ 2 _ _ _ (HROW.out _ hb2)
        clear hb2
        go_wp2_with fail
        go_ret
        exact ⟨rfl, HB2.out⟩
      · by_cases h3 : d.size ≤ 4000
        · have h3I : (d.size : Int) ≤ 4000 := by omega
          cases r with
          | false =>
            obtain rfl := HY.out ⟨rfl, by omega, h3, fun c => by cases c⟩
            clear HY HN h3
            go_enter Tryd.func52, Tryd.ntmps52
            go_wp2_with fail
            refine (HP.out _ (HM.out _)).mono ?_
            rintro e w2 ⟨rfl, hb2⟩
            have HB2 := hidT (HT2.out _ hb2)
            have x1 : w2.cell? ⟨w.heap.size, 1, none⟩ = some (.bool false) := cell_of_row _ _ 1 _ _ _ (HROW.out _ hb2)
            have x2 : w2.cell? ⟨w.heap.size, 2, none⟩ = some (.int .i64 m) := cell_of_row _ _ 2 _ _ _ (HROW.out _ hb2)
            have x3 : w2.cell? ⟨w.heap.size, 3, none⟩ = some (.string d) := cell_of_row _ _ 3 _ _ _ (HROW.out _ hb2)
            clear hb2
            go_wp2_with fail
            go_ret
            exact ⟨rfl, HB2.out⟩
          | true =>
            by_cases h4 : d = ⟨#[]⟩
            · subst h4
              obtain rfl := HY.out ⟨rfl, by omega, h3, fun _ => rfl⟩
              clear HY HN h3
              go_enter Tryd.func52, Tryd.ntmps52
              go_wp2_with fail
              refine (HP.out _ (HM.out _)).mono ?_
              rintro e w2 ⟨rfl, hb2⟩
              have HB2 := hidT (HT2.out _ hb2)
              have x1 : w2.cell? ⟨w.heap.size, 1, none⟩ = some (.bool true) := cell_of_row _ _ 1 _ _ _ (HROW.out _ hb2)
              have x2 : w2.cell? ⟨w.heap.size, 2, none⟩ = some (.int .i64 m) := cell_of_row _ _ 2 _ _ _ (HROW.out _ hb2)
              have x3 : w2.cell? ⟨w.heap.size, 3, none⟩ = some (.string ⟨#[]⟩) := cell_of_row _ _ 3 _ _ _ (HROW.out _ hb2)
              clear hb2
              go_wp2_with fail
              go_ret
              exact ⟨rfl, HB2.out⟩
            · have hne := nd_ne h4
              obtain rfl := HN.out (fun c => h4 (c.2.2.2 rfl))
              clear HY HN h3 h4
              go_enter Tryd.func52, Tryd.ntmps52
              go_wp2_with fail
              refine (HP.out _ (HM.out _)).mono ?_
              rintro e w2 ⟨rfl, hb2⟩
              have HB2 := hidT (HT2.out _ hb2)
              have x1 : w2.cell? ⟨w.heap.size, 1, none⟩ = some (.bool true) := cell_of_row _ _ 1 _ _ _ (HROW.out _ hb2)
              have x2 : w2.cell? ⟨w.heap.size, 2, none⟩ = some (.int .i64 m) := cell_of_row _ _ 2 _ _ _ (HROW.out _ hb2)
              have x3 : w2.cell? ⟨w.heap.size, 3, none⟩ = some (.string d) := cell_of_row _ _ 3 _ _ _ (HROW.out _ hb2)
              clear hb2
              go_wp2_with fail
              go_ret
              exact ⟨rfl, HB2.out⟩
        · have h3I : ¬ (d.size : Int) ≤ 4000 := by omega
          obtain rfl := HN.out (fun c => h3 c.2.2.1)
          clear HY HN h3
          go_enter Tryd.func52, Tryd.ntmps52
          go_wp2_with fail
          refine (HP.out _ (HM.out _)).mono ?_
          rintro e w2 ⟨rfl, hb2⟩
          have HB2 := hidT (HT2.out _ hb2)
          have x2 : w2.cell? ⟨w.heap.size, 2, none⟩ = some (.int .i64 m) := cell_of_row _ _ 2 _ _ _ (HROW.out _ hb2)
          have x3 : w2.cell? ⟨w.heap.size, 3, none⟩ = some (.string d) := cell_of_row _ _ 3 _ _ _ (HROW.out _ hb2)
          clear hb2
          go_wp2_with fail
          go_ret
          exact ⟨rfl, HB2.out⟩
end Go.Proofs.YtbmcjoaigajjkaaDoor
