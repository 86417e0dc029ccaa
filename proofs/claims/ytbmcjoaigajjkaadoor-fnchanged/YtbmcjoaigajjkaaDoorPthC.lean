/-
  Whether a path is right, what is above it, its extension: the code's.
-/
import Derived.Test.YtbmcjoaigajjkaaDoorPthN
import Derived.Test.YtbmcjoaigajjkaaDoorShelfP
import Derived.Test.YtbmcjoaigajjkaaDoorClone
namespace Go.Proofs.YtbmcjoaigajjkaaDoor
open Go.RowKit
set_option linter.unusedVariables false
set_option linter.unusedSimpArgs false
/-- the variable that no path reads holds some number -/
def MxL (w : World) : Prop := ∃ m : Int, w.cell? ⟨0, 0, none⟩ = some (.int .i64 m)
theorem MxL.below {w w' : World} {B : Nat} (h : MxL w) (hb : Below B w w') (hB : 0 < B) : MxL w' := by
  obtain ⟨m, hm⟩ := h
  exact ⟨m, (hb.cell (p := ⟨0, 0, none⟩) hB).trans hm⟩
theorem MxL.lt {w : World} (h : MxL w) : 0 < w.heap.size := by obtain ⟨m, hm⟩ := h; exact World.block_lt_of_cell? w ⟨0, 0, none⟩ hm
theorem MxL.on {w w' : World} (h : MxL w) (hb : Below w.heap.size w w') : MxL w' := h.below hb h.lt
/-- a row of strings -/
structure StRow (w : World) (g : Nat) (P : List ByteArray) : Prop where
  lt : g < w.heap.size
  c : ∀ i (h : i < P.length), w.cell? ⟨g, i, none⟩ = some (.string P[i])
theorem StRow.below {w w' : World} {g B : Nat} {P : List ByteArray} (h : StRow w g P) (hb : Below B w w') (hg : g < B) : StRow w' g P :=
  ⟨Nat.lt_of_lt_of_le h.lt hb.size, fun i hi => (hb.cell (p := ⟨g, i, none⟩) hg).trans (h.c i hi)⟩
theorem strow_new (w : World) (P : List ByteArray) (N : Nat) (t : TypeId) (hN : P.length ≤ N) : StRow (w.alloc (.cells (Lib.cellsOf P N) t)) w.heap.size P := by
  refine ⟨by simp, fun i hi => ?_⟩
  rw [cell_of_row _ _ _ _ _ _ (heap_alloc_new w (.cells (Lib.cellsOf P N) t))]
  unfold Lib.cellsOf
  rw [List.getElem?_toArray, List.getElem?_append_left (by simpa using hi), List.getElem?_map, List.getElem?_eq_getElem hi]; rfl
set_option maxRecDepth 100000 in
set_option maxHeartbeats 1000000 in
theorem namesOf_any (s : ByteArray) (w : World) (hs : s.size ≤ 4294967000) (hm : MxL w) :
    Calls Tryd.prog 24 #[.string s] w fun e w' => (∃ g c, e = .returned (.slice (some ⟨g, 0, none⟩) (pcsB s).length c) ∧ w.heap.size ≤ g ∧ StRow w' g (pcsB s)) ∧ Below w.heap.size w w' := by
  have hN : (pcsB s).length ≤ min 7 (s.size + 1) := by
    have := Lib.splitB_length_le ⟨#[47]⟩ 0 (min 7 (s.size + 1) - 1) s
    unfold pcsB; omega
  obtain ⟨m, hm⟩ := hm
  have HS : Hid (Calls Tryd.prog 55 #[.string s, .string ⟨#[47]⟩, .int .i64 7] w fun e w' => e = .returned (.slice (some ⟨w.heap.size, 0, none⟩) (pcsB s).length (min 7 (s.size + 1))) ∧ w' = w.alloc (.cells (Lib.cellsOf (pcsB s) (min 7 (s.size + 1))) 9)) :=
    Tryd.strings_SplitN s ⟨#[47]⟩ 7 m w (by omega) hm (by decide) (by decide) (by decide)
  go_enter Tryd.func24, Tryd.ntmps24
  go_wp2_with fail
  refine HS.out.mono ?_
  rintro e w1 ⟨rfl, hw⟩
  go_wp2_with fail
  go_ret
  subst hw
  exact ⟨⟨_, _, rfl, Nat.le_refl _, strow_new w _ _ _ hN⟩, (Below.refl _ _).alloc (Nat.le_refl _) _⟩
set_option maxRecDepth 100000 in
set_option maxHeartbeats 1000000 in
theorem pathOk_any (s : ByteArray) (w : World) (hs : s.size ≤ 1048576) (hm : MxL w) :
    Calls Tryd.prog 79 #[.string s] w fun e w' => e = .returned (.bool (pathB s.toList)) ∧ Below w.heap.size w w' := by
  have HN : Hid (Calls Tryd.prog 24 #[.string s] w fun e w' => (∃ g c, e = .returned (.slice (some ⟨g, 0, none⟩) (pcsB s).length c) ∧ w.heap.size ≤ g ∧ StRow w' g (pcsB s)) ∧ Below w.heap.size w w') := namesOf_any s w (by omega) hm
  have HS : Hid (∀ i (h : i < (pcsB s).length) w, Calls Tryd.prog 98 #[.string (pcsB s)[i]] w fun e w' => e = .returned (.bool (nameB (pcsB s)[i].toList)) ∧ w' = w) := fun i h w => isname_any _ w (pcsB_size s i h hs)
  have HP : Hid (pathB s.toList = (decide ((pcsB s).length ≤ 6) && (pcsB s).all fun p => nameB p.toList)) := by
    rw [Lib.toList_data]
    have h := pathB_pcs s
    simp only [← Lib.toList_data] at h ⊢
    exact h
  have hl := pcsB_len s
  generalize pcsB s = P at HN HS HP hl
  generalize pathB s.toList = R at HP ⊢
  go_enter Tryd.func79, Tryd.ntmps79
  go_wp2_with fail
  refine HN.out.mono ?_
  rintro e w1 ⟨⟨g, c, rfl, hg, hrow⟩, hb1⟩
  by_cases h6 : 6 < P.length
  · have h6I : (6 : Int) < P.length := by omega
    obtain rfl : R = false := by rw [HP.out]; simp; omega
    go_wp2_with fail
    go_ret
    exact ⟨rfl, hb1⟩
  · have h6I : ¬ (6 : Int) < P.length := by omega
    have HROW : Hid (StRow w1 g P) := hrow
    clear hrow
    go_wp2_with fail
    go_loopw [13] (fun v wr => ∃ i : Nat, i ≤ P.length ∧ v = .int .i64 (i : Int) ∧ Hid (∀ j (h : j < P.length), j < i → nameB P[j].toList = true) ∧ wr = w1) (fun v _ => P.length - (nIntOf v).toNat)
    case atStart => exact ⟨0, by omega, rfl, fun j _ hj => absurd hj (by omega), rfl⟩
    case round =>
      obtain ⟨i, hi, rfl, HA, hw⟩ := hrel
      subst hw
      by_cases hlt : i < P.length
      · have hltI : (i : Int) < (P.length : Int) := by omega
        have x0 := HROW.out.c i hlt
        have HI := HS.out i hlt
        have HII : Hid _ := HI
        clear HI
        go_wp2_with fail
        refine (HII.out _).mono ?_
        rintro e w2 ⟨rfl, hw⟩
        subst hw
        cases ho : nameB P[i].toList with
        | true =>
          have HA2 : Hid (∀ j (h : j < P.length), j < i + 1 → nameB P[j].toList = true) := fun j h hj => by
            by_cases e : j = i
            · subst e; exact ho
            · exact HA.out j h (by omega)
          clear ho HA
          go_wp2_with fail
          go_roundw
          case rel => exact ⟨i + 1, by omega, by go_num, HA2, trivial⟩
          case measure => simp [nIntOf]; omega
        | false =>
          obtain rfl : R = false := by
            rw [HP.out]
            have : (P.all fun p => nameB p.toList) = false := by
              rw [Bool.eq_false_iff]; intro c
              have := List.all_eq_true.1 c P[i] (List.getElem_mem hlt)
              rw [ho] at this; cases this
            rw [this]; simp
          clear ho HA
          go_wp2_with fail
          go_ret
          exact ⟨rfl, hb1⟩
      · obtain rfl : i = P.length := by omega
        obtain rfl : R = true := by
          rw [HP.out]
          have : (P.all fun p => nameB p.toList) = true := List.all_eq_true.2 fun p hp => by
            obtain ⟨j, hj, rfl⟩ := List.getElem_of_mem hp
            exact HA.out j hj hj
          rw [this]; simp; omega
        go_wp2_with fail
        go_ret
        exact ⟨rfl, hb1⟩
end Go.Proofs.YtbmcjoaigajjkaaDoor
