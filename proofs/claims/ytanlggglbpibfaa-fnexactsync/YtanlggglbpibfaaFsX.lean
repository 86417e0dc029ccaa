/-
  What the law makes of a disk that came in: rows that are its own.
-/
import Derived.Test.YtanlggglbpibfaaFsV
namespace Go.Proofs.Ytanlggglbpibfaa
open Go.RowKit
set_option linter.unusedVariables false
set_option linter.unusedSimpArgs false
set_option maxRecDepth 100000 in
set_option maxHeartbeats 4000000 in
theorem toFlS_own (g off c n : Nat) (F : Nat → FlI) (w : World) (hn : n ≤ 1048576) (hg : g < w.heap.size)
    (h0 : ∀ i, i < n → w.cell? ⟨g, off + i * 2, none⟩ = some (.string (F i).a) ∧ w.cell? ⟨g, off + i * 2 + 1, none⟩ = some (.string (F i).d)) :
    Calls Try.prog 68 #[.slice (some ⟨g, off, none⟩) n c] w fun e w' => e = .returned (.slice (some ⟨w.heap.size, 0, none⟩) n n) ∧ FlRow w' w.heap.size n F ∧ (∃ C, w'.heap[w.heap.size]? = some (.cells C 88 (0, 0)) ∧ C.size = 2 * n) ∧ Below w.heap.size w w' := by
  have hnI : (n : Int) ≤ 1048576 := by omega
  have HT : Hid (∀ a d w, Calls Try.prog 94 #[flV a d] w fun e w' => e = .returned (flV a d) ∧ Below w.heap.size w w') := fun a d w => toFl_any a d w
  unfold flV at HT
  have HC : Hid _ := h0
  clear h0
  obtain ⟨i0, hi0, hz0, hz1, hz2⟩ := info_parts Try.infFl
  have hmk := run_make (P := Try.prog) w 24 88 i0 (.agg #[.string ⟨#[]⟩, .string ⟨#[]⟩]) Try.underlying24 hi0 hz0 .i64 .i64 (n : Int) (n : Int) (by omega) (by omega) (by rw [hz2]; omega) (by omega)
  rw [hz1, Int.toNat_natCast] at hmk
  have HZS : Hid ((madeCells (Value.agg #[.string ⟨#[]⟩, .string ⟨#[]⟩]).cells (n * 2)).size = 2 * n) := by
    show (madeCells _ _).size = _
    rw [size_madeCells]; omega
  generalize madeCells (Value.agg #[.string ⟨#[]⟩, .string ⟨#[]⟩]).cells (n * 2) = Z at hmk HZS
  have HU : Hid (Below w.heap.size w (w.alloc (.cells Z 88)) ∧ (w.alloc (.cells Z 88)).heap[w.heap.size]? = some (.cells Z 88 (0, 0))) := ⟨(Below.refl _ _).alloc (Nat.le_refl _) _, heap_alloc_new w _⟩
  go_enter Try.func68, Try.ntmps68
  go_wp2_with fail
  go_loopw [4] (fun v wr => ∃ (i : Nat) (C : Array Value), i ≤ n ∧ v = .int .i64 (i : Int) ∧ C.size = 2 * n ∧ Hid (Below w.heap.size w wr ∧ wr.heap[w.heap.size]? = some (.cells C 88 (0, 0))) ∧ Hid (∀ j, j < i → C[2 * j]? = some (.string (F j).a) ∧ C[2 * j + 1]? = some (.string (F j).d))) (fun v _ => n - (intFl v).toNat)
  case atStart => exact ⟨0, Z, by omega, rfl, HZS.out, HU, fun j hj => absurd hj (by omega)⟩
  case round =>
    clear HU
    obtain ⟨i, C, hi, rfl, hcs, HB, HCC⟩ := hrel
    have HCS : Hid (C.size = 2 * n) := hcs
    clear hcs
    by_cases hlt : i < n
    · have hltI : (i : Int) < (n : Int) := by omega
      obtain ⟨x0, x1⟩ := HC.out i hlt
      rw [← HB.out.1.cell (p := ⟨g, off + i * 2, none⟩) hg] at x0
      rw [← HB.out.1.cell (p := ⟨g, off + i * 2 + 1, none⟩) hg] at x1
      go_wp2_with fail
      refine (HT.out _ _ _).mono ?_
      rintro e w3 ⟨rfl, hb3⟩
      have hsz := HCS.out
      have hrow : w3.heap[w.heap.size]? = some (.cells C 88 (0, 0)) := (hb3.block _ (Array.getElem?_eq_some_iff.1 HB.out.2).1).trans HB.out.2
      have hbw : Below w.heap.size w w3 := blFl HB.out.1 hb3 HB.out.1.size
      obtain ⟨q, hq⟩ : ∃ q, q = 2 * i := ⟨_, rfl⟩
      have hiq : i * 2 = q := by omega
      have HQ : Hid (q = 2 * i) := hq
      have HB3 : Hid (Below w.heap.size w w3 ∧ w3.heap[w.heap.size]? = some (.cells C 88 (0, 0))) := ⟨hbw, hrow⟩
      have y0 : w3.cell? ⟨w.heap.size, q, none⟩ = some C[q] := (cell_of_row w3 _ q _ _ _ hrow).trans (Array.getElem?_eq_getElem (by omega))
      have y1 : w3.cell? ⟨w.heap.size, q + 1, none⟩ = some C[q + 1] := (cell_of_row w3 _ (q + 1) _ _ _ hrow).trans (Array.getElem?_eq_getElem (by omega))
      have z0 := frozen_of_row w3 _ q _ _ hrow
      have z1 := frozen_of_row w3 _ (q + 1) _ _ hrow
      have HN : Hid (Below w.heap.size w (setWFl w3 w.heap.size q (.string (F i).a) (.string (F i).d)) ∧ (setWFl w3 w.heap.size q (.string (F i).a) (.string (F i).d)).heap[w.heap.size]? = some (.cells (setFl C q (.string (F i).a) (.string (F i).d)) 88 (0, 0))) :=
        ⟨setWFl_below hbw (Nat.le_refl _) _ _ _, setWFl_row hrow _ _ _⟩
      have HN2 : Hid (∀ j, j < i + 1 → (setFl C q (.string (F i).a) (.string (F i).d))[2 * j]? = some (.string (F j).a) ∧ (setFl C q (.string (F i).a) (.string (F i).d))[2 * j + 1]? = some (.string (F j).d)) := fun j hj => by
        by_cases hji : j < i
        · rw [setFl_low _ _ _ _ _ (by omega), setFl_low _ _ _ _ _ (by omega)]
          exact HCC.out j hji
        · obtain rfl : j = i := by omega
          rw [← hq]
          exact ⟨setFl_0 _ _ _ _ (by omega), setFl_1 _ _ _ _ (by omega)⟩
      generalize C[q] = u0 at y0
      generalize C[q + 1] = u1 at y1
      clear hsz hrow hbw hb3 x0 x1 hq HB
      go_wp2_with fail
      go_roundw
      case rel => exact ⟨i + 1, _, by omega, by go_num, (setFl_size _ _ _ _).trans HCS.out, HN, HN2⟩
      case measure => simp [intFl]; omega
    · obtain rfl : i = n := by omega
      go_wp2_with fail
      go_ret
      have hr := HB.out.2
      exact ⟨rfl, ⟨(Array.getElem?_eq_some_iff.1 hr).1, fun j hj => (cell_of_row wr _ _ _ _ _ hr).trans (HCC.out j hj).1, fun j hj => (cell_of_row wr _ _ _ _ _ hr).trans (HCC.out j hj).2⟩, ⟨C, hr, HCS.out⟩, HB.out.1⟩
set_option maxRecDepth 100000 in
set_option maxHeartbeats 4000000 in
theorem toDqS_own (g off c n : Nat) (F : Nat → DqI) (w : World) (hn : n ≤ 1048576) (hg : g < w.heap.size)
    (h0 : ∀ i, i < n → w.cell? ⟨g, off + i * 4, none⟩ = some (.int .i64 (F i).m) ∧ w.cell? ⟨g, off + i * 4 + 1, none⟩ = some (.string (F i).a) ∧ w.cell? ⟨g, off + i * 4 + 2, none⟩ = some (.string (F i).p) ∧ w.cell? ⟨g, off + i * 4 + 3, none⟩ = some (.string (F i).d)) :
    Calls Try.prog 69 #[.slice (some ⟨g, off, none⟩) n c] w fun e w' => e = .returned (.slice (some ⟨w.heap.size, 0, none⟩) n n) ∧ DqRow w' w.heap.size n F ∧ (∃ C, w'.heap[w.heap.size]? = some (.cells C 36 (0, 0)) ∧ C.size = 4 * n) ∧ Below w.heap.size w w' := by
  have hnI : (n : Int) ≤ 1048576 := by omega
  have HT : Hid (∀ m a p d w, Calls Try.prog 30 #[dqV m a p d] w fun e w' => e = .returned (dqV m a p d) ∧ Below w.heap.size w w') := fun m a p d w => toDq_any m a p d w
  unfold dqV at HT
  have HC : Hid _ := h0
  clear h0
  obtain ⟨i0, hi0, hz0, hz1, hz2⟩ := info_parts Try.infDq
  have hmk := run_make (P := Try.prog) w 25 36 i0 (.agg #[.int .i64 0, .string ⟨#[]⟩, .string ⟨#[]⟩, .string ⟨#[]⟩]) Try.underlying25 hi0 hz0 .i64 .i64 (n : Int) (n : Int) (by omega) (by omega) (by rw [hz2]; omega) (by omega)
  rw [hz1, Int.toNat_natCast] at hmk
  have HZS : Hid ((madeCells (Value.agg #[.int .i64 0, .string ⟨#[]⟩, .string ⟨#[]⟩, .string ⟨#[]⟩]).cells (n * 4)).size = 4 * n) := by
    show (madeCells _ _).size = _
    rw [size_madeCells]; omega
  generalize madeCells (Value.agg #[.int .i64 0, .string ⟨#[]⟩, .string ⟨#[]⟩, .string ⟨#[]⟩]).cells (n * 4) = Z at hmk HZS
  have HU : Hid (Below w.heap.size w (w.alloc (.cells Z 36)) ∧ (w.alloc (.cells Z 36)).heap[w.heap.size]? = some (.cells Z 36 (0, 0))) := ⟨(Below.refl _ _).alloc (Nat.le_refl _) _, heap_alloc_new w _⟩
  go_enter Try.func69, Try.ntmps69
  go_wp2_with fail
  go_loopw [4] (fun v wr => ∃ (i : Nat) (C : Array Value), i ≤ n ∧ v = .int .i64 (i : Int) ∧ C.size = 4 * n ∧ Hid (Below w.heap.size w wr ∧ wr.heap[w.heap.size]? = some (.cells C 36 (0, 0))) ∧ Hid (∀ j, j < i → C[4 * j]? = some (.int .i64 (F j).m) ∧ C[4 * j + 1]? = some (.string (F j).a) ∧ C[4 * j + 2]? = some (.string (F j).p) ∧ C[4 * j + 3]? = some (.string (F j).d))) (fun v _ => n - (intDq v).toNat)
  case atStart => exact ⟨0, Z, by omega, rfl, HZS.out, HU, fun j hj => absurd hj (by omega)⟩
  case round =>
    clear HU
    obtain ⟨i, C, hi, rfl, hcs, HB, HCC⟩ := hrel
    have HCS : Hid (C.size = 4 * n) := hcs
    clear hcs
    by_cases hlt : i < n
    · have hltI : (i : Int) < (n : Int) := by omega
      obtain ⟨x0, x1, x2, x3⟩ := HC.out i hlt
      rw [← HB.out.1.cell (p := ⟨g, off + i * 4, none⟩) hg] at x0
      rw [← HB.out.1.cell (p := ⟨g, off + i * 4 + 1, none⟩) hg] at x1
      rw [← HB.out.1.cell (p := ⟨g, off + i * 4 + 2, none⟩) hg] at x2
      rw [← HB.out.1.cell (p := ⟨g, off + i * 4 + 3, none⟩) hg] at x3
      go_wp2_with fail
      refine (HT.out _ _ _ _ _).mono ?_
      rintro e w3 ⟨rfl, hb3⟩
      have hsz := HCS.out
      have hrow : w3.heap[w.heap.size]? = some (.cells C 36 (0, 0)) := (hb3.block _ (Array.getElem?_eq_some_iff.1 HB.out.2).1).trans HB.out.2
      have hbw : Below w.heap.size w w3 := blDq HB.out.1 hb3 HB.out.1.size
      obtain ⟨q, hq⟩ : ∃ q, q = 4 * i := ⟨_, rfl⟩
      have hiq : i * 4 = q := by omega
      have HQ : Hid (q = 4 * i) := hq
      have HB3 : Hid (Below w.heap.size w w3 ∧ w3.heap[w.heap.size]? = some (.cells C 36 (0, 0))) := ⟨hbw, hrow⟩
      have y0 : w3.cell? ⟨w.heap.size, q, none⟩ = some C[q] := (cell_of_row w3 _ q _ _ _ hrow).trans (Array.getElem?_eq_getElem (by omega))
      have y1 : w3.cell? ⟨w.heap.size, q + 1, none⟩ = some C[q + 1] := (cell_of_row w3 _ (q + 1) _ _ _ hrow).trans (Array.getElem?_eq_getElem (by omega))
      have y2 : w3.cell? ⟨w.heap.size, q + 2, none⟩ = some C[q + 2] := (cell_of_row w3 _ (q + 2) _ _ _ hrow).trans (Array.getElem?_eq_getElem (by omega))
      have y3 : w3.cell? ⟨w.heap.size, q + 3, none⟩ = some C[q + 3] := (cell_of_row w3 _ (q + 3) _ _ _ hrow).trans (Array.getElem?_eq_getElem (by omega))
      have z0 := frozen_of_row w3 _ q _ _ hrow
      have z1 := frozen_of_row w3 _ (q + 1) _ _ hrow
      have z2 := frozen_of_row w3 _ (q + 2) _ _ hrow
      have z3 := frozen_of_row w3 _ (q + 3) _ _ hrow
      have HN : Hid (Below w.heap.size w (setWDq w3 w.heap.size q (.int .i64 (F i).m) (.string (F i).a) (.string (F i).p) (.string (F i).d)) ∧ (setWDq w3 w.heap.size q (.int .i64 (F i).m) (.string (F i).a) (.string (F i).p) (.string (F i).d)).heap[w.heap.size]? = some (.cells (setDq C q (.int .i64 (F i).m) (.string (F i).a) (.string (F i).p) (.string (F i).d)) 36 (0, 0))) :=
        ⟨setWDq_below hbw (Nat.le_refl _) _ _ _ _ _, setWDq_row hrow _ _ _ _ _⟩
      have HN2 : Hid (∀ j, j < i + 1 → (setDq C q (.int .i64 (F i).m) (.string (F i).a) (.string (F i).p) (.string (F i).d))[4 * j]? = some (.int .i64 (F j).m) ∧ (setDq C q (.int .i64 (F i).m) (.string (F i).a) (.string (F i).p) (.string (F i).d))[4 * j + 1]? = some (.string (F j).a) ∧ (setDq C q (.int .i64 (F i).m) (.string (F i).a) (.string (F i).p) (.string (F i).d))[4 * j + 2]? = some (.string (F j).p) ∧ (setDq C q (.int .i64 (F i).m) (.string (F i).a) (.string (F i).p) (.string (F i).d))[4 * j + 3]? = some (.string (F j).d)) := fun j hj => by
        by_cases hji : j < i
        · rw [setDq_low _ _ _ _ _ _ _ (by omega), setDq_low _ _ _ _ _ _ _ (by omega), setDq_low _ _ _ _ _ _ _ (by omega), setDq_low _ _ _ _ _ _ _ (by omega)]
          exact HCC.out j hji
        · obtain rfl : j = i := by omega
          rw [← hq]
          exact ⟨setDq_0 _ _ _ _ _ _ (by omega), setDq_1 _ _ _ _ _ _ (by omega), setDq_2 _ _ _ _ _ _ (by omega), setDq_3 _ _ _ _ _ _ (by omega)⟩
      generalize C[q] = u0 at y0
      generalize C[q + 1] = u1 at y1
      generalize C[q + 2] = u2 at y2
      generalize C[q + 3] = u3 at y3
      clear hsz hrow hbw hb3 x0 x1 x2 x3 hq HB
      go_wp2_with fail
      go_roundw
      case rel => exact ⟨i + 1, _, by omega, by go_num, (setDq_size _ _ _ _ _ _).trans HCS.out, HN, HN2⟩
      case measure => simp [intDq]; omega
    · obtain rfl : i = n := by omega
      go_wp2_with fail
      go_ret
      have hr := HB.out.2
      exact ⟨rfl, ⟨(Array.getElem?_eq_some_iff.1 hr).1, fun j hj => (cell_of_row wr _ _ _ _ _ hr).trans (HCC.out j hj).1, fun j hj => (cell_of_row wr _ _ _ _ _ hr).trans (HCC.out j hj).2.1, fun j hj => (cell_of_row wr _ _ _ _ _ hr).trans (HCC.out j hj).2.2.1, fun j hj => (cell_of_row wr _ _ _ _ _ hr).trans (HCC.out j hj).2.2.2⟩, ⟨C, hr, HCS.out⟩, HB.out.1⟩
theorem toFlR_any (v : Value) (n : Nat) (F : Nat → FlI) (w : World) (hn : n ≤ 1048576) (h : FlIn w v n F) :
    Calls Try.prog 68 #[v] w fun e w' => (∃ x y, e = .returned (.slice x n y) ∧ FlV w' (.slice x n y) (flM n F) ∧ RwF w' (.slice x n y) n ∧ (∀ g, (Value.slice x n y).ownBlock = some g → w.heap.size ≤ g ∧ g < w'.heap.size)) ∧ Below w.heap.size w w' := by
  obtain ⟨a, c, rfl, hr⟩ := h.form
  by_cases h0 : 0 < n
  · obtain ⟨g, off, rfl, hg, hx⟩ := hr h0
    refine (toFlS_own g off c n F w hn hg hx).mono ?_
    rintro e w' ⟨rfl, hrow, ⟨C, hc1, hc2⟩, hb⟩
    refine ⟨⟨_, _, rfl, Or.inr ⟨_, n, by rw [flM_len], by rw [flM_len]; exact hrow.congr (flF_map F n).2⟩, ⟨_, _, rfl, fun _ => ⟨_, C, rfl, hc1, Nat.le_of_eq hc2.symm⟩⟩, fun g h => ?_⟩, hb⟩
    cases h
    exact ⟨Nat.le_refl _, hrow.lt⟩
  · obtain rfl : n = 0 := by omega
    refine (toFlS_nil a c w).mono ?_
    rintro e w' ⟨⟨rfl, hl⟩, hb⟩
    refine ⟨⟨_, _, rfl, Or.inr ⟨_, _, rfl, ⟨hl, fun j hj => absurd hj (Nat.not_lt_zero _), fun j hj => absurd hj (Nat.not_lt_zero _)⟩⟩, ⟨_, _, rfl, fun h => absurd h (by omega)⟩, fun g h => ?_⟩, hb⟩
    cases h
    exact ⟨Nat.le_refl _, hl⟩
theorem toDqR_any (v : Value) (n : Nat) (F : Nat → DqI) (w : World) (hn : n ≤ 1048576) (h : DqIn w v n F) :
    Calls Try.prog 69 #[v] w fun e w' => (∃ x y, e = .returned (.slice x n y) ∧ DqV w' (.slice x n y) (dqM n F) ∧ RwQ w' (.slice x n y) n ∧ (∀ g, (Value.slice x n y).ownBlock = some g → w.heap.size ≤ g ∧ g < w'.heap.size)) ∧ Below w.heap.size w w' := by
  obtain ⟨a, c, rfl, hr⟩ := h.form
  by_cases h0 : 0 < n
  · obtain ⟨g, off, rfl, hg, hx⟩ := hr h0
    refine (toDqS_own g off c n F w hn hg hx).mono ?_
    rintro e w' ⟨rfl, hrow, ⟨C, hc1, hc2⟩, hb⟩
    refine ⟨⟨_, _, rfl, Or.inr ⟨_, n, by rw [dqM_len], by rw [dqM_len]; exact hrow.congr (dqF_map F n).2⟩, ⟨_, _, rfl, fun _ => ⟨_, C, rfl, hc1, Nat.le_of_eq hc2.symm⟩⟩, fun g h => ?_⟩, hb⟩
    cases h
    exact ⟨Nat.le_refl _, hrow.lt⟩
  · obtain rfl : n = 0 := by omega
    refine (toDqS_nil a c w).mono ?_
    rintro e w' ⟨⟨rfl, hl⟩, hb⟩
    refine ⟨⟨_, _, rfl, Or.inr ⟨_, _, rfl, ⟨hl, fun j hj => absurd hj (Nat.not_lt_zero _), fun j hj => absurd hj (Nat.not_lt_zero _), fun j hj => absurd hj (Nat.not_lt_zero _), fun j hj => absurd hj (Nat.not_lt_zero _)⟩⟩, ⟨_, _, rfl, fun h => absurd h (by omega)⟩, fun g h => ?_⟩, hb⟩
    cases h
    exact ⟨Nat.le_refl _, hl⟩
end Go.Proofs.Ytanlggglbpibfaa
