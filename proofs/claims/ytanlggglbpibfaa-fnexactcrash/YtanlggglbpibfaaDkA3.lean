/-
  Several texts of this seat as one: FsX, FsY, QHd, FsV2.
-/
import Derived.Test.YtanlggglbpibfaaFsV
import Derived.Test.YtanlggglbpibfaaQMkB

/-!   What the law makes of a disk that came in: rows that are its own. -/
namespace Go.Proofs.Ytanlggglbpibfaa
open Go.RowKit
set_option linter.unusedVariables false
set_option linter.unusedSimpArgs false
set_option maxRecDepth 100000 in
set_option maxHeartbeats 4000000 in
theorem toFlS_own (g off c n : Nat) (F : Nat → FlI) (w : World) (hn : n ≤ 1048576) (hg : g < w.heap.size)
    (h0 : ∀ i, i < n → w.cell? ⟨g, off + i * 2, none⟩ = some (.string (F i).a) ∧ w.cell? ⟨g, off + i * 2 + 1, none⟩ = some (.string (F i).d)) :
    Calls Try.prog 68 #[.slice (some ⟨g, off, none⟩) n c] w fun e w' => e = .returned (.slice (some ⟨w.heap.size, 0, none⟩) n n) ∧ FlRow w' w.heap.size n F ∧ (∃ C, w'.heap[w.heap.size]? = some (.cells C 88 (0, 0)) ∧ C.size = 2 * n) ∧ Below w.heap.size w w' := by
  have hnI : (n : Int) ≤ 1048576 := by omega
  have HT : Hid (∀ a d w, Calls Try.prog 94 #[flV a d] w fun e w' => e = .returned (flV a d) ∧ Below w.heap.size w w') := fun a d w => toFl_any a d w
  unfold flV at HT
  have HC : Hid _ := h0
  clear h0
  obtain ⟨i0, hi0, hz0, hz1, hz2⟩ := info_parts Try.infFl
  have hmk := run_make (P := Try.prog) w 24 88 i0 (.agg #[.string ⟨#[]⟩, .string ⟨#[]⟩]) Try.underlying24 hi0 hz0 .i64 .i64 (n : Int) (n : Int) (by omega) (by omega) (by rw [hz2]; omega) (by omega)
  rw [hz1, Int.toNat_natCast] at hmk
  have HZS : Hid ((madeCells (Value.agg #[.string ⟨#[]⟩, .string ⟨#[]⟩]).cells (n * 2)).size = 2 * n) := by
    show (madeCells _ _).size = _
    rw [size_madeCells]; omega
  generalize madeCells (Value.agg #[.string ⟨#[]⟩, .string ⟨#[]⟩]).cells (n * 2) = Z at hmk HZS
  have HU : Hid (Below w.heap.size w (w.alloc (.cells Z 88)) ∧ (w.alloc (.cells Z 88)).heap[w.heap.size]? = some (.cells Z 88 (0, 0))) := ⟨(Below.refl _ _).alloc (Nat.le_refl _) _, heap_alloc_new w _⟩
  go_enter Try.func68, Try.ntmps68
  go_wp2_with fail
  go_loopw [4] (fun v wr => ∃ (i : Nat) (C : Array Value), i ≤ n ∧ v = .int .i64 (i : Int) ∧ C.size = 2 * n ∧ Hid (Below w.heap.size w wr ∧ wr.heap[w.heap.size]? = some (.cells C 88 (0, 0))) ∧ Hid (∀ j, j < i → C[2 * j]? = some (.string (F j).a) ∧ C[2 * j + 1]? = some (.string (F j).d))) (fun v _ => n - (intFl v).toNat)
  case atStart => exact ⟨0, Z, by omega, rfl, HZS.out, HU, fun j hj => absurd hj (by omega)⟩
  case round =>
    clear HU
    obtain ⟨i, C, hi, rfl, hcs, HB, HCC⟩ := hrel
    have HCS : Hid (C.size = 2 * n) := hcs
    clear hcs
    by_cases hlt : i < n
    · have hltI : (i : Int) < (n : Int) := by omega
      obtain ⟨x0, x1⟩ := HC.out i hlt
      rw [← HB.out.1.cell (p := ⟨g, off + i * 2, none⟩) hg] at x0
      rw [← HB.out.1.cell (p := ⟨g, off + i * 2 + 1, none⟩) hg] at x1
      go_wp2_with fail
      refine (HT.out _ _ _).mono ?_
      rintro e w3 ⟨rfl, hb3⟩
      have hsz := HCS.out
      have hrow : w3.heap[w.heap.size]? = some (.cells C 88 (0, 0)) := (hb3.block _ (Array.getElem?_eq_some_iff.1 HB.out.2).1).trans HB.out.2
      have hbw : Below w.heap.size w w3 := blFl HB.out.1 hb3 HB.out.1.size
      obtain ⟨q, hq⟩ : ∃ q, q = 2 * i := ⟨_, rfl⟩
      have hiq : i * 2 = q := by omega
      have HQ : Hid (q = 2 * i) := hq
      have HB3 : Hid (Below w.heap.size w w3 ∧ w3.heap[w.heap.size]? = some (.cells C 88 (0, 0))) := ⟨hbw, hrow⟩
      have y0 : w3.cell? ⟨w.heap.size, q, none⟩ = some C[q] := (cell_of_row w3 _ q _ _ _ hrow).trans (Array.getElem?_eq_getElem (by omega))
      have y1 : w3.cell? ⟨w.heap.size, q + 1, none⟩ = some C[q + 1] := (cell_of_row w3 _ (q + 1) _ _ _ hrow).trans (Array.getElem?_eq_getElem (by omega))
      have z0 := frozen_of_row w3 _ q _ _ hrow
      have z1 := frozen_of_row w3 _ (q + 1) _ _ hrow
      have HN : Hid (Below w.heap.size w (setWFl w3 w.heap.size q (.string (F i).a) (.string (F i).d)) ∧ (setWFl w3 w.heap.size q (.string (F i).a) (.string (F i).d)).heap[w.heap.size]? = some (.cells (setFl C q (.string (F i).a) (.string (F i).d)) 88 (0, 0))) :=
        ⟨setWFl_below hbw (Nat.le_refl _) _ _ _, setWFl_row hrow _ _ _⟩
      have HN2 : Hid (∀ j, j < i + 1 → (setFl C q (.string (F i).a) (.string (F i).d))[2 * j]? = some (.string (F j).a) ∧ (setFl C q (.string (F i).a) (.string (F i).d))[2 * j + 1]? = some (.string (F j).d)) := fun j hj => by
        by_cases hji : j < i
        · rw [setFl_low _ _ _ _ _ (by omega), setFl_low _ _ _ _ _ (by omega)]
          exact HCC.out j hji
        · obtain rfl : j = i := by omega
          rw [← hq]
          exact ⟨setFl_0 _ _ _ _ (by omega), setFl_1 _ _ _ _ (by omega)⟩
      generalize C[q] = u0 at y0
      generalize C[q + 1] = u1 at y1
      clear hsz hrow hbw hb3 x0 x1 hq HB
      go_wp2_with fail
      go_roundw
      case rel => exact ⟨i + 1, _, by omega, by go_num, (setFl_size _ _ _ _).trans HCS.out, HN, HN2⟩
      case measure => simp [intFl]; omega
    · obtain rfl : i = n := by omega
      go_wp2_with fail
      go_ret
      have hr := HB.out.2
      exact ⟨rfl, ⟨(Array.getElem?_eq_some_iff.1 hr).1, fun j hj => (cell_of_row wr _ _ _ _ _ hr).trans (HCC.out j hj).1, fun j hj => (cell_of_row wr _ _ _ _ _ hr).trans (HCC.out j hj).2⟩, ⟨C, hr, HCS.out⟩, HB.out.1⟩
set_option maxRecDepth 100000 in
set_option maxHeartbeats 4000000 in
theorem toDqS_own (g off c n : Nat) (F : Nat → DqI) (w : World) (hn : n ≤ 1048576) (hg : g < w.heap.size)
    (h0 : ∀ i, i < n → w.cell? ⟨g, off + i * 4, none⟩ = some (.int .i64 (F i).m) ∧ w.cell? ⟨g, off + i * 4 + 1, none⟩ = some (.string (F i).a) ∧ w.cell? ⟨g, off + i * 4 + 2, none⟩ = some (.string (F i).p) ∧ w.cell? ⟨g, off + i * 4 + 3, none⟩ = some (.string (F i).d)) :
    Calls Try.prog 69 #[.slice (some ⟨g, off, none⟩) n c] w fun e w' => e = .returned (.slice (some ⟨w.heap.size, 0, none⟩) n n) ∧ DqRow w' w.heap.size n F ∧ (∃ C, w'.heap[w.heap.size]? = some (.cells C 36 (0, 0)) ∧ C.size = 4 * n) ∧ Below w.heap.size w w' := by
  have hnI : (n : Int) ≤ 1048576 := by omega
  have HT : Hid (∀ m a p d w, Calls Try.prog 30 #[dqV m a p d] w fun e w' => e = .returned (dqV m a p d) ∧ Below w.heap.size w w') := fun m a p d w => toDq_any m a p d w
  unfold dqV at HT
  have HC : Hid _ := h0
  clear h0
  obtain ⟨i0, hi0, hz0, hz1, hz2⟩ := info_parts Try.infDq
  have hmk := run_make (P := Try.prog) w 25 36 i0 (.agg #[.int .i64 0, .string ⟨#[]⟩, .string ⟨#[]⟩, .string ⟨#[]⟩]) Try.underlying25 hi0 hz0 .i64 .i64 (n : Int) (n : Int) (by omega) (by omega) (by rw [hz2]; omega) (by omega)
  rw [hz1, Int.toNat_natCast] at hmk
  have HZS : Hid ((madeCells (Value.agg #[.int .i64 0, .string ⟨#[]⟩, .string ⟨#[]⟩, .string ⟨#[]⟩]).cells (n * 4)).size = 4 * n) := by
    show (madeCells _ _).size = _
    rw [size_madeCells]; omega
  generalize madeCells (Value.agg #[.int .i64 0, .string ⟨#[]⟩, .string ⟨#[]⟩, .string ⟨#[]⟩]).cells (n * 4) = Z at hmk HZS
  have HU : Hid (Below w.heap.size w (w.alloc (.cells Z 36)) ∧ (w.alloc (.cells Z 36)).heap[w.heap.size]? = some (.cells Z 36 (0, 0))) := ⟨(Below.refl _ _).alloc (Nat.le_refl _) _, heap_alloc_new w _⟩
  go_enter Try.func69, Try.ntmps69
  go_wp2_with fail
  go_loopw [4] (fun v wr => ∃ (i : Nat) (C : Array Value), i ≤ n ∧ v = .int .i64 (i : Int) ∧ C.size = 4 * n ∧ Hid (Below w.heap.size w wr ∧ wr.heap[w.heap.size]? = some (.cells C 36 (0, 0))) ∧ Hid (∀ j, j < i → C[4 * j]? = some (.int .i64 (F j).m) ∧ C[4 * j + 1]? = some (.string (F j).a) ∧ C[4 * j + 2]? = some (.string (F j).p) ∧ C[4 * j + 3]? = some (.string (F j).d))) (fun v _ => n - (intDq v).toNat)
  case atStart => exact ⟨0, Z, by omega, rfl, HZS.out, HU, fun j hj => absurd hj (by omega)⟩
  case round =>
    clear HU
    obtain ⟨i, C, hi, rfl, hcs, HB, HCC⟩ := hrel
    have HCS : Hid (C.size = 4 * n) := hcs
    clear hcs
    by_cases hlt : i < n
    · have hltI : (i : Int) < (n : Int) := by omega
      obtain ⟨x0, x1, x2, x3⟩ := HC.out i hlt
      rw [← HB.out.1.cell (p := ⟨g, off + i * 4, none⟩) hg] at x0
      rw [← HB.out.1.cell (p := ⟨g, off + i * 4 + 1, none⟩) hg] at x1
      rw [← HB.out.1.cell (p := ⟨g, off + i * 4 + 2, none⟩) hg] at x2
      rw [← HB.out.1.cell (p := ⟨g, off + i * 4 + 3, none⟩) hg] at x3
      go_wp2_with fail
      refine (HT.out _ _ _ _ _).mono ?_
      rintro e w3 ⟨rfl, hb3⟩
      have hsz := HCS.out
      have hrow : w3.heap[w.heap.size]? = some (.cells C 36 (0, 0)) := (hb3.block _ (Array.getElem?_eq_some_iff.1 HB.out.2).1).trans HB.out.2
      have hbw : Below w.heap.size w w3 := blDq HB.out.1 hb3 HB.out.1.size
      obtain ⟨q, hq⟩ : ∃ q, q = 4 * i := ⟨_, rfl⟩
      have hiq : i * 4 = q := by omega
      have HQ : Hid (q = 4 * i) := hq
      have HB3 : Hid (Below w.heap.size w w3 ∧ w3.heap[w.heap.size]? = some (.cells C 36 (0, 0))) := ⟨hbw, hrow⟩
      have y0 : w3.cell? ⟨w.heap.size, q, none⟩ = some C[q] := (cell_of_row w3 _ q _ _ _ hrow).trans (Array.getElem?_eq_getElem (by omega))
      have y1 : w3.cell? ⟨w.heap.size, q + 1, none⟩ = some C[q + 1] := (cell_of_row w3 _ (q + 1) _ _ _ hrow).trans (Array.getElem?_eq_getElem (by omega))
      have y2 : w3.cell? ⟨w.heap.size, q + 2, none⟩ = some C[q + 2] := (cell_of_row w3 _ (q + 2) _ _ _ hrow).trans (Array.getElem?_eq_getElem (by omega))
      have y3 : w3.cell? ⟨w.heap.size, q + 3, none⟩ = some C[q + 3] := (cell_of_row w3 _ (q + 3) _ _ _ hrow).trans (Array.getElem?_eq_getElem (by omega))
      have z0 := frozen_of_row w3 _ q _ _ hrow
      have z1 := frozen_of_row w3 _ (q + 1) _ _ hrow
      have z2 := frozen_of_row w3 _ (q + 2) _ _ hrow
      have z3 := frozen_of_row w3 _ (q + 3) _ _ hrow
      have HN : Hid (Below w.heap.size w (setWDq w3 w.heap.size q (.int .i64 (F i).m) (.string (F i).a) (.string (F i).p) (.string (F i).d)) ∧ (setWDq w3 w.heap.size q (.int .i64 (F i).m) (.string (F i).a) (.string (F i).p) (.string (F i).d)).heap[w.heap.size]? = some (.cells (setDq C q (.int .i64 (F i).m) (.string (F i).a) (.string (F i).p) (.string (F i).d)) 36 (0, 0))) :=
        ⟨setWDq_below hbw (Nat.le_refl _) _ _ _ _ _, setWDq_row hrow _ _ _ _ _⟩
      have HN2 : Hid (∀ j, j < i + 1 → (setDq C q (.int .i64 (F i).m) (.string (F i).a) (.string (F i).p) (.string (F i).d))[4 * j]? = some (.int .i64 (F j).m) ∧ (setDq C q (.int .i64 (F i).m) (.string (F i).a) (.string (F i).p) (.string (F i).d))[4 * j + 1]? = some (.string (F j).a) ∧ (setDq C q (.int .i64 (F i).m) (.string (F i).a) (.string (F i).p) (.string (F i).d))[4 * j + 2]? = some (.string (F j).p) ∧ (setDq C q (.int .i64 (F i).m) (.string (F i).a) (.string (F i).p) (.string (F i).d))[4 * j + 3]? = some (.string (F j).d)) := fun j hj => by
        by_cases hji : j < i
        · rw [setDq_low _ _ _ _ _ _ _ (by omega), setDq_low _ _ _ _ _ _ _ (by omega), setDq_low _ _ _ _ _ _ _ (by omega), setDq_low _ _ _ _ _ _ _ (by omega)]
          exact HCC.out j hji
        · obtain rfl : j = i := by omega
          rw [← hq]
          exact ⟨setDq_0 _ _ _ _ _ _ (by omega), setDq_1 _ _ _ _ _ _ (by omega), setDq_2 _ _ _ _ _ _ (by omega), setDq_3 _ _ _ _ _ _ (by omega)⟩
      generalize C[q] = u0 at y0
      generalize C[q + 1] = u1 at y1
      generalize C[q + 2] = u2 at y2
      generalize C[q + 3] = u3 at y3
      clear hsz hrow hbw hb3 x0 x1 x2 x3 hq HB
      go_wp2_with fail
      go_roundw
      case rel => exact ⟨i + 1, _, by omega, by go_num, (setDq_size _ _ _ _ _ _).trans HCS.out, HN, HN2⟩
      case measure => simp [intDq]; omega
    · obtain rfl : i = n := by omega
      go_wp2_with fail
      go_ret
      have hr := HB.out.2
      exact ⟨rfl, ⟨(Array.getElem?_eq_some_iff.1 hr).1, fun j hj => (cell_of_row wr _ _ _ _ _ hr).trans (HCC.out j hj).1, fun j hj => (cell_of_row wr _ _ _ _ _ hr).trans (HCC.out j hj).2.1, fun j hj => (cell_of_row wr _ _ _ _ _ hr).trans (HCC.out j hj).2.2.1, fun j hj => (cell_of_row wr _ _ _ _ _ hr).trans (HCC.out j hj).2.2.2⟩, ⟨C, hr, HCS.out⟩, HB.out.1⟩
theorem toFlR_any (v : Value) (n : Nat) (F : Nat → FlI) (w : World) (hn : n ≤ 1048576) (h : FlIn w v n F) :
    Calls Try.prog 68 #[v] w fun e w' => (∃ x y, e = .returned (.slice x n y) ∧ FlV w' (.slice x n y) (flM n F) ∧ RwF w' (.slice x n y) n ∧ (∀ g, (Value.slice x n y).ownBlock = some g → w.heap.size ≤ g ∧ g < w'.heap.size)) ∧ Below w.heap.size w w' := by
  obtain ⟨a, c, rfl, hr⟩ := h.form
  by_cases h0 : 0 < n
  · obtain ⟨g, off, rfl, hg, hx⟩ := hr h0
    refine (toFlS_own g off c n F w hn hg hx).mono ?_
    rintro e w' ⟨rfl, hrow, ⟨C, hc1, hc2⟩, hb⟩
    refine ⟨⟨_, _, rfl, Or.inr ⟨_, n, by rw [flM_len], by rw [flM_len]; exact hrow.congr (flF_map F n).2⟩, ⟨_, _, rfl, fun _ => ⟨_, C, rfl, hc1, Nat.le_of_eq hc2.symm⟩⟩, fun g h => ?_⟩, hb⟩
    cases h
    exact ⟨Nat.le_refl _, hrow.lt⟩
  · obtain rfl : n = 0 := by omega
    refine (toFlS_nil a c w).mono ?_
    rintro e w' ⟨⟨rfl, hl⟩, hb⟩
    refine ⟨⟨_, _, rfl, Or.inr ⟨_, _, rfl, ⟨hl, fun j hj => absurd hj (Nat.not_lt_zero _), fun j hj => absurd hj (Nat.not_lt_zero _)⟩⟩, ⟨_, _, rfl, fun h => absurd h (by omega)⟩, fun g h => ?_⟩, hb⟩
    cases h
    exact ⟨Nat.le_refl _, hl⟩
theorem toDqR_any (v : Value) (n : Nat) (F : Nat → DqI) (w : World) (hn : n ≤ 1048576) (h : DqIn w v n F) :
    Calls Try.prog 69 #[v] w fun e w' => (∃ x y, e = .returned (.slice x n y) ∧ DqV w' (.slice x n y) (dqM n F) ∧ RwQ w' (.slice x n y) n ∧ (∀ g, (Value.slice x n y).ownBlock = some g → w.heap.size ≤ g ∧ g < w'.heap.size)) ∧ Below w.heap.size w w' := by
  obtain ⟨a, c, rfl, hr⟩ := h.form
  by_cases h0 : 0 < n
  · obtain ⟨g, off, rfl, hg, hx⟩ := hr h0
    refine (toDqS_own g off c n F w hn hg hx).mono ?_
    rintro e w' ⟨rfl, hrow, ⟨C, hc1, hc2⟩, hb⟩
    refine ⟨⟨_, _, rfl, Or.inr ⟨_, n, by rw [dqM_len], by rw [dqM_len]; exact hrow.congr (dqF_map F n).2⟩, ⟨_, _, rfl, fun _ => ⟨_, C, rfl, hc1, Nat.le_of_eq hc2.symm⟩⟩, fun g h => ?_⟩, hb⟩
    cases h
    exact ⟨Nat.le_refl _, hrow.lt⟩
  · obtain rfl : n = 0 := by omega
    refine (toDqS_nil a c w).mono ?_
    rintro e w' ⟨⟨rfl, hl⟩, hb⟩
    refine ⟨⟨_, _, rfl, Or.inr ⟨_, _, rfl, ⟨hl, fun j hj => absurd hj (Nat.not_lt_zero _), fun j hj => absurd hj (Nat.not_lt_zero _), fun j hj => absurd hj (Nat.not_lt_zero _), fun j hj => absurd hj (Nat.not_lt_zero _)⟩⟩, ⟨_, _, rfl, fun h => absurd h (by omega)⟩, fun g h => ?_⟩, hb⟩
    cases h
    exact ⟨Nat.le_refl _, hl⟩
end Go.Proofs.Ytanlggglbpibfaa

/-!   What the law makes of a disk that came in: rows of its own, no two alike. -/
namespace Go.Proofs.Ytanlggglbpibfaa
open Go.RowKit
set_option linter.unusedVariables false
set_option linter.unusedSimpArgs false
/-- three rows of a disk that can be marked -/
structure DkX (B : Nat) (w : World) (a b c : Value) (n m k : Nat) (L S : List FlI) (O : List DqI) : Prop where
  va : FlV w a L
  vb : FlV w b S
  vc : DqV w c O
  ra : RwF w a n
  rb : RwF w b m
  rc : RwQ w c k
  at_ : ∀ g, a.ownBlock = some g ∨ b.ownBlock = some g ∨ c.ownBlock = some g → B ≤ g ∧ g < w.heap.size
  ab : ∀ g, a.ownBlock = some g → b.ownBlock ≠ some g ∧ c.ownBlock ≠ some g
  bc : ∀ g, b.ownBlock = some g → c.ownBlock ≠ some g
def KFlR (k : Nat) (w : World) (v : Value) (n : Nat) (L : List FlI) : Prop := (FlV w v L ∧ RwF w v n) ∧ ∀ g, v.ownBlock = some g → k < g
theorem KFlR.lt {k n : Nat} {w : World} {v : Value} {L : List FlI} (h : KFlR k w v n L) {g : Nat} (hg : v.ownBlock = some g) (h0 : 0 < n) : g < w.heap.size := by
  obtain ⟨a, c, rfl, h1⟩ := h.1.2.form
  obtain ⟨g', cur, rfl, h2, _⟩ := h1 h0
  cases hg
  exact (Array.getElem?_eq_some_iff.1 h2).1
theorem KFlR.keep {k n : Nat} {w w' : World} {v : Value} {L : List FlI} (h : KFlR k w v n L) (hb : ∀ g, v.ownBlock = some g → w'.heap[g]? = w.heap[g]?) : KFlR k w' v n L := ⟨⟨h.1.1.keep hb, h.1.2.keep hb⟩, h.2⟩
theorem RwF.below {w w' : World} {v : Value} {n : Nat} (h : RwF w v n) (hb : Below w.heap.size w w') : RwF w' v n := by
  obtain ⟨a, c, rfl, h1⟩ := h.form
  exact ⟨a, c, rfl, fun h0 => by obtain ⟨g, cur, rfl, h2, h3⟩ := h1 h0; exact ⟨g, cur, rfl, (hb.block g (Array.getElem?_eq_some_iff.1 h2).1).trans h2, h3⟩⟩
theorem KFlR.below {k n : Nat} {w w' : World} {v : Value} {L : List FlI} (h : KFlR k w v n L) (hb : Below w.heap.size w w') : KFlR k w' v n L := ⟨⟨h.1.1.below hb, h.1.2.below hb⟩, h.2⟩
theorem KFlR.put {k n : Nat} {w : World} {v : Value} {L : List FlI} (h : KFlR k w v n L) (j : Nat) (u : Value) : KFlR k (w.setCell ⟨k, j, none⟩ u) v n L := h.keep fun g hg => heap_setCell_other _ _ _ _ (by have := h.2 g hg; show g ≠ k; omega)
theorem KFlR.put2 {k n : Nat} {w : World} {v : Value} {L : List FlI} (h : KFlR k w v n L) {k' : Nat} (hk : k' ≤ k) (j : Nat) (u : Value) : KFlR k (w.setCell ⟨k', j, none⟩ u) v n L := h.keep fun g hg => heap_setCell_other _ _ _ _ (by have := h.2 g hg; show g ≠ k'; omega)
def KDqR (k : Nat) (w : World) (v : Value) (n : Nat) (L : List DqI) : Prop := (DqV w v L ∧ RwQ w v n) ∧ ∀ g, v.ownBlock = some g → k < g
theorem KDqR.keep {k n : Nat} {w w' : World} {v : Value} {L : List DqI} (h : KDqR k w v n L) (hb : ∀ g, v.ownBlock = some g → w'.heap[g]? = w.heap[g]?) : KDqR k w' v n L := ⟨⟨h.1.1.keep hb, h.1.2.keep hb⟩, h.2⟩
theorem KDqR.put {k n : Nat} {w : World} {v : Value} {L : List DqI} (h : KDqR k w v n L) (j : Nat) (u : Value) : KDqR k (w.setCell ⟨k, j, none⟩ u) v n L := h.keep fun g hg => heap_setCell_other _ _ _ _ (by have := h.2 g hg; show g ≠ k; omega)
theorem KDqR.put2 {k n : Nat} {w : World} {v : Value} {L : List DqI} (h : KDqR k w v n L) {k' : Nat} (hk : k' ≤ k) (j : Nat) (u : Value) : KDqR k (w.setCell ⟨k', j, none⟩ u) v n L := h.keep fun g hg => heap_setCell_other _ _ _ _ (by have := h.2 g hg; show g ≠ k'; omega)
set_option maxRecDepth 100000 in
set_option maxHeartbeats 2000000 in
theorem toDkX_any (a b c : Value) (n m k : Nat) (F G : Nat → FlI) (O : Nat → DqI) (w : World) (hn : n ≤ 1048576) (hm : m ≤ 1048576) (hk : k ≤ 1048576) (h1 : FlIn w a n F) (h2 : FlIn w b m G) (h3 : DqIn w c k O) :
    Calls Try.prog 27 #[.agg #[a, b, c]] w fun e w' => (∃ a b c, e = .returned (.agg #[a, b, c]) ∧ DkX w.heap.size w' a b c n m k (flM n F) (flM m G) (dqM k O)) ∧ Below w.heap.size w w' := by
  have HF1 : Hid (∀ k2 w', k2 < w'.heap.size → Below w.heap.size w w' → Calls Try.prog 68 #[a] w' fun e w'' => (∃ x y, e = .returned (.slice x (flM n F).length y) ∧ KFlR k2 w'' (.slice x (flM n F).length y) n (flM n F) ∧ ∀ g, (Value.slice x (flM n F).length y).ownBlock = some g → w'.heap.size ≤ g ∧ g < w''.heap.size) ∧ Below w'.heap.size w' w'') := fun k2 w' hk0 hb => (toFlR_any a n F w' hn (h1.below hb)).mono fun e w'' ⟨⟨x, y, e1, e2, e3, e4⟩, e5⟩ => by
    refine ⟨⟨x, y, ?_, ?_, ?_⟩, e5⟩ <;> rw [flM_len]
    · exact e1
    · exact ⟨⟨e2, e3⟩, fun g hg => Nat.lt_of_lt_of_le hk0 (e4 g hg).1⟩
    · exact e4
  have HF2 : Hid (∀ k2 w', k2 < w'.heap.size → Below w.heap.size w w' → Calls Try.prog 68 #[b] w' fun e w'' => (∃ x y, e = .returned (.slice x (flM m G).length y) ∧ KFlR k2 w'' (.slice x (flM m G).length y) m (flM m G) ∧ ∀ g, (Value.slice x (flM m G).length y).ownBlock = some g → w'.heap.size ≤ g ∧ g < w''.heap.size) ∧ Below w'.heap.size w' w'') := fun k2 w' hk0 hb => (toFlR_any b m G w' hm (h2.below hb)).mono fun e w'' ⟨⟨x, y, e1, e2, e3, e4⟩, e5⟩ => by
    refine ⟨⟨x, y, ?_, ?_, ?_⟩, e5⟩ <;> rw [flM_len]
    · exact e1
    · exact ⟨⟨e2, e3⟩, fun g hg => Nat.lt_of_lt_of_le hk0 (e4 g hg).1⟩
    · exact e4
  have HF3 : Hid (∀ k2 w', k2 < w'.heap.size → Below w.heap.size w w' → Calls Try.prog 69 #[c] w' fun e w'' => (∃ x y, e = .returned (.slice x (dqM k O).length y) ∧ KDqR k2 w'' (.slice x (dqM k O).length y) k (dqM k O) ∧ ∀ g, (Value.slice x (dqM k O).length y).ownBlock = some g → w'.heap.size ≤ g ∧ g < w''.heap.size) ∧ Below w'.heap.size w' w'') := fun k2 w' hk0 hb => (toDqR_any c k O w' hk (h3.below hb)).mono fun e w'' ⟨⟨x, y, e1, e2, e3, e4⟩, e5⟩ => by
    refine ⟨⟨x, y, ?_, ?_, ?_⟩, e5⟩ <;> rw [dqM_len]
    · exact e1
    · exact ⟨⟨e2, e3⟩, fun g hg => Nat.lt_of_lt_of_le hk0 (e4 g hg).1⟩
    · exact e4
  clear hn hm hk h1 h2 h3
  generalize flM n F = L at HF1 ⊢
  generalize flM m G = S at HF2 ⊢
  generalize dqM k O = Q at HF3 ⊢
  go_enter Try.func27, Try.ntmps27
  have HB1 : Hid (Below w.heap.size w (((w.alloc (.cells #[a, b, c] 50)).alloc (.cells #[.slice none 0 0, .slice none 0 0, .slice none 0 0] 27)).alloc (.cells #[.slice none 0 0, .slice none 0 0, .slice none 0 0] 27))) := (((Below.refl _ _).alloc (Nat.le_refl _) _).alloc (by simp) _).alloc (by simp; omega) _
  have HR1 : Hid ((((w.alloc (.cells #[a, b, c] 50)).alloc (.cells #[.slice none 0 0, .slice none 0 0, .slice none 0 0] 27)).alloc (.cells #[.slice none 0 0, .slice none 0 0, .slice none 0 0] 27)).heap[w.heap.size]? = some (.cells #[a, b, c] 50 (0, 0))) := by
    show _ = _
    rw [Below.heap_alloc _ _ _ (by simp; omega), Below.heap_alloc _ _ _ (by simp), heap_alloc_new]
  have HR2 : Hid ((((w.alloc (.cells #[a, b, c] 50)).alloc (.cells #[.slice none 0 0, .slice none 0 0, .slice none 0 0] 27)).alloc (.cells #[.slice none 0 0, .slice none 0 0, .slice none 0 0] 27)).heap[w.heap.size + 1 + 1]? = some (.cells #[.slice none 0 0, .slice none 0 0, .slice none 0 0] 27 (0, 0))) := by
    have := heap_alloc_new ((w.alloc (.cells #[a, b, c] 50)).alloc (.cells #[.slice none 0 0, .slice none 0 0, .slice none 0 0] 27)) (.cells #[.slice none 0 0, .slice none 0 0, .slice none 0 0] 27)
    rw [World.size_alloc, World.size_alloc] at this
    exact this
  have HT1 : Hid ((((w.alloc (.cells #[a, b, c] 50)).alloc (.cells #[.slice none 0 0, .slice none 0 0, .slice none 0 0] 27)).alloc (.cells #[.slice none 0 0, .slice none 0 0, .slice none 0 0] 27)).heap[w.heap.size + 1]? = some (.cells #[.slice none 0 0, .slice none 0 0, .slice none 0 0] 27 (0, 0))) := by
    have := heap_alloc_new (w.alloc (.cells #[a, b, c] 50)) (.cells #[.slice none 0 0, .slice none 0 0, .slice none 0 0] 27)
    rw [World.size_alloc] at this
    show _ = _
    rw [Below.heap_alloc _ _ _ (by simp)]
    exact this
  go_wp2_with fail
  have hf1 := HF1.out (w.heap.size + 1 + 1) _ (Array.getElem?_eq_some_iff.1 HR2.out).1 HB1.out
  generalize ((w.alloc (.cells #[a, b, c] 50)).alloc (.cells #[.slice none 0 0, .slice none 0 0, .slice none 0 0] 27)).alloc (.cells #[.slice none 0 0, .slice none 0 0, .slice none 0 0] 27) = w1 at HB1 HR1 HR2 HT1 hf1 ⊢
  refine hf1.mono ?_
  rintro e w2 ⟨⟨x1, y1, rfl, hv1, hu1⟩, hb2⟩
  have HU1 : Hid (∀ g, (Value.slice x1 L.length y1).ownBlock = some g → w.heap.size ≤ g ∧ g < w2.heap.size) := fun g hg => ⟨Nat.le_trans HB1.out.size (hu1 g hg).1, (hu1 g hg).2⟩
  clear hu1
  obtain ⟨k0, hk0⟩ : ∃ k0, k0 = w.heap.size := ⟨_, rfl⟩
  obtain ⟨k1, hk1⟩ : ∃ k1, k1 = w.heap.size + 1 := ⟨_, rfl⟩
  obtain ⟨k2, hk2⟩ : ∃ k2, k2 = w.heap.size + 1 + 1 := ⟨_, rfl⟩
  have HK : Hid (w.heap.size ≤ k2 ∧ k0 ≠ k2 ∧ k1 ≠ k2 ∧ k1 ≤ k2 ∧ w.heap.size ≤ k1) := ⟨by omega, by omega, by omega, by omega, by omega⟩
  have HR1b : Hid (w2.heap[k0]? = some (.cells #[a, b, c] 50 (0, 0))) := by rw [hk0]; exact (hb2.block _ (Array.getElem?_eq_some_iff.1 HR1.out).1).trans HR1.out
  have HR2b : Hid (w2.heap[k2]? = some (.cells #[.slice none 0 0, .slice none 0 0, .slice none 0 0] 27 (0, 0))) := by rw [hk2]; exact (hb2.block _ (Array.getElem?_eq_some_iff.1 HR2.out).1).trans HR2.out
  have HT2 : Hid (w2.heap[k1]? = some (.cells #[.slice none 0 0, .slice none 0 0, .slice none 0 0] 27 (0, 0))) := by rw [hk1]; exact (hb2.block _ (Array.getElem?_eq_some_iff.1 HT1.out).1).trans HT1.out
  have HB2 := hidF (blFl HB1.out hb2 HB1.out.size)
  have HV1 : Hid (KFlR k2 w2 (.slice x1 L.length y1) n L) := by rw [hk2]; exact hv1
  rw [← hk2, ← hk1, ← hk0]
  clear hk0 hk1 hk2 hv1 hb2 hf1 HB1 HR1 HR2 HT1 w1
  have z0 := cell_of_row _ _ 0 _ _ _ HR2b.out
  have f0 := frozen_of_row _ _ 0 _ _ HR2b.out
  have a1 : (w2.setCell ⟨k2, 0, none⟩ (.slice x1 L.length y1)).cell? ⟨k0, 1, none⟩ = some b := cell_of_row _ _ 1 _ _ _ ((heap_setCell_other _ _ _ _ HK.out.2.1).trans HR1b.out)
  go_wp2_with fail
  have HR2c : Hid ((w2.setCell ⟨k2, 0, none⟩ (.slice x1 L.length y1)).heap[k2]? = some (.cells #[.slice x1 L.length y1, .slice none 0 0, .slice none 0 0] 27 (0, 0))) := heap_setCell_same _ _ _ _ _ _ HR2b.out
  have HR1c : Hid ((w2.setCell ⟨k2, 0, none⟩ (.slice x1 L.length y1)).heap[k0]? = some (.cells #[a, b, c] 50 (0, 0))) := (heap_setCell_other _ _ _ _ HK.out.2.1).trans HR1b.out
  have HB2c : Hid (Below w.heap.size w (w2.setCell ⟨k2, 0, none⟩ (.slice x1 L.length y1))) := HB2.out.setCell (p := ⟨k2, 0, none⟩) HK.out.1 _
  have HT3 : Hid ((w2.setCell ⟨k2, 0, none⟩ (.slice x1 L.length y1)).heap[k1]? = some (.cells #[.slice none 0 0, .slice none 0 0, .slice none 0 0] 27 (0, 0))) := (heap_setCell_other _ _ _ _ HK.out.2.2.1).trans HT2.out
  have HV1c := hidF (HV1.out.put 0 (.slice x1 L.length y1))
  have HS3 : Hid ((w2.setCell ⟨k2, 0, none⟩ (.slice x1 L.length y1)).heap.size = w2.heap.size) := by show _ = _; simp
  have hf2 := HF2.out k2 _ (Array.getElem?_eq_some_iff.1 HR2c.out).1 HB2c.out
  clear z0 f0 a1 HV1 HB2 HR1b HR2b HT2
  generalize w2.setCell ⟨k2, 0, none⟩ (.slice x1 L.length y1) = w3 at HR2c HR1c HB2c HV1c HT3 HS3 hf2 ⊢
  refine hf2.mono ?_
  rintro e w4 ⟨⟨x2, y2, rfl, hv2, hu2⟩, hb4⟩
  have HU2 : Hid ((∀ g, (Value.slice x2 S.length y2).ownBlock = some g → w2.heap.size ≤ g ∧ g < w4.heap.size) ∧ w2.heap.size ≤ w4.heap.size) := ⟨fun g hg => ⟨by have := (hu2 g hg).1; have := HS3.out; omega, (hu2 g hg).2⟩, by have := hb4.size; have := HS3.out; omega⟩
  have HR1b : Hid (w4.heap[k0]? = some (.cells #[a, b, c] 50 (0, 0))) := (hb4.block _ (Array.getElem?_eq_some_iff.1 HR1c.out).1).trans HR1c.out
  have HR2b : Hid (w4.heap[k2]? = some (.cells #[.slice x1 L.length y1, .slice none 0 0, .slice none 0 0] 27 (0, 0))) := (hb4.block _ (Array.getElem?_eq_some_iff.1 HR2c.out).1).trans HR2c.out
  have HT4 : Hid (w4.heap[k1]? = some (.cells #[.slice none 0 0, .slice none 0 0, .slice none 0 0] 27 (0, 0))) := (hb4.block _ (Array.getElem?_eq_some_iff.1 HT3.out).1).trans HT3.out
  have HB4 := hidF (blFl HB2c.out hb4 HB2c.out.size)
  have HV1d := hidF (HV1c.out.below hb4)
  have HV2 := hidF hv2
  clear hv2 hu2 hb4 hf2 HS3 HB2c HR1c HR2c HV1c HT3 w3
  have z1 := cell_of_row _ _ 1 _ _ _ HR2b.out
  have f1 := frozen_of_row _ _ 1 _ _ HR2b.out
  have a2 : (w4.setCell ⟨k2, 1, none⟩ (.slice x2 S.length y2)).cell? ⟨k0, 2, none⟩ = some c := cell_of_row _ _ 2 _ _ _ ((heap_setCell_other _ _ _ _ HK.out.2.1).trans HR1b.out)
  go_wp2_with fail
  have HR2c : Hid ((w4.setCell ⟨k2, 1, none⟩ (.slice x2 S.length y2)).heap[k2]? = some (.cells #[.slice x1 L.length y1, .slice x2 S.length y2, .slice none 0 0] 27 (0, 0))) := heap_setCell_same _ _ _ _ _ _ HR2b.out
  have HB2c : Hid (Below w.heap.size w (w4.setCell ⟨k2, 1, none⟩ (.slice x2 S.length y2))) := HB4.out.setCell (p := ⟨k2, 1, none⟩) HK.out.1 _
  have HT5 : Hid ((w4.setCell ⟨k2, 1, none⟩ (.slice x2 S.length y2)).heap[k1]? = some (.cells #[.slice none 0 0, .slice none 0 0, .slice none 0 0] 27 (0, 0))) := (heap_setCell_other _ _ _ _ HK.out.2.2.1).trans HT4.out
  have HV1c := hidF (HV1d.out.put 1 (.slice x2 S.length y2))
  have HV2c := hidF (HV2.out.put 1 (.slice x2 S.length y2))
  have HS5 : Hid ((w4.setCell ⟨k2, 1, none⟩ (.slice x2 S.length y2)).heap.size = w4.heap.size) := by show _ = _; simp
  have hf3 := HF3.out k2 _ (Array.getElem?_eq_some_iff.1 HR2c.out).1 HB2c.out
  clear z1 f1 a2 HV1d HV2 HB4 HR1b HR2b HT4
  generalize w4.setCell ⟨k2, 1, none⟩ (.slice x2 S.length y2) = w5 at HR2c HB2c HV1c HV2c HT5 HS5 hf3 ⊢
  refine hf3.mono ?_
  rintro e w6 ⟨⟨x3, y3, rfl, hv3, hu3⟩, hb6⟩
  have HU3 : Hid ((∀ g, (Value.slice x3 Q.length y3).ownBlock = some g → w4.heap.size ≤ g ∧ g < w6.heap.size) ∧ w4.heap.size ≤ w6.heap.size) := ⟨fun g hg => ⟨by have := (hu3 g hg).1; have := HS5.out; omega, (hu3 g hg).2⟩, by have := hb6.size; have := HS5.out; omega⟩
  have HR2b : Hid (w6.heap[k2]? = some (.cells #[.slice x1 L.length y1, .slice x2 S.length y2, .slice none 0 0] 27 (0, 0))) := (hb6.block _ (Array.getElem?_eq_some_iff.1 HR2c.out).1).trans HR2c.out
  have HT6 : Hid (w6.heap[k1]? = some (.cells #[.slice none 0 0, .slice none 0 0, .slice none 0 0] 27 (0, 0))) := (hb6.block _ (Array.getElem?_eq_some_iff.1 HT5.out).1).trans HT5.out
  have HB6 := hidF (blFl HB2c.out hb6 HB2c.out.size)
  have HV1d := hidF (HV1c.out.below hb6)
  have HV2d := hidF (HV2c.out.below hb6)
  have HV3 := hidF hv3
  clear hv3 hu3 hb6 hf3 HS5 HB2c HR2c HV1c HV2c HT5 w5
  have z2 := cell_of_row _ _ 2 _ _ _ HR2b.out
  have f2 := frozen_of_row _ _ 2 _ _ HR2b.out
  have HR7 : Hid ((w6.setCell ⟨k2, 2, none⟩ (.slice x3 Q.length y3)).heap[k2]? = some (.cells #[.slice x1 L.length y1, .slice x2 S.length y2, .slice x3 Q.length y3] 27 (0, 0))) := heap_setCell_same _ _ _ _ _ _ HR2b.out
  have HT7 : Hid ((w6.setCell ⟨k2, 2, none⟩ (.slice x3 Q.length y3)).heap[k1]? = some (.cells #[.slice none 0 0, .slice none 0 0, .slice none 0 0] 27 (0, 0))) := (heap_setCell_other _ _ _ _ HK.out.2.2.1).trans HT6.out
  have hi : Option.map (·.size) (Try.prog.info? 27) = some 3 := by kernel_rfl
  have r0 := cell_of_row _ _ 0 _ _ _ HT7.out
  have r1 := cell_of_row _ _ 1 _ _ _ HT7.out
  have r2 := cell_of_row _ _ 2 _ _ _ HT7.out
  have t0 := frozen_of_row _ _ 0 _ _ HT7.out
  have t1 := frozen_of_row _ _ 1 _ _ HT7.out
  have t2 := frozen_of_row _ _ 2 _ _ HT7.out
  have HBX : Hid (Below w.heap.size w ((((w6.setCell ⟨k2, 2, none⟩ (.slice x3 Q.length y3)).setCell ⟨k1, 0, none⟩ (.slice x1 L.length y1)).setCell ⟨k1, 1, none⟩ (.slice x2 S.length y2)).setCell ⟨k1, 2, none⟩ (.slice x3 Q.length y3))) := (((HB6.out.setCell (p := ⟨k2, 2, none⟩) HK.out.1 _).setCell (p := ⟨k1, 0, none⟩) HK.out.2.2.2.2 _).setCell (p := ⟨k1, 1, none⟩) HK.out.2.2.2.2 _).setCell (p := ⟨k1, 2, none⟩) HK.out.2.2.2.2 _
  have HTX : Hid (((((w6.setCell ⟨k2, 2, none⟩ (.slice x3 Q.length y3)).setCell ⟨k1, 0, none⟩ (.slice x1 L.length y1)).setCell ⟨k1, 1, none⟩ (.slice x2 S.length y2)).setCell ⟨k1, 2, none⟩ (.slice x3 Q.length y3)).heap[k1]? = some (.cells #[.slice x1 L.length y1, .slice x2 S.length y2, .slice x3 Q.length y3] 27 (0, 0))) := heap_setCell_same _ _ _ _ _ _ (heap_setCell_same _ _ _ _ _ _ (heap_setCell_same _ _ _ _ _ _ HT7.out))
  have hA := (((HV1d.out.put 2 (.slice x3 Q.length y3)).put2 HK.out.2.2.2.1 0 (.slice x1 L.length y1)).put2 HK.out.2.2.2.1 1 (.slice x2 S.length y2)).put2 HK.out.2.2.2.1 2 (.slice x3 Q.length y3)
  have hB := (((HV2d.out.put 2 (.slice x3 Q.length y3)).put2 HK.out.2.2.2.1 0 (.slice x1 L.length y1)).put2 HK.out.2.2.2.1 1 (.slice x2 S.length y2)).put2 HK.out.2.2.2.1 2 (.slice x3 Q.length y3)
  have hC := (((HV3.out.put 2 (.slice x3 Q.length y3)).put2 HK.out.2.2.2.1 0 (.slice x1 L.length y1)).put2 HK.out.2.2.2.1 1 (.slice x2 S.length y2)).put2 HK.out.2.2.2.1 2 (.slice x3 Q.length y3)
  have hz9 : ((((w6.setCell ⟨k2, 2, none⟩ (.slice x3 Q.length y3)).setCell ⟨k1, 0, none⟩ (.slice x1 L.length y1)).setCell ⟨k1, 1, none⟩ (.slice x2 S.length y2)).setCell ⟨k1, 2, none⟩ (.slice x3 Q.length y3)).heap.size = w6.heap.size := by simp
  have HVX : Hid (DkX w.heap.size ((((w6.setCell ⟨k2, 2, none⟩ (.slice x3 Q.length y3)).setCell ⟨k1, 0, none⟩ (.slice x1 L.length y1)).setCell ⟨k1, 1, none⟩ (.slice x2 S.length y2)).setCell ⟨k1, 2, none⟩ (.slice x3 Q.length y3)) (.slice x1 L.length y1) (.slice x2 S.length y2) (.slice x3 Q.length y3) n m k L S Q) :=
    ⟨hA.1.1, hB.1.1, hC.1.1, hA.1.2, hB.1.2, hC.1.2, fun g hg => by
      rw [hz9]
      have h2 := HU2.out.2
      have h3 := HU3.out.2
      rcases hg with hg | hg | hg
      · have := HU1.out g hg; omega
      · have := HU1.out; have := HU2.out.1 g hg; have := HB6.out.size; have := hB.2 g hg; have := HK.out.1; omega
      · have := HU3.out.1 g hg; have := hC.2 g hg; have := HK.out.1; omega, fun g hg => ⟨fun hb => by have := HU1.out g hg; have := HU2.out.1 g hb; omega, fun hc => by have := HU1.out g hg; have := HU3.out.1 g hc; have := HU2.out.2; omega⟩, fun g hb hc => by have := HU2.out.1 g hb; have := HU3.out.1 g hc; omega⟩
  clear hA hB hC hz9
  clear HV1d HV2d HV3 HT6 HR2b HB6
  go_wp2_with (first | refine wpList_load_row rfl 27 _ rfl k2 rfl 27 #[.slice x1 L.length y1, .slice x2 S.length y2, .slice x3 Q.length y3] (0, 0) _ HR7.out Try.underlying27 rfl hi ?_ | refine wpList_load_row rfl 27 _ rfl k1 rfl 27 #[.slice x1 L.length y1, .slice x2 S.length y2, .slice x3 Q.length y3] (0, 0) _ HTX.out Try.underlying27 rfl hi ?_)
  exact bodyPost_ret (results_cell_row rfl _ _ k1 27 #[.slice x1 L.length y1, .slice x2 S.length y2, .slice x3 Q.length y3] (0, 0) _ rfl HTX.out Try.underlying27 rfl (by kernel_rfl)) rfl ⟨⟨_, _, _, rfl, HVX.out⟩, HBX.out⟩
end Go.Proofs.Ytanlggglbpibfaa

/-!   Ops of a disk, whether their marks are held: the law's own way. -/
namespace Go.Proofs.Ytanlggglbpibfaa
open Go.RowKit
set_option linter.unusedVariables false
set_option linter.unusedSimpArgs false
set_option maxRecDepth 100000 in
set_option maxHeartbeats 4000000 in
theorem heldQ_any (g c n k : Nat) (w : World) (hn : n ≤ 1000) (h1 : 1 ≤ k) (hk : k ≤ 1000) (hg : g < w.heap.size) (hc : QmAt w g n k) :
    Calls Try.prog 75 #[.slice (some ⟨g, 0, none⟩) n c, .int .i64 (k : Int)] w fun e w' => e = .returned (.int .i64 ((k + 4 * n : Nat) : Int)) ∧ Below w.heap.size w w' := by
  have HC : Hid (∀ w', Below w.heap.size w w' → QmAt w' g n k) := fun w' hb => hc.below hb hg
  have HM : Hid (∀ (k : Nat) (w : World), 1 ≤ k → k ≤ 10000000 → Calls Try.prog 97 #[.int .i64 (k : Int)] w fun e w' => e = .returned (.string (mkT k)) ∧ Below w.heap.size w w') := fun k w h1 h2 => markT_any k w h1 h2
  clear hc hg
  go_enter Try.func75, Try.ntmps75
  go_wp2_with fail
  go_loopw [1, 5] (fun x v wr => ∃ i : Nat, i ≤ n ∧ x = .int .i64 ((k + 4 * i : Nat) : Int) ∧ v = .int .i64 (i : Int) ∧ Below w.heap.size w wr) (fun _ v _ => n - natP v)
  case atStart => exact ⟨0, by omega, rfl, rfl, Below.refl _ _⟩
  case round =>
    obtain ⟨i, hi, rfl, rfl, hb⟩ := hrel
    by_cases hlt : i < n
    · have hltI : (i : Int) < (n : Int) := by omega
      obtain ⟨q, hq⟩ : ∃ q, q = 4 * i := ⟨_, rfl⟩
      obtain ⟨k0, hk0⟩ : ∃ k0, k0 = k + 4 * i := ⟨_, rfl⟩
      obtain ⟨k1, hk1⟩ : ∃ k1, k1 = k0 + 1 := ⟨_, rfl⟩
      obtain ⟨k2, hk2⟩ : ∃ k2, k2 = k0 + 2 := ⟨_, rfl⟩
      obtain ⟨k3, hk3⟩ : ∃ k3, k3 = k0 + 3 := ⟨_, rfl⟩
      have HMK1 : Hid (∀ w, Calls Try.prog 97 #[.int .i64 (k1 : Int)] w fun e w' => e = .returned (.string (mkT k1)) ∧ Below w.heap.size w w') := fun w => HM.out k1 w (by omega) (by omega)
      have HMK2 : Hid (∀ w, Calls Try.prog 97 #[.int .i64 (k2 : Int)] w fun e w' => e = .returned (.string (mkT k2)) ∧ Below w.heap.size w w') := fun w => HM.out k2 w (by omega) (by omega)
      have HMK3 : Hid (∀ w, Calls Try.prog 97 #[.int .i64 (k3 : Int)] w fun e w' => e = .returned (.string (mkT k3)) ∧ Below w.heap.size w w') := fun w => HM.out k3 w (by omega) (by omega)
      obtain ⟨S, hSS⟩ : ∃ S : World → Prop, S = fun w' => Below w.heap.size w w' := ⟨_, rfl⟩
      have HX : Hid (∀ w', S w' → w'.cell? ⟨g, q, none⟩ = some (.int .i64 (k0 : Int)) ∧ w'.cell? ⟨g, q + 1, none⟩ = some (.string (mkT k1)) ∧ w'.cell? ⟨g, q + 2, none⟩ = some (.string (mkT k2)) ∧ w'.cell? ⟨g, q + 3, none⟩ = some (.string (mkT k3))) := fun w' hS' => by
        rw [hSS] at hS'
        have := HC.out w' hS' i hlt
        rw [← hq, show k + q = k0 by omega, show k0 + 1 = k1 by omega, show k0 + 2 = k2 by omega, show k0 + 3 = k3 by omega] at this
        exact this
      have HS : Hid (S = fun w' => Below w.heap.size w w') := hSS
      have hS0 : S wr := by rw [hSS]; exact hb
      have hS1 : S wr.drew := by rw [hSS]; exact hb.drew
      have ei : ((k + 4 * i : Nat) : Int) = (k0 : Int) := by omega
      have ek1 : (k0 : Int) + 1 = (k1 : Int) := by omega
      have ek2 : (k1 : Int) + 1 = (k2 : Int) := by omega
      have ek3 : (k2 : Int) + 1 = (k3 : Int) := by omega
      have hiq : i * 4 = q := by omega
      have hk0l : k0 ≤ 8000000 := by omega
      have hk1l : k1 ≤ 8000003 := by omega
      have hk2l : k2 ≤ 8000003 := by omega
      have hk3l : k3 ≤ 8000003 := by omega
      have HK : Hid (k0 = k + 4 * i ∧ k3 = k0 + 3) := ⟨hk0, hk3⟩
      have HX1 : Hid (∀ w', S w' → w'.cell? ⟨g, q + 1, none⟩ = some (.string (mkT k1))) := fun w' h => (HX.out w' h).2.1
      have HX2 : Hid (∀ w', S w' → w'.cell? ⟨g, q + 2, none⟩ = some (.string (mkT k2))) := fun w' h => (HX.out w' h).2.2.1
      have HX3 : Hid (∀ w', S w' → w'.cell? ⟨g, q + 3, none⟩ = some (.string (mkT k3))) := fun w' h => (HX.out w' h).2.2.2
      have x0 := (HX.out _ hS0).1
      clear HX hS0
      generalize mkT k1 = T1 at *
      generalize mkT k2 = T2 at *
      generalize mkT k3 = T3 at *
      rw [ei]
      clear hSS hq hk0 hk1 hk2 hk3 ei hb
      go_wp2_with fail
      clear x0
      refine wp_region_held (S := S) (by kernel_rfl) ?_
      change wpAnyH _ _ _ _ _ _ _ _ (World.drew _)
      refine wpAnyH_take (i := 0) (v := .slice (some ⟨g, 0, none⟩) n c) rfl (by kernel_rfl) (by kernel_rfl) (by kernel_rfl) (fun _ _ _ h => h) (Or.inl ⟨by rfl, by intro w' hS';  go_simp <;> (first | omega | (rw [IntKind.wrap_i64]; omega) | (rw [IntKind.wrap_u64]; omega) | (rw [IntKind.wrap_u32]; omega) | (rw [Int.tmod_eq_emod_of_nonneg (by omega)]) | rfl)⟩) hS1 ?_
      (try simp only [List.getElem_toArray, List.getElem_cons_succ, List.getElem_cons_zero, Act.put, List.setIfInBounds_toArray, List.set_cons_zero, List.set_cons_succ])
      refine wpAnyH_take (i := 1) (v := .int .i64 (i : Int)) rfl (by kernel_rfl) (by kernel_rfl) (by kernel_rfl) (fun _ _ _ h => h) (Or.inl ⟨by rfl, by intro w' hS';  go_simp <;> (first | omega | (rw [IntKind.wrap_i64]; omega) | (rw [IntKind.wrap_u64]; omega) | (rw [IntKind.wrap_u32]; omega) | (rw [Int.tmod_eq_emod_of_nonneg (by omega)]) | rfl)⟩) hS1 ?_
      (try simp only [List.getElem_toArray, List.getElem_cons_succ, List.getElem_cons_zero, Act.put, List.setIfInBounds_toArray, List.set_cons_zero, List.set_cons_succ])
      refine wpAnyH_take (i := 2) (v := .pointer (some ⟨g, q, none⟩)) rfl (by kernel_rfl) (by kernel_rfl) (by kernel_rfl) (fun _ _ _ h => h) (Or.inl ⟨by rfl, by intro w' hS';  go_simp <;> (first | omega | (rw [IntKind.wrap_i64]; omega) | (rw [IntKind.wrap_u64]; omega) | (rw [IntKind.wrap_u32]; omega) | (rw [Int.tmod_eq_emod_of_nonneg (by omega)]) | rfl)⟩) hS1 ?_
      (try simp only [List.getElem_toArray, List.getElem_cons_succ, List.getElem_cons_zero, Act.put, List.setIfInBounds_toArray, List.set_cons_zero, List.set_cons_succ])
      refine wpAnyH_take (i := 3) (v := .pointer (some ⟨g, q + 1, none⟩)) rfl (by kernel_rfl) (by kernel_rfl) (by kernel_rfl) (fun _ _ _ h => h) (Or.inl ⟨by rfl, by intro w' hS';  go_simp <;> (first | omega | (rw [IntKind.wrap_i64]; omega) | (rw [IntKind.wrap_u64]; omega) | (rw [IntKind.wrap_u32]; omega) | (rw [Int.tmod_eq_emod_of_nonneg (by omega)]) | rfl)⟩) hS1 ?_
      (try simp only [List.getElem_toArray, List.getElem_cons_succ, List.getElem_cons_zero, Act.put, List.setIfInBounds_toArray, List.set_cons_zero, List.set_cons_succ])
      refine wpAnyH_take (i := 4) (v := .string T1) rfl (by kernel_rfl) (by kernel_rfl) (by kernel_rfl) (fun _ _ _ h => h) (Or.inl ⟨by rfl, by intro w' hS'; have hxx := HX1.out w' hS'; go_simp <;> (first | omega | (rw [IntKind.wrap_i64]; omega) | (rw [IntKind.wrap_u64]; omega) | (rw [IntKind.wrap_u32]; omega) | (rw [Int.tmod_eq_emod_of_nonneg (by omega)]) | rfl)⟩) hS1 ?_
      (try simp only [List.getElem_toArray, List.getElem_cons_succ, List.getElem_cons_zero, Act.put, List.setIfInBounds_toArray, List.set_cons_zero, List.set_cons_succ])
      refine wpAnyH_take (i := 5) (v := .int .i64 (k1 : Int)) rfl (by kernel_rfl) (by kernel_rfl) (by kernel_rfl) (fun _ _ _ h => h) (Or.inl ⟨by rfl, by intro w' hS';  go_simp <;> (first | omega | (rw [IntKind.wrap_i64]; omega) | (rw [IntKind.wrap_u64]; omega) | (rw [IntKind.wrap_u32]; omega) | (rw [Int.tmod_eq_emod_of_nonneg (by omega)]) | rfl)⟩) hS1 ?_
      (try simp only [List.getElem_toArray, List.getElem_cons_succ, List.getElem_cons_zero, Act.put, List.setIfInBounds_toArray, List.set_cons_zero, List.set_cons_succ])
      refine held_stepS (i := 6) (by kernel_rfl) rfl (by rfl) ?_
      go_simp
      refine (HMK1.out _).mono ?_
      rintro e w2 ⟨rfl, hbX⟩
      have hb2 : Below w.heap.size w w2 := by have hx := hS1; rw [HS.out] at hx; exact blFl hx hbX hx.size
      have hS2 : S w2 := by rw [HS.out]; exact hb2
      refine ⟨hS2, ?_⟩
      (try simp only [List.getElem_toArray, List.getElem_cons_succ, List.getElem_cons_zero, Act.put, List.setIfInBounds_toArray, List.set_cons_zero, List.set_cons_succ])
      refine wpAnyH_take (i := 7) (v := .bool false) rfl (by kernel_rfl) (by kernel_rfl) (by kernel_rfl) (fun _ _ _ h => h) (Or.inl ⟨by rfl, by intro w' hS';  go_simp <;> (first | omega | (rw [IntKind.wrap_i64]; omega) | (rw [IntKind.wrap_u64]; omega) | (rw [IntKind.wrap_u32]; omega) | (rw [Int.tmod_eq_emod_of_nonneg (by omega)]) | rfl)⟩) hS2 ?_
      (try simp only [List.getElem_toArray, List.getElem_cons_succ, List.getElem_cons_zero, Act.put, List.setIfInBounds_toArray, List.set_cons_zero, List.set_cons_succ])
      refine wpAnyH_done (by kernel_rfl) ?_ _
      have hd2 : S w2.drew := by rw [HS.out]; exact hb2.drew
      clear hbX hb2 hS2 hS1
      go_wp2_with fail
      refine wp_region_held (S := S) (by kernel_rfl) ?_
      change wpAnyH _ _ _ _ _ _ _ _ (World.drew _)
      refine wpAnyH_take (i := 0) (v := .slice (some ⟨g, 0, none⟩) n c) rfl (by kernel_rfl) (by kernel_rfl) (by kernel_rfl) (fun _ _ _ h => h) (Or.inl ⟨by rfl, by intro w' hS';  go_simp <;> (first | omega | (rw [IntKind.wrap_i64]; omega) | (rw [IntKind.wrap_u64]; omega) | (rw [IntKind.wrap_u32]; omega) | (rw [Int.tmod_eq_emod_of_nonneg (by omega)]) | rfl)⟩) hd2 ?_
      (try simp only [List.getElem_toArray, List.getElem_cons_succ, List.getElem_cons_zero, Act.put, List.setIfInBounds_toArray, List.set_cons_zero, List.set_cons_succ])
      refine wpAnyH_take (i := 1) (v := .int .i64 (i : Int)) rfl (by kernel_rfl) (by kernel_rfl) (by kernel_rfl) (fun _ _ _ h => h) (Or.inl ⟨by rfl, by intro w' hS';  go_simp <;> (first | omega | (rw [IntKind.wrap_i64]; omega) | (rw [IntKind.wrap_u64]; omega) | (rw [IntKind.wrap_u32]; omega) | (rw [Int.tmod_eq_emod_of_nonneg (by omega)]) | rfl)⟩) hd2 ?_
      (try simp only [List.getElem_toArray, List.getElem_cons_succ, List.getElem_cons_zero, Act.put, List.setIfInBounds_toArray, List.set_cons_zero, List.set_cons_succ])
      refine wpAnyH_take (i := 2) (v := .pointer (some ⟨g, q, none⟩)) rfl (by kernel_rfl) (by kernel_rfl) (by kernel_rfl) (fun _ _ _ h => h) (Or.inl ⟨by rfl, by intro w' hS';  go_simp <;> (first | omega | (rw [IntKind.wrap_i64]; omega) | (rw [IntKind.wrap_u64]; omega) | (rw [IntKind.wrap_u32]; omega) | (rw [Int.tmod_eq_emod_of_nonneg (by omega)]) | rfl)⟩) hd2 ?_
      (try simp only [List.getElem_toArray, List.getElem_cons_succ, List.getElem_cons_zero, Act.put, List.setIfInBounds_toArray, List.set_cons_zero, List.set_cons_succ])
      refine wpAnyH_take (i := 3) (v := .pointer (some ⟨g, q + 2, none⟩)) rfl (by kernel_rfl) (by kernel_rfl) (by kernel_rfl) (fun _ _ _ h => h) (Or.inl ⟨by rfl, by intro w' hS';  go_simp <;> (first | omega | (rw [IntKind.wrap_i64]; omega) | (rw [IntKind.wrap_u64]; omega) | (rw [IntKind.wrap_u32]; omega) | (rw [Int.tmod_eq_emod_of_nonneg (by omega)]) | rfl)⟩) hd2 ?_
      (try simp only [List.getElem_toArray, List.getElem_cons_succ, List.getElem_cons_zero, Act.put, List.setIfInBounds_toArray, List.set_cons_zero, List.set_cons_succ])
      refine wpAnyH_take (i := 4) (v := .string T2) rfl (by kernel_rfl) (by kernel_rfl) (by kernel_rfl) (fun _ _ _ h => h) (Or.inl ⟨by rfl, by intro w' hS'; have hxx := HX2.out w' hS'; go_simp <;> (first | omega | (rw [IntKind.wrap_i64]; omega) | (rw [IntKind.wrap_u64]; omega) | (rw [IntKind.wrap_u32]; omega) | (rw [Int.tmod_eq_emod_of_nonneg (by omega)]) | rfl)⟩) hd2 ?_
      (try simp only [List.getElem_toArray, List.getElem_cons_succ, List.getElem_cons_zero, Act.put, List.setIfInBounds_toArray, List.set_cons_zero, List.set_cons_succ])
      refine wpAnyH_take (i := 5) (v := .int .i64 (k2 : Int)) rfl (by kernel_rfl) (by kernel_rfl) (by kernel_rfl) (fun _ _ _ h => h) (Or.inl ⟨by rfl, by intro w' hS';  go_simp <;> (first | omega | (rw [IntKind.wrap_i64]; omega) | (rw [IntKind.wrap_u64]; omega) | (rw [IntKind.wrap_u32]; omega) | (rw [Int.tmod_eq_emod_of_nonneg (by omega)]) | rfl)⟩) hd2 ?_
      (try simp only [List.getElem_toArray, List.getElem_cons_succ, List.getElem_cons_zero, Act.put, List.setIfInBounds_toArray, List.set_cons_zero, List.set_cons_succ])
      refine held_stepS (i := 6) (by kernel_rfl) rfl (by rfl) ?_
      go_simp
      refine (HMK2.out _).mono ?_
      rintro e w3 ⟨rfl, hbX⟩
      have hb3 : Below w.heap.size w w3 := by have hx := hd2; rw [HS.out] at hx; exact blFl hx hbX hx.size
      have hS3 : S w3 := by rw [HS.out]; exact hb3
      refine ⟨hS3, ?_⟩
      (try simp only [List.getElem_toArray, List.getElem_cons_succ, List.getElem_cons_zero, Act.put, List.setIfInBounds_toArray, List.set_cons_zero, List.set_cons_succ])
      refine wpAnyH_take (i := 7) (v := .bool false) rfl (by kernel_rfl) (by kernel_rfl) (by kernel_rfl) (fun _ _ _ h => h) (Or.inl ⟨by rfl, by intro w' hS';  go_simp <;> (first | omega | (rw [IntKind.wrap_i64]; omega) | (rw [IntKind.wrap_u64]; omega) | (rw [IntKind.wrap_u32]; omega) | (rw [Int.tmod_eq_emod_of_nonneg (by omega)]) | rfl)⟩) hS3 ?_
      (try simp only [List.getElem_toArray, List.getElem_cons_succ, List.getElem_cons_zero, Act.put, List.setIfInBounds_toArray, List.set_cons_zero, List.set_cons_succ])
      refine wpAnyH_done (by kernel_rfl) ?_ _
      have hd3 : S w3.drew := by rw [HS.out]; exact hb3.drew
      clear hbX hb3 hS3 hd2
      go_wp2_with fail
      refine wp_region_held (S := S) (by kernel_rfl) ?_
      change wpAnyH _ _ _ _ _ _ _ _ (World.drew _)
      refine wpAnyH_take (i := 0) (v := .slice (some ⟨g, 0, none⟩) n c) rfl (by kernel_rfl) (by kernel_rfl) (by kernel_rfl) (fun _ _ _ h => h) (Or.inl ⟨by rfl, by intro w' hS';  go_simp <;> (first | omega | (rw [IntKind.wrap_i64]; omega) | (rw [IntKind.wrap_u64]; omega) | (rw [IntKind.wrap_u32]; omega) | (rw [Int.tmod_eq_emod_of_nonneg (by omega)]) | rfl)⟩) hd3 ?_
      (try simp only [List.getElem_toArray, List.getElem_cons_succ, List.getElem_cons_zero, Act.put, List.setIfInBounds_toArray, List.set_cons_zero, List.set_cons_succ])
      refine wpAnyH_take (i := 1) (v := .int .i64 (i : Int)) rfl (by kernel_rfl) (by kernel_rfl) (by kernel_rfl) (fun _ _ _ h => h) (Or.inl ⟨by rfl, by intro w' hS';  go_simp <;> (first | omega | (rw [IntKind.wrap_i64]; omega) | (rw [IntKind.wrap_u64]; omega) | (rw [IntKind.wrap_u32]; omega) | (rw [Int.tmod_eq_emod_of_nonneg (by omega)]) | rfl)⟩) hd3 ?_
      (try simp only [List.getElem_toArray, List.getElem_cons_succ, List.getElem_cons_zero, Act.put, List.setIfInBounds_toArray, List.set_cons_zero, List.set_cons_succ])
      refine wpAnyH_take (i := 2) (v := .pointer (some ⟨g, q, none⟩)) rfl (by kernel_rfl) (by kernel_rfl) (by kernel_rfl) (fun _ _ _ h => h) (Or.inl ⟨by rfl, by intro w' hS';  go_simp <;> (first | omega | (rw [IntKind.wrap_i64]; omega) | (rw [IntKind.wrap_u64]; omega) | (rw [IntKind.wrap_u32]; omega) | (rw [Int.tmod_eq_emod_of_nonneg (by omega)]) | rfl)⟩) hd3 ?_
      (try simp only [List.getElem_toArray, List.getElem_cons_succ, List.getElem_cons_zero, Act.put, List.setIfInBounds_toArray, List.set_cons_zero, List.set_cons_succ])
      refine wpAnyH_take (i := 3) (v := .pointer (some ⟨g, q + 3, none⟩)) rfl (by kernel_rfl) (by kernel_rfl) (by kernel_rfl) (fun _ _ _ h => h) (Or.inl ⟨by rfl, by intro w' hS';  go_simp <;> (first | omega | (rw [IntKind.wrap_i64]; omega) | (rw [IntKind.wrap_u64]; omega) | (rw [IntKind.wrap_u32]; omega) | (rw [Int.tmod_eq_emod_of_nonneg (by omega)]) | rfl)⟩) hd3 ?_
      (try simp only [List.getElem_toArray, List.getElem_cons_succ, List.getElem_cons_zero, Act.put, List.setIfInBounds_toArray, List.set_cons_zero, List.set_cons_succ])
      refine wpAnyH_take (i := 4) (v := .string T3) rfl (by kernel_rfl) (by kernel_rfl) (by kernel_rfl) (fun _ _ _ h => h) (Or.inl ⟨by rfl, by intro w' hS'; have hxx := HX3.out w' hS'; go_simp <;> (first | omega | (rw [IntKind.wrap_i64]; omega) | (rw [IntKind.wrap_u64]; omega) | (rw [IntKind.wrap_u32]; omega) | (rw [Int.tmod_eq_emod_of_nonneg (by omega)]) | rfl)⟩) hd3 ?_
      (try simp only [List.getElem_toArray, List.getElem_cons_succ, List.getElem_cons_zero, Act.put, List.setIfInBounds_toArray, List.set_cons_zero, List.set_cons_succ])
      refine wpAnyH_take (i := 5) (v := .int .i64 (k3 : Int)) rfl (by kernel_rfl) (by kernel_rfl) (by kernel_rfl) (fun _ _ _ h => h) (Or.inl ⟨by rfl, by intro w' hS';  go_simp <;> (first | omega | (rw [IntKind.wrap_i64]; omega) | (rw [IntKind.wrap_u64]; omega) | (rw [IntKind.wrap_u32]; omega) | (rw [Int.tmod_eq_emod_of_nonneg (by omega)]) | rfl)⟩) hd3 ?_
      (try simp only [List.getElem_toArray, List.getElem_cons_succ, List.getElem_cons_zero, Act.put, List.setIfInBounds_toArray, List.set_cons_zero, List.set_cons_succ])
      refine held_stepS (i := 6) (by kernel_rfl) rfl (by rfl) ?_
      go_simp
      refine (HMK3.out _).mono ?_
      rintro e w4 ⟨rfl, hbX⟩
      have hb4 : Below w.heap.size w w4 := by have hx := hd3; rw [HS.out] at hx; exact blFl hx hbX hx.size
      have hS4 : S w4 := by rw [HS.out]; exact hb4
      refine ⟨hS4, ?_⟩
      (try simp only [List.getElem_toArray, List.getElem_cons_succ, List.getElem_cons_zero, Act.put, List.setIfInBounds_toArray, List.set_cons_zero, List.set_cons_succ])
      refine wpAnyH_take (i := 7) (v := .bool false) rfl (by kernel_rfl) (by kernel_rfl) (by kernel_rfl) (fun _ _ _ h => h) (Or.inl ⟨by rfl, by intro w' hS';  go_simp <;> (first | omega | (rw [IntKind.wrap_i64]; omega) | (rw [IntKind.wrap_u64]; omega) | (rw [IntKind.wrap_u32]; omega) | (rw [Int.tmod_eq_emod_of_nonneg (by omega)]) | rfl)⟩) hS4 ?_
      (try simp only [List.getElem_toArray, List.getElem_cons_succ, List.getElem_cons_zero, Act.put, List.setIfInBounds_toArray, List.set_cons_zero, List.set_cons_succ])
      refine wpAnyH_done (by kernel_rfl) ?_ _
      go_wp2_with fail
      go_roundw
      case rel => exact ⟨i + 1, by omega, by have := HK.out; show Value.int .i64 _ = Value.int .i64 _; congr 1; omega, by go_num, hb4⟩
      case measure => simp [natP]; omega
    · obtain rfl : i = n := by omega
      go_wp2_with fail
      go_ret
      exact ⟨rfl, hb⟩
/-- marks of a list of ops, nil or not -/
def MkQ (w : World) (v : Value) (n k : Nat) : Prop := ∃ a c, v = .slice a n c ∧ (0 < n → ∃ g, a = some ⟨g, 0, none⟩ ∧ g < w.heap.size ∧ QmAt w g n k)
theorem MkQ.below {w w' : World} {v : Value} {n k : Nat} (h : MkQ w v n k) (hw : Below w.heap.size w w') : MkQ w' v n k := by
  obtain ⟨p, c, rfl, h⟩ := h
  exact ⟨p, c, rfl, fun h0 => by obtain ⟨g, rfl, h2, h3⟩ := h h0; exact ⟨g, rfl, Nat.lt_of_lt_of_le h2 hw.size, h3.below hw h2⟩⟩
theorem heldQv_any (v : Value) (n k : Nat) (w : World) (hn : n ≤ 1000) (h1 : 1 ≤ k) (hk : k ≤ 1000) (h : MkQ w v n k) :
    Calls Try.prog 75 #[v, .int .i64 (k : Int)] w fun e w' => e = .returned (.int .i64 ((k + 4 * n : Nat) : Int)) ∧ Below w.heap.size w w' := by
  obtain ⟨a, c, rfl, hr⟩ := h
  by_cases h0 : 0 < n
  · obtain ⟨g, rfl, h2, h3⟩ := hr h0
    exact heldQ_any g c n k w hn h1 hk h2 h3
  · obtain rfl : n = 0 := by omega
    refine (heldQ_zero a c k w).mono ?_
    rintro e w' ⟨rfl, rfl⟩
    exact ⟨rfl, Below.refl _ _⟩
end Go.Proofs.Ytanlggglbpibfaa

/-!   A disk with ops that is marked and held: the law's own ways. -/
namespace Go.Proofs.Ytanlggglbpibfaa
open Go.RowKit
set_option linter.unusedVariables false
set_option linter.unusedSimpArgs false
theorem MkQ.keep {w w' : World} {v : Value} {n k : Nat} (h : MkQ w v n k) (hb : ∀ g, v.ownBlock = some g → w'.heap[g]? = w.heap[g]?) : MkQ w' v n k := by
  obtain ⟨a, c, rfl, h1⟩ := h
  refine ⟨a, c, rfl, fun h0 => ?_⟩
  obtain ⟨g, rfl, h2, h3⟩ := h1 h0
  have hg := hb g rfl
  refine ⟨g, rfl, ?_, fun j hj => ⟨(cell_eq hg _).trans (h3 j hj).1, (cell_eq hg _).trans (h3 j hj).2.1, (cell_eq hg _).trans (h3 j hj).2.2.1, (cell_eq hg _).trans (h3 j hj).2.2.2⟩⟩
  rw [Array.getElem?_eq_getElem h2] at hg
  exact (Array.getElem?_eq_some_iff.1 hg).1
theorem markQw_any (v : Value) (n k : Nat) (w : World) (hn : n ≤ 1048576) (h1 : 1 ≤ k) (hk : k ≤ 4300000) (h : RwQ w v n) :
    Calls Try.prog 73 #[v, .int .i64 (k : Int)] w fun e w' => (e = .returned (.int .i64 ((k + 4 * n : Nat) : Int)) ∧ MkQ w' v n k) ∧ w.grownBy w' v.ownBlock := by
  obtain ⟨a, c, rfl, hr⟩ := h.form
  by_cases h0 : 0 < n
  · obtain ⟨g, cur, rfl, h2, h3⟩ := hr h0
    refine (markQB_any g c n k cur w hn h1 hk h2 h3).mono ?_
    rintro e w' ⟨⟨rfl, hm⟩, hg⟩
    exact ⟨⟨rfl, _, _, rfl, fun _ => ⟨g, rfl, Nat.lt_of_lt_of_le (Array.getElem?_eq_some_iff.1 h2).1 hg.size, hm⟩⟩, hg⟩
  · obtain rfl : n = 0 := by omega
    refine (markQ_zero a c k w).mono ?_
    rintro e w' ⟨rfl, rfl⟩
    exact ⟨⟨rfl, _, _, rfl, fun h => absurd h (by omega)⟩, World.grownBy.refl _ _⟩
set_option maxRecDepth 100000 in
set_option maxHeartbeats 1000000 in
theorem heldDkQ_any (a b c : Value) (n m q k : Nat) (w : World) (hn : n ≤ 60) (hm : m ≤ 60) (hq : q ≤ 200) (h1 : 1 ≤ k) (hk : k ≤ 100) (ha : MkF w a n k) (hb : MkF w b m (k + 2 * n)) (hc : MkQ w c q (k + 2 * n + 2 * m)) :
    Calls Try.prog 32 #[.agg #[a, b, c], .int .i64 (k : Int)] w fun e w' => e = .returned (.int .i64 ((k + 2 * n + 2 * m + 4 * q : Nat) : Int)) ∧ Below w.heap.size w w' := by
  have HA : Hid (∀ w', Below w.heap.size w w' → Calls Try.prog 74 #[a, .int .i64 (k : Int)] w' fun e w'' => e = .returned (.int .i64 ((k + 2 * n : Nat) : Int)) ∧ Below w'.heap.size w' w'') := fun w' hw => heldFv_any a n k w' (by omega) h1 (by omega) (by
    obtain ⟨p, c, rfl, h⟩ := ha
    exact ⟨p, c, rfl, fun h0 => by obtain ⟨g, rfl, h2, h3⟩ := h h0; exact ⟨g, rfl, Nat.lt_of_lt_of_le h2 hw.size, h3.below hw h2⟩⟩)
  have HB : Hid (∀ w', Below w.heap.size w w' → Calls Try.prog 74 #[b, .int .i64 ((k + 2 * n : Nat) : Int)] w' fun e w'' => e = .returned (.int .i64 ((k + 2 * n + 2 * m : Nat) : Int)) ∧ Below w'.heap.size w' w'') := fun w' hw => heldFv_any b m (k + 2 * n) w' (by omega) (by omega) (by omega) (by
    obtain ⟨p, c, rfl, h⟩ := hb
    exact ⟨p, c, rfl, fun h0 => by obtain ⟨g, rfl, h2, h3⟩ := h h0; exact ⟨g, rfl, Nat.lt_of_lt_of_le h2 hw.size, h3.below hw h2⟩⟩)
  have HC : Hid (∀ w', Below w.heap.size w w' → Calls Try.prog 75 #[c, .int .i64 ((k + 2 * n + 2 * m : Nat) : Int)] w' fun e w'' => e = .returned (.int .i64 ((k + 2 * n + 2 * m + 4 * q : Nat) : Int)) ∧ Below w'.heap.size w' w'') := fun w' hw => heldQv_any c q (k + 2 * n + 2 * m) w' (by omega) (by omega) (by omega) (hc.below hw)
  clear ha hb hc
  obtain ⟨k1, hk1⟩ : ∃ k1, k1 = k + 2 * n := ⟨_, rfl⟩
  obtain ⟨k2, hk2⟩ : ∃ k2, k2 = k1 + 2 * m := ⟨_, rfl⟩
  obtain ⟨k3, hk3⟩ : ∃ k3, k3 = k2 + 4 * q := ⟨_, rfl⟩
  rw [← hk1] at HA HB HC ⊢
  rw [← hk2] at HB HC ⊢
  rw [← hk3] at HC ⊢
  have i1 : ¬ (k1 : Int) < 0 := by omega
  have i2 : ¬ (k2 : Int) < 0 := by omega
  have i3 : ¬ (k3 : Int) < 0 := by omega
  have HB1 : Hid (Below w.heap.size w (w.alloc (.cells #[a, b, c] 27))) := (Below.refl _ _).alloc (Nat.le_refl _) _
  have HX1 : Hid ((w.alloc (.cells #[a, b, c] 27)).heap[w.heap.size]? = some (.cells #[a, b, c] 27 (0, 0))) := heap_alloc_new w _
  clear hk1 hk2 hk3 hn hm hq h1 hk
  go_enter Try.func32, Try.ntmps32
  go_wp2_with fail
  refine (HA.out _ HB1.out).mono ?_
  rintro e w2 ⟨rfl, hb2⟩
  have HX2 := hidF ((hb2.block _ (Array.getElem?_eq_some_iff.1 HX1.out).1).trans HX1.out)
  have HB2 := hidF (blFl HB1.out hb2 HB1.out.size)
  have c1 := cell_of_row _ _ 1 _ _ _ HX2.out
  clear hb2 HX1 HB1
  go_wp2_with fail
  refine (HB.out _ HB2.out).mono ?_
  rintro e w3 ⟨rfl, hb3⟩
  have HX3 := hidF ((hb3.block _ (Array.getElem?_eq_some_iff.1 HX2.out).1).trans HX2.out)
  have HB3 := hidF (blFl HB2.out hb3 HB2.out.size)
  have c2 := cell_of_row _ _ 2 _ _ _ HX3.out
  clear hb3 HX2 HB2 c1
  go_wp2_with fail
  refine (HC.out _ HB3.out).mono ?_
  rintro e w4 ⟨rfl, hb4⟩
  have HB4 := hidF (blFl HB3.out hb4 HB3.out.size)
  clear hb4 HX3 HB3 c2
  go_wp2_with fail
  go_ret
  exact ⟨rfl, HB4.out⟩
set_option maxRecDepth 100000 in
set_option maxHeartbeats 1000000 in
theorem markDkQ_any (a b c : Value) (n m q k : Nat) (w : World) (hn : n ≤ 1048576) (hm : m ≤ 1048576) (hq : q ≤ 1048576) (hs : n + m + q ≤ 1048576) (h1 : 1 ≤ k) (hk : k ≤ 100000) (ha : RwF w a n) (hb : RwF w b m) (hc : RwQ w c q)
    (hl : ∀ g, a.ownBlock = some g ∨ b.ownBlock = some g ∨ c.ownBlock = some g → g < w.heap.size) (hab : ∀ g, a.ownBlock = some g → b.ownBlock ≠ some g ∧ c.ownBlock ≠ some g) (hbc : ∀ g, b.ownBlock = some g → c.ownBlock ≠ some g) :
    Calls Try.prog 31 #[.agg #[a, b, c], .int .i64 (k : Int)] w fun e w' => (e = .returned (.int .i64 ((k + 2 * n + 2 * m + 4 * q : Nat) : Int)) ∧ MkF w' a n k ∧ MkF w' b m (k + 2 * n) ∧ MkQ w' c q (k + 2 * n + 2 * m)) ∧ FrP w w' (fun g => a.ownBlock = some g ∨ b.ownBlock = some g ∨ c.ownBlock = some g) := by
  have HA : Hid (∀ w', RwF w' a n → Calls Try.prog 72 #[a, .int .i64 (k : Int)] w' fun e w'' => (e = .returned (.int .i64 ((k + 2 * n : Nat) : Int)) ∧ MkF w'' a n k) ∧ w'.grownBy w'' a.ownBlock) := fun w' h => markFv_any a n k w' hn h1 (by omega) h
  have HB : Hid (∀ w', RwF w' b m → Calls Try.prog 72 #[b, .int .i64 ((k + 2 * n : Nat) : Int)] w' fun e w'' => (e = .returned (.int .i64 ((k + 2 * n + 2 * m : Nat) : Int)) ∧ MkF w'' b m (k + 2 * n)) ∧ w'.grownBy w'' b.ownBlock) := fun w' h => markFv_any b m (k + 2 * n) w' hm (by omega) (by omega) h
  have HC : Hid (∀ w', RwQ w' c q → Calls Try.prog 73 #[c, .int .i64 ((k + 2 * n + 2 * m : Nat) : Int)] w' fun e w'' => (e = .returned (.int .i64 ((k + 2 * n + 2 * m + 4 * q : Nat) : Int)) ∧ MkQ w'' c q (k + 2 * n + 2 * m)) ∧ w'.grownBy w'' c.ownBlock) := fun w' h => markQw_any c q (k + 2 * n + 2 * m) w' hq (by omega) (by omega) h
  have HL := hidF hl
  have HAB := hidF hab
  have HBC := hidF hbc
  obtain ⟨k1, hk1⟩ : ∃ k1, k1 = k + 2 * n := ⟨_, rfl⟩
  obtain ⟨k2, hk2⟩ : ∃ k2, k2 = k1 + 2 * m := ⟨_, rfl⟩
  obtain ⟨k3, hk3⟩ : ∃ k3, k3 = k2 + 4 * q := ⟨_, rfl⟩
  rw [← hk1] at HA HB HC ⊢
  rw [← hk2] at HB HC ⊢
  rw [← hk3] at HC ⊢
  have hB1 : Below w.heap.size w (w.alloc (.cells #[a, b, c] 27)) := (Below.refl _ _).alloc (Nat.le_refl _) _
  have HX1 : Hid ((w.alloc (.cells #[a, b, c] 27)).heap[w.heap.size]? = some (.cells #[a, b, c] 27 (0, 0))) := heap_alloc_new w _
  have HA1 := hidF (ha.keep fun g hg => hB1.block g (hl g (Or.inl hg)))
  have HB1 := hidF (hb.keep fun g hg => hB1.block g (hl g (Or.inr (Or.inl hg))))
  have HC1 := hidF (hc.keep fun g hg => hB1.block g (hl g (Or.inr (Or.inr hg))))
  have HF1 : Hid (FrP w (w.alloc (.cells #[a, b, c] 27)) (fun g => a.ownBlock = some g ∨ b.ownBlock = some g ∨ c.ownBlock = some g)) := FrP.bel hB1
  have hle := hB1.size
  clear hk1 hk2 hk3 ha hb hc hl hab hbc hB1
  go_enter Try.func31, Try.ntmps31
  go_wp2_with fail
  refine (HA.out _ HA1.out).mono ?_
  rintro e w2 ⟨⟨rfl, hm1⟩, hg1⟩
  have HX2 := hidF ((hg1.block _ (Array.getElem?_eq_some_iff.1 HX1.out).1 (fun c => by have := HL.out _ (Or.inl c.symm); omega)).trans HX1.out)
  have HB2 := hidF (HB1.out.keep fun g hg => hg1.block g (by have := HL.out g (Or.inr (Or.inl hg)); omega) (fun c => (HAB.out g c.symm).1 hg))
  have HC2 := hidF (HC1.out.keep fun g hg => hg1.block g (by have := HL.out g (Or.inr (Or.inr hg)); omega) (fun c => (HAB.out g c.symm).2 hg))
  have HF2 := hidF (HF1.out.grown hg1 fun j h => Or.inl h)
  have HM2 := hidF hm1
  have c1 := cell_of_row _ _ 1 _ _ _ HX2.out
  have hle2 := Nat.le_trans hle hg1.size
  clear hm1 hg1 HX1 HA1 HB1 HC1 HF1
  go_wp2_with fail
  refine (HB.out _ HB2.out).mono ?_
  rintro e w3 ⟨⟨rfl, hm2⟩, hg2⟩
  have HX3 := hidF ((hg2.block _ (Array.getElem?_eq_some_iff.1 HX2.out).1 (fun c => by have := HL.out _ (Or.inr (Or.inl c.symm)); omega)).trans HX2.out)
  have HC3 := hidF (HC2.out.keep fun g hg => hg2.block g (by have := HL.out g (Or.inr (Or.inr hg)); omega) (fun c => HBC.out g c.symm hg))
  have HF3 := hidF (HF2.out.grown hg2 fun j h => Or.inr (Or.inl h))
  have HM3 := hidF (HM2.out.keep fun g hg => hg2.block g (by have := HL.out g (Or.inl hg); omega) (fun c => (HAB.out g hg).1 c.symm))
  have HN3 := hidF hm2
  have c2 := cell_of_row _ _ 2 _ _ _ HX3.out
  have hle3 := Nat.le_trans hle2 hg2.size
  clear hm2 hg2 HX2 HB2 HC2 HF2 HM2 c1
  go_wp2_with fail
  refine (HC.out _ HC3.out).mono ?_
  rintro e w4 ⟨⟨rfl, hm4⟩, hg3⟩
  have HF4 := hidF (HF3.out.grown hg3 fun j h => Or.inr (Or.inr h))
  have HM4 := hidF (HM3.out.keep fun g hg => hg3.block g (by have := HL.out g (Or.inl hg); omega) (fun c => (HAB.out g hg).2 c.symm))
  have HN4 := hidF (HN3.out.keep fun g hg => hg3.block g (by have := HL.out g (Or.inr (Or.inl hg)); omega) (fun c => HBC.out g hg c.symm))
  have HQ4 := hidF hm4
  clear hm4 hg3 HX3 HC3 HF3 HM3 HN3 c2
  go_wp2_with fail
  go_ret
  exact ⟨⟨rfl, HM4.out, HN4.out, HQ4.out⟩, HF4.out⟩
end Go.Proofs.Ytanlggglbpibfaa
