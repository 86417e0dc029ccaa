/-
  What the law makes of a list of tokens that came in.
-/
import Derived.Test.YtnkahdidelhdaanUnS
import Derived.Test.YtnkahdidelhdaanTkMath
import Derived.Laws.MakeOwn
namespace Go.Proofs.Ytnkahdidelhdaan
open Go.RowKit
set_option linter.unusedVariables false
set_option linter.unusedSimpArgs false
def set4 (C : Array Value) (q : Nat) (a b c d : Value) : Array Value := (((C.setIfInBounds q a).setIfInBounds (q + 1) b).setIfInBounds (q + 2) c).setIfInBounds (q + 3) d
theorem set4_size (C : Array Value) (q : Nat) (a b c d : Value) : (set4 C q a b c d).size = C.size := by simp [set4]
theorem set4_low (C : Array Value) (q : Nat) (a b c d : Value) (j : Nat) (h : j < q) : (set4 C q a b c d)[j]? = C[j]? := by
  unfold set4
  rw [Array.getElem?_setIfInBounds_ne (by omega), Array.getElem?_setIfInBounds_ne (by omega), Array.getElem?_setIfInBounds_ne (by omega), Array.getElem?_setIfInBounds_ne (by omega)]
theorem set4_0 (C : Array Value) (q : Nat) (a b c d : Value) (h : q + 3 < C.size) : (set4 C q a b c d)[q]? = some a := by
  unfold set4
  rw [Array.getElem?_setIfInBounds_ne (by omega), Array.getElem?_setIfInBounds_ne (by omega), Array.getElem?_setIfInBounds_ne (by omega), Array.getElem?_setIfInBounds_self_of_lt (by omega)]
theorem set4_1 (C : Array Value) (q : Nat) (a b c d : Value) (h : q + 3 < C.size) : (set4 C q a b c d)[q + 1]? = some b := by
  unfold set4
  rw [Array.getElem?_setIfInBounds_ne (by omega), Array.getElem?_setIfInBounds_ne (by omega), Array.getElem?_setIfInBounds_self_of_lt (by simp; omega)]
theorem set4_2 (C : Array Value) (q : Nat) (a b c d : Value) (h : q + 3 < C.size) : (set4 C q a b c d)[q + 2]? = some c := by
  unfold set4
  rw [Array.getElem?_setIfInBounds_ne (by omega), Array.getElem?_setIfInBounds_self_of_lt (by simp; omega)]
theorem set4_3 (C : Array Value) (q : Nat) (a b c d : Value) (h : q + 3 < C.size) : (set4 C q a b c d)[q + 3]? = some d := by
  unfold set4
  rw [Array.getElem?_setIfInBounds_self_of_lt (by simp; omega)]
def setW4 (w : World) (g q : Nat) (a b c d : Value) : World := (((w.setCell ⟨g, q, none⟩ a).setCell ⟨g, q + 1, none⟩ b).setCell ⟨g, q + 2, none⟩ c).setCell ⟨g, q + 3, none⟩ d
theorem setW4_row {w : World} {g : Nat} {C : Array Value} {t : TypeId} (h : w.heap[g]? = some (.cells C t (0, 0))) (q : Nat) (a b c d : Value) : (setW4 w g q a b c d).heap[g]? = some (.cells (set4 C q a b c d) t (0, 0)) :=
  heap_setCell_same _ _ _ _ _ _ (heap_setCell_same _ _ _ _ _ _ (heap_setCell_same _ _ _ _ _ _ (heap_setCell_same _ _ _ _ _ _ h)))
theorem setW4_below {B : Nat} {w0 w : World} (h : Below B w0 w) {g : Nat} (hg : B ≤ g) (q : Nat) (a b c d : Value) : Below B w0 (setW4 w g q a b c d) :=
  (((h.setCell (p := ⟨g, q, none⟩) hg a).setCell (p := ⟨g, q + 1, none⟩) hg b).setCell (p := ⟨g, q + 2, none⟩) hg c).setCell (p := ⟨g, q + 3, none⟩) hg d
set_option maxRecDepth 100000 in
set_option maxHeartbeats 2000000 in
theorem toTk_some (g off c n : Nat) (F : Nat → TkI) (w : World) (hn : n ≤ 1048576) (hg : g < w.heap.size)
    (h0 : ∀ i, i < n → w.cell? ⟨g, off + i * 4, none⟩ = some (.int .i64 (F i).k)) (h1 : ∀ i, i < n → w.cell? ⟨g, off + i * 4 + 1, none⟩ = some (.int .i64 (F i).b))
    (h2 : ∀ i, i < n → w.cell? ⟨g, off + i * 4 + 2, none⟩ = some (.int .i64 (F i).d)) (h3 : ∀ i, i < n → w.cell? ⟨g, off + i * 4 + 3, none⟩ = some (.int .i64 (F i).l)) :
    Calls Try.prog 13 #[.slice (some ⟨g, off, none⟩) n c] w fun e w' => e = .returned (.slice (some ⟨w.heap.size, 0, none⟩) n n) ∧ TkRow w' w.heap.size n F ∧ Below w.heap.size w w' := by
  have hnI : (n : Int) ≤ 1048576 := by omega
  have HT : Hid (∀ k b d l w, Calls Try.prog 22 #[tokV k b d l] w fun e w' => e = .returned (tokV k b d l) ∧ Below w.heap.size w w') := fun k b d l w => toTok_any k b d l w
  unfold tokV at HT
  have HC : Hid (∀ i, i < n → w.cell? ⟨g, off + i * 4, none⟩ = some (.int .i64 (F i).k) ∧ w.cell? ⟨g, off + i * 4 + 1, none⟩ = some (.int .i64 (F i).b) ∧ w.cell? ⟨g, off + i * 4 + 2, none⟩ = some (.int .i64 (F i).d) ∧ w.cell? ⟨g, off + i * 4 + 3, none⟩ = some (.int .i64 (F i).l)) := fun i hi => ⟨h0 i hi, h1 i hi, h2 i hi, h3 i hi⟩
  clear h0 h1 h2 h3
  obtain ⟨i0, hi0, hz0, hz1, hz2⟩ := info_parts Try.infT
  have hmk := run_make (P := Try.prog) w 22 38 i0 (.agg #[.int .i64 0, .int .i64 0, .int .i64 0, .int .i64 0]) Try.underlying22 hi0 hz0 .i64 .i64 (n : Int) (n : Int) (by omega) (by omega) (by rw [hz2]; omega) (by omega)
  rw [hz1, Int.toNat_natCast] at hmk
  have HZS : Hid ((madeCells (Value.agg #[.int .i64 0, .int .i64 0, .int .i64 0, .int .i64 0]).cells (n * 4)).size = 4 * n) := by
    show (madeCells _ _).size = _
    rw [size_madeCells]; omega
  generalize madeCells (Value.agg #[.int .i64 0, .int .i64 0, .int .i64 0, .int .i64 0]).cells (n * 4) = Z at hmk HZS
  have HU : Hid (Below w.heap.size w (w.alloc (.cells Z 38)) ∧ (w.alloc (.cells Z 38)).heap[w.heap.size]? = some (.cells Z 38 (0, 0))) := ⟨(Below.refl _ _).alloc (Nat.le_refl _) _, heap_alloc_new w _⟩
  go_enter Try.func13, Try.ntmps13
  go_wp2_with fail
  go_loopw [4] (fun v wr => ∃ (i : Nat) (C : Array Value), i ≤ n ∧ v = .int .i64 (i : Int) ∧ C.size = 4 * n ∧ Hid (Below w.heap.size w wr ∧ wr.heap[w.heap.size]? = some (.cells C 38 (0, 0))) ∧ Hid (∀ j, j < i → C[4 * j]? = some (.int .i64 (F j).k) ∧ C[4 * j + 1]? = some (.int .i64 (F j).b) ∧ C[4 * j + 2]? = some (.int .i64 (F j).d) ∧ C[4 * j + 3]? = some (.int .i64 (F j).l))) (fun v _ => n - (lonIntOf v).toNat)
  case atStart => exact ⟨0, Z, by omega, rfl, HZS.out, HU, fun j hj => absurd hj (by omega)⟩
  case round =>
    clear HU
    obtain ⟨i, C, hi, rfl, hcs, HB, HCC⟩ := hrel
    have HCS : Hid (C.size = 4 * n) := hcs
    clear hcs
    by_cases hlt : i < n
    · have hltI : (i : Int) < (n : Int) := by omega
      obtain ⟨x0, x1, x2, x3⟩ := HC.out i hlt
      rw [← HB.out.1.cell (p := ⟨g, off + i * 4, none⟩) hg] at x0
      rw [← HB.out.1.cell (p := ⟨g, off + i * 4 + 1, none⟩) hg] at x1
      rw [← HB.out.1.cell (p := ⟨g, off + i * 4 + 2, none⟩) hg] at x2
      rw [← HB.out.1.cell (p := ⟨g, off + i * 4 + 3, none⟩) hg] at x3
      go_wp2_with fail
      refine (HT.out _ _ _ _ _).mono ?_
      rintro e w3 ⟨rfl, hb3⟩
      have hsz := HCS.out
      have hrow : w3.heap[w.heap.size]? = some (.cells C 38 (0, 0)) := (hb3.block _ (Array.getElem?_eq_some_iff.1 HB.out.2).1).trans HB.out.2
      have hbw : Below w.heap.size w w3 := bl_trans3 HB.out.1 hb3 HB.out.1.size
      obtain ⟨q, hq⟩ : ∃ q, q = 4 * i := ⟨_, rfl⟩
      have hiq : i * 4 = q := by omega
      have HQ : Hid (q = 4 * i) := hq
      have HB3 : Hid (Below w.heap.size w w3 ∧ w3.heap[w.heap.size]? = some (.cells C 38 (0, 0))) := ⟨hbw, hrow⟩
      have y0 : w3.cell? ⟨w.heap.size, q, none⟩ = some C[q] := (cell_of_row w3 _ q _ _ _ hrow).trans (Array.getElem?_eq_getElem (by omega))
      have y1 : w3.cell? ⟨w.heap.size, q + 1, none⟩ = some C[q + 1] := (cell_of_row w3 _ (q + 1) _ _ _ hrow).trans (Array.getElem?_eq_getElem (by omega))
      have y2 : w3.cell? ⟨w.heap.size, q + 2, none⟩ = some C[q + 2] := (cell_of_row w3 _ (q + 2) _ _ _ hrow).trans (Array.getElem?_eq_getElem (by omega))
      have y3 : w3.cell? ⟨w.heap.size, q + 3, none⟩ = some C[q + 3] := (cell_of_row w3 _ (q + 3) _ _ _ hrow).trans (Array.getElem?_eq_getElem (by omega))
      have z0 := frozen_of_row w3 _ q _ _ hrow
      have z1 := frozen_of_row w3 _ (q + 1) _ _ hrow
      have z2 := frozen_of_row w3 _ (q + 2) _ _ hrow
      have z3 := frozen_of_row w3 _ (q + 3) _ _ hrow
      have HN : Hid (Below w.heap.size w (setW4 w3 w.heap.size q (.int .i64 (F i).k) (.int .i64 (F i).b) (.int .i64 (F i).d) (.int .i64 (F i).l)) ∧ (setW4 w3 w.heap.size q (.int .i64 (F i).k) (.int .i64 (F i).b) (.int .i64 (F i).d) (.int .i64 (F i).l)).heap[w.heap.size]? = some (.cells (set4 C q (.int .i64 (F i).k) (.int .i64 (F i).b) (.int .i64 (F i).d) (.int .i64 (F i).l)) 38 (0, 0))) :=
        ⟨setW4_below hbw (Nat.le_refl _) _ _ _ _ _, setW4_row hrow _ _ _ _ _⟩
      have HN2 : Hid (∀ j, j < i + 1 → (set4 C q (.int .i64 (F i).k) (.int .i64 (F i).b) (.int .i64 (F i).d) (.int .i64 (F i).l))[4 * j]? = some (.int .i64 (F j).k) ∧ (set4 C q (.int .i64 (F i).k) (.int .i64 (F i).b) (.int .i64 (F i).d) (.int .i64 (F i).l))[4 * j + 1]? = some (.int .i64 (F j).b) ∧ (set4 C q (.int .i64 (F i).k) (.int .i64 (F i).b) (.int .i64 (F i).d) (.int .i64 (F i).l))[4 * j + 2]? = some (.int .i64 (F j).d) ∧ (set4 C q (.int .i64 (F i).k) (.int .i64 (F i).b) (.int .i64 (F i).d) (.int .i64 (F i).l))[4 * j + 3]? = some (.int .i64 (F j).l)) := fun j hj => by
        by_cases hji : j < i
        · rw [set4_low _ _ _ _ _ _ _ (by omega), set4_low _ _ _ _ _ _ _ (by omega), set4_low _ _ _ _ _ _ _ (by omega), set4_low _ _ _ _ _ _ _ (by omega)]
          exact HCC.out j hji
        · obtain rfl : j = i := by omega
          rw [← hq]
          exact ⟨set4_0 _ _ _ _ _ _ (by omega), set4_1 _ _ _ _ _ _ (by omega), set4_2 _ _ _ _ _ _ (by omega), set4_3 _ _ _ _ _ _ (by omega)⟩
      generalize C[q] = u0 at y0
      generalize C[q + 1] = u1 at y1
      generalize C[q + 2] = u2 at y2
      generalize C[q + 3] = u3 at y3
      clear hsz hrow hbw hb3 x0 x1 x2 x3 hq HB
      go_wp2_with fail
      go_roundw
      case rel => exact ⟨i + 1, _, by omega, by go_num, (set4_size _ _ _ _ _ _).trans HCS.out, HN, HN2⟩
      case measure => simp [lonIntOf]; omega
    · obtain rfl : i = n := by omega
      go_wp2_with fail
      go_ret
      have hr := HB.out.2
      exact ⟨rfl, ⟨(Array.getElem?_eq_some_iff.1 hr).1, fun j hj => (cell_of_row wr _ _ _ _ _ hr).trans (HCC.out j hj).1, fun j hj => (cell_of_row wr _ _ _ _ _ hr).trans (HCC.out j hj).2.1, fun j hj => (cell_of_row wr _ _ _ _ _ hr).trans (HCC.out j hj).2.2.1, fun j hj => (cell_of_row wr _ _ _ _ _ hr).trans (HCC.out j hj).2.2.2⟩, HB.out.1⟩
set_option maxRecDepth 100000 in
theorem toTk_zero (a : Option Addr) (c : Nat) (w : World) :
    Calls Try.prog 13 #[.slice a 0 c] w fun e w' => (∃ b, e = .returned (.slice b 0 0)) ∧ Below w.heap.size w w' := by
  obtain ⟨i0, hi0, hz0, hz1, hz2⟩ := info_parts Try.infT
  have hmk := run_make (P := Try.prog) w 22 38 i0 (.agg #[.int .i64 0, .int .i64 0, .int .i64 0, .int .i64 0]) Try.underlying22 hi0 hz0 .i64 .i64 0 0 (by omega) (by omega) (by rw [hz2]; omega) (by omega)
  rw [hz1] at hmk
  generalize madeCells (Value.agg #[.int .i64 0, .int .i64 0, .int .i64 0, .int .i64 0]).cells _ = Z at hmk
  go_enter Try.func13, Try.ntmps13
  go_wp2_with fail
  refine wp_loop_rounds 1 ?_
  rw [rounds_succ]
  go_wp2_with fail
  go_ret
  exact ⟨⟨_, rfl⟩, (Below.refl _ _).alloc (Nat.le_refl _) _⟩
set_option maxRecDepth 100000 in
theorem szTk_no (a : Option Addr) (n c : Nat) (w : World) (hn : 1048576 < n) (hm : n ≤ maxLen) :
    Calls Try.prog 11 #[.slice a n c, .int .i64 1048576] w fun e w' => e = .returned (.int .i64 (-1)) ∧ w' = w := by
  have hm' : n ≤ 9223372036854775807 := hm
  have hw : IntKind.i64.wrap (1048576 - (n : Int)) = 1048576 - (n : Int) := by rw [IntKind.wrap_i64]; omega
  have hl : (1048576 : Int) - (n : Int) < 0 := by omega
  go_enter Try.func11, Try.ntmps11
  go_wp2_with fail
  go_ret
  exact ⟨rfl, rfl⟩
set_option maxRecDepth 100000 in
theorem szTk_yes (a : Option Addr) (n c : Nat) (w : World) (hn : n ≤ 1048576) :
    Calls Try.prog 11 #[.slice a n c, .int .i64 1048576] w fun e w' => e = .returned (.int .i64 ((1048576 - n : Nat) : Int)) ∧ w' = w := by
  have hw : IntKind.i64.wrap (1048576 - (n : Int)) = ((1048576 - n : Nat) : Int) := by rw [IntKind.wrap_i64]; omega
  have hl : ¬ ((1048576 - n : Nat) : Int) < 0 := by omega
  go_enter Try.func11, Try.ntmps11
  go_wp2_with fail
  go_ret
  exact ⟨rfl, rfl⟩
/-- a list of tokens that came in -/
structure TkIn (w : World) (v : Value) (n : Nat) (F : Nat → TkI) : Prop where
  form : ∃ a c, v = .slice a n c ∧ (0 < n → ∃ g off, a = some ⟨g, off, none⟩ ∧ g < w.heap.size ∧ ∀ i, i < n → w.cell? ⟨g, off + i * 4, none⟩ = some (.int .i64 (F i).k) ∧ w.cell? ⟨g, off + i * 4 + 1, none⟩ = some (.int .i64 (F i).b) ∧ w.cell? ⟨g, off + i * 4 + 2, none⟩ = some (.int .i64 (F i).d) ∧ w.cell? ⟨g, off + i * 4 + 3, none⟩ = some (.int .i64 (F i).l))
theorem TkIn.below {w w' : World} {v : Value} {n : Nat} {F : Nat → TkI} (h : TkIn w v n F) (hb : Below w.heap.size w w') : TkIn w' v n F := by
  obtain ⟨a, c, h1, h2⟩ := h.form
  exact ⟨a, c, h1, fun h0 => by
    obtain ⟨g, off, h3, h4, h5⟩ := h2 h0
    refine ⟨g, off, h3, Nat.lt_of_lt_of_le h4 hb.size, fun i hi => ?_⟩
    rw [hb.cell (p := ⟨g, off + i * 4, none⟩) h4, hb.cell (p := ⟨g, off + i * 4 + 1, none⟩) h4, hb.cell (p := ⟨g, off + i * 4 + 2, none⟩) h4, hb.cell (p := ⟨g, off + i * 4 + 3, none⟩) h4]
    exact h5 i hi⟩
theorem toTk_any (v : Value) (n : Nat) (F : Nat → TkI) (w : World) (hn : n ≤ 1048576) (h : TkIn w v n F) :
    Calls Try.prog 13 #[v] w fun e w' => (∃ v', e = .returned v' ∧ TkArg w' v' n F) ∧ Below w.heap.size w w' := by
  obtain ⟨a, c, rfl, hr⟩ := h.form
  by_cases h0 : 0 < n
  · obtain ⟨g, off, rfl, hg, hx⟩ := hr h0
    refine (toTk_some g off c n F w hn hg (fun i hi => (hx i hi).1) (fun i hi => (hx i hi).2.1) (fun i hi => (hx i hi).2.2.1) (fun i hi => (hx i hi).2.2.2)).mono ?_
    rintro e w' ⟨rfl, hrow, hb⟩
    exact ⟨⟨_, rfl, _, _, rfl, fun _ => ⟨_, rfl, hrow⟩⟩, hb⟩
  · obtain rfl : n = 0 := by omega
    refine (toTk_zero a c w).mono ?_
    rintro e w' ⟨⟨b, rfl⟩, hb⟩
    exact ⟨⟨_, rfl, _, _, rfl, fun h => absurd h (by omega)⟩, hb⟩
end Go.Proofs.Ytnkahdidelhdaan
