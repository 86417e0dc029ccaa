/-
  Several texts of this seat as one: ToPc, PcL, LonH.
-/
import Derived.Test.YtpeddaljgmkomaaPk00
import Derived.Laws.AppendOwn
import Derived.OwnWalk
import Derived.Test.YtpeddaljgmkomaaRows
import Derived.WalkKit
import Derived.OrdersHeld

/-!   What the law makes of a list of pieces that came in; how much they hold; that two lists made of the same are alike. -/
namespace Go.Proofs.Ytpeddaljgmkomaa
open Go.RowKit
set_option linter.unusedVariables false
set_option linter.unusedSimpArgs false
def set3 (C : Array Value) (q : Nat) (a b c : Value) : Array Value := ((C.setIfInBounds q a).setIfInBounds (q + 1) b).setIfInBounds (q + 2) c
theorem set3_size (C : Array Value) (q : Nat) (a b c : Value) : (set3 C q a b c).size = C.size := by simp [set3]
theorem set3_low (C : Array Value) (q : Nat) (a b c : Value) (j : Nat) (h : j < q) : (set3 C q a b c)[j]? = C[j]? := by
  unfold set3
  rw [Array.getElem?_setIfInBounds_ne (by omega), Array.getElem?_setIfInBounds_ne (by omega), Array.getElem?_setIfInBounds_ne (by omega)]
theorem set3_0 (C : Array Value) (q : Nat) (a b c : Value) (h : q + 2 < C.size) : (set3 C q a b c)[q]? = some a := by
  unfold set3
  rw [Array.getElem?_setIfInBounds_ne (by omega), Array.getElem?_setIfInBounds_ne (by omega), Array.getElem?_setIfInBounds_self_of_lt (by omega)]
theorem set3_1 (C : Array Value) (q : Nat) (a b c : Value) (h : q + 2 < C.size) : (set3 C q a b c)[q + 1]? = some b := by
  unfold set3
  rw [Array.getElem?_setIfInBounds_ne (by omega), Array.getElem?_setIfInBounds_self_of_lt (by simp; omega)]
theorem set3_2 (C : Array Value) (q : Nat) (a b c : Value) (h : q + 2 < C.size) : (set3 C q a b c)[q + 2]? = some c := by
  unfold set3
  rw [Array.getElem?_setIfInBounds_self_of_lt (by simp; omega)]
def setW3 (w : World) (g q : Nat) (a b c : Value) : World := ((w.setCell ⟨g, q, none⟩ a).setCell ⟨g, q + 1, none⟩ b).setCell ⟨g, q + 2, none⟩ c
theorem setW3_row {w : World} {g : Nat} {C : Array Value} {t : TypeId} (h : w.heap[g]? = some (.cells C t (0, 0))) (q : Nat) (a b c : Value) : (setW3 w g q a b c).heap[g]? = some (.cells (set3 C q a b c) t (0, 0)) :=
  heap_setCell_same _ _ _ _ _ _ (heap_setCell_same _ _ _ _ _ _ (heap_setCell_same _ _ _ _ _ _ h))
theorem setW3_below {B : Nat} {w0 w : World} (h : Below B w0 w) {g : Nat} (hg : B ≤ g) (q : Nat) (a b c : Value) : Below B w0 (setW3 w g q a b c) :=
  ((h.setCell (p := ⟨g, q, none⟩) hg a).setCell (p := ⟨g, q + 1, none⟩) hg b).setCell (p := ⟨g, q + 2, none⟩) hg c
theorem setW3_other (w : World) (g q : Nat) (a b c : Value) {k : Nat} (h : k ≠ g) : (setW3 w g q a b c).heap[k]? = w.heap[k]? := by
  unfold setW3
  rw [heap_setCell_other _ _ _ _ h, heap_setCell_other _ _ _ _ h, heap_setCell_other _ _ _ _ h]
/-- pieces in memory, from a row's begin -/
structure PcRow (w : World) (g n : Nat) (F : Nat → PcI) : Prop where
  lt : g < w.heap.size
  c0 : ∀ i, i < n → w.cell? ⟨g, 3 * i, none⟩ = some (.int .i64 (F i).f)
  c1 : ∀ i, i < n → w.cell? ⟨g, 3 * i + 1, none⟩ = some (.int .i64 (F i).l)
  c2 : ∀ i, i < n → w.cell? ⟨g, 3 * i + 2, none⟩ = some (.string (F i).d)
theorem PcRow.below {w w' : World} {g n B : Nat} {F : Nat → PcI} (h : PcRow w g n F) (hb : Below B w w') (hg : g < B) : PcRow w' g n F :=
  ⟨Nat.lt_of_lt_of_le h.lt hb.size, fun i hi => (hb.cell (p := ⟨g, 3 * i, none⟩) hg).trans (h.c0 i hi), fun i hi => (hb.cell (p := ⟨g, 3 * i + 1, none⟩) hg).trans (h.c1 i hi), fun i hi => (hb.cell (p := ⟨g, 3 * i + 2, none⟩) hg).trans (h.c2 i hi)⟩
def PcArg (w : World) (v : Value) (n : Nat) (F : Nat → PcI) : Prop := ∃ a c, v = .slice a n c ∧ (0 < n → ∃ g, a = some ⟨g, 0, none⟩ ∧ PcRow w g n F)
theorem PcArg.below {w w' : World} {v : Value} {n : Nat} {F : Nat → PcI} (h : PcArg w v n F) (hb : Below w.heap.size w w') : PcArg w' v n F := by
  obtain ⟨a, c, h1, h2⟩ := h
  exact ⟨a, c, h1, fun h0 => by obtain ⟨g, h3, h4⟩ := h2 h0; exact ⟨g, h3, h4.below hb h4.lt⟩⟩
/-- a list of pieces that came in -/
structure PcIn (w : World) (v : Value) (n : Nat) (F : Nat → PcI) : Prop where
  form : ∃ a c, v = .slice a n c ∧ (0 < n → ∃ g off, a = some ⟨g, off, none⟩ ∧ g < w.heap.size ∧ ∀ i, i < n → w.cell? ⟨g, off + i * 3, none⟩ = some (.int .i64 (F i).f) ∧ w.cell? ⟨g, off + i * 3 + 1, none⟩ = some (.int .i64 (F i).l) ∧ w.cell? ⟨g, off + i * 3 + 2, none⟩ = some (.string (F i).d))
theorem PcIn.below {w w' : World} {v : Value} {n : Nat} {F : Nat → PcI} (h : PcIn w v n F) (hb : Below w.heap.size w w') : PcIn w' v n F := by
  obtain ⟨a, c, h1, h2⟩ := h.form
  exact ⟨a, c, h1, fun h0 => by
    obtain ⟨g, off, h3, h4, h5⟩ := h2 h0
    refine ⟨g, off, h3, Nat.lt_of_lt_of_le h4 hb.size, fun i hi => ?_⟩
    rw [hb.cell (p := ⟨g, off + i * 3, none⟩) h4, hb.cell (p := ⟨g, off + i * 3 + 1, none⟩) h4, hb.cell (p := ⟨g, off + i * 3 + 2, none⟩) h4]
    exact h5 i hi⟩
set_option maxRecDepth 100000 in
set_option maxHeartbeats 2000000 in
theorem toPcS_some (g off c n : Nat) (F : Nat → PcI) (w : World) (hn : n ≤ 1048576) (hg : g < w.heap.size)
    (h0 : ∀ i, i < n → w.cell? ⟨g, off + i * 3, none⟩ = some (.int .i64 (F i).f) ∧ w.cell? ⟨g, off + i * 3 + 1, none⟩ = some (.int .i64 (F i).l) ∧ w.cell? ⟨g, off + i * 3 + 2, none⟩ = some (.string (F i).d)) :
    Calls Try.prog 70 #[.slice (some ⟨g, off, none⟩) n c] w fun e w' => e = .returned (.slice (some ⟨w.heap.size, 0, none⟩) n n) ∧ PcRow w' w.heap.size n F ∧ Below w.heap.size w w' := by
  have hnI : (n : Int) ≤ 1048576 := by omega
  have HT : Hid (∀ f l d w, Calls Try.prog 94 #[pcV f l d] w fun e w' => e = .returned (pcV f l d) ∧ Below w.heap.size w w') := fun f l d w => toPc_any f l d w
  unfold pcV at HT
  have HC : Hid _ := h0
  clear h0
  obtain ⟨i0, hi0, hz0, hz1, hz2⟩ := info_parts Try.infP
  have hmk := run_make (P := Try.prog) w 52 89 i0 (.agg #[.int .i64 0, .int .i64 0, .string ⟨#[]⟩]) Try.underlying52 hi0 hz0 .i64 .i64 (n : Int) (n : Int) (by omega) (by omega) (by rw [hz2]; omega) (by omega)
  rw [hz1, Int.toNat_natCast] at hmk
  have HZS : Hid ((madeCells (Value.agg #[.int .i64 0, .int .i64 0, .string ⟨#[]⟩]).cells (n * 3)).size = 3 * n) := by
    show (madeCells _ _).size = _
    rw [size_madeCells]; omega
  generalize madeCells (Value.agg #[.int .i64 0, .int .i64 0, .string ⟨#[]⟩]).cells (n * 3) = Z at hmk HZS
  have HU : Hid (Below w.heap.size w (w.alloc (.cells Z 89)) ∧ (w.alloc (.cells Z 89)).heap[w.heap.size]? = some (.cells Z 89 (0, 0))) := ⟨(Below.refl _ _).alloc (Nat.le_refl _) _, heap_alloc_new w _⟩
  go_enter Try.func70, Try.ntmps70
  go_wp2_with fail
  go_loopw [4] (fun v wr => ∃ (i : Nat) (C : Array Value), i ≤ n ∧ v = .int .i64 (i : Int) ∧ C.size = 3 * n ∧ Hid (Below w.heap.size w wr ∧ wr.heap[w.heap.size]? = some (.cells C 89 (0, 0))) ∧ Hid (∀ j, j < i → C[3 * j]? = some (.int .i64 (F j).f) ∧ C[3 * j + 1]? = some (.int .i64 (F j).l) ∧ C[3 * j + 2]? = some (.string (F j).d))) (fun v _ => n - (intN v).toNat)
  case atStart => exact ⟨0, Z, by omega, rfl, HZS.out, HU, fun j hj => absurd hj (by omega)⟩
  case round =>
    clear HU
    obtain ⟨i, C, hi, rfl, hcs, HB, HCC⟩ := hrel
    have HCS : Hid (C.size = 3 * n) := hcs
    clear hcs
    by_cases hlt : i < n
    · have hltI : (i : Int) < (n : Int) := by omega
      obtain ⟨x0, x1, x2⟩ := HC.out i hlt
      rw [← HB.out.1.cell (p := ⟨g, off + i * 3, none⟩) hg] at x0
      rw [← HB.out.1.cell (p := ⟨g, off + i * 3 + 1, none⟩) hg] at x1
      rw [← HB.out.1.cell (p := ⟨g, off + i * 3 + 2, none⟩) hg] at x2
      go_wp2_with fail
      refine (HT.out _ _ _ _).mono ?_
      rintro e w3 ⟨rfl, hb3⟩
      have hsz := HCS.out
      have hrow : w3.heap[w.heap.size]? = some (.cells C 89 (0, 0)) := (hb3.block _ (Array.getElem?_eq_some_iff.1 HB.out.2).1).trans HB.out.2
      have hbw : Below w.heap.size w w3 := bl3 HB.out.1 hb3 HB.out.1.size
      obtain ⟨q, hq⟩ : ∃ q, q = 3 * i := ⟨_, rfl⟩
      have hiq : i * 3 = q := by omega
      have HQ : Hid (q = 3 * i) := hq
      have HB3 : Hid (Below w.heap.size w w3 ∧ w3.heap[w.heap.size]? = some (.cells C 89 (0, 0))) := ⟨hbw, hrow⟩
      have y0 : w3.cell? ⟨w.heap.size, q, none⟩ = some C[q] := (cell_of_row w3 _ q _ _ _ hrow).trans (Array.getElem?_eq_getElem (by omega))
      have y1 : w3.cell? ⟨w.heap.size, q + 1, none⟩ = some C[q + 1] := (cell_of_row w3 _ (q + 1) _ _ _ hrow).trans (Array.getElem?_eq_getElem (by omega))
      have y2 : w3.cell? ⟨w.heap.size, q + 2, none⟩ = some C[q + 2] := (cell_of_row w3 _ (q + 2) _ _ _ hrow).trans (Array.getElem?_eq_getElem (by omega))
      have z0 := frozen_of_row w3 _ q _ _ hrow
      have z1 := frozen_of_row w3 _ (q + 1) _ _ hrow
      have z2 := frozen_of_row w3 _ (q + 2) _ _ hrow
      have HN : Hid (Below w.heap.size w (setW3 w3 w.heap.size q (.int .i64 (F i).f) (.int .i64 (F i).l) (.string (F i).d)) ∧ (setW3 w3 w.heap.size q (.int .i64 (F i).f) (.int .i64 (F i).l) (.string (F i).d)).heap[w.heap.size]? = some (.cells (set3 C q (.int .i64 (F i).f) (.int .i64 (F i).l) (.string (F i).d)) 89 (0, 0))) :=
        ⟨setW3_below hbw (Nat.le_refl _) _ _ _ _, setW3_row hrow _ _ _ _⟩
      have HN2 : Hid (∀ j, j < i + 1 → (set3 C q (.int .i64 (F i).f) (.int .i64 (F i).l) (.string (F i).d))[3 * j]? = some (.int .i64 (F j).f) ∧ (set3 C q (.int .i64 (F i).f) (.int .i64 (F i).l) (.string (F i).d))[3 * j + 1]? = some (.int .i64 (F j).l) ∧ (set3 C q (.int .i64 (F i).f) (.int .i64 (F i).l) (.string (F i).d))[3 * j + 2]? = some (.string (F j).d)) := fun j hj => by
        by_cases hji : j < i
        · rw [set3_low _ _ _ _ _ _ (by omega), set3_low _ _ _ _ _ _ (by omega), set3_low _ _ _ _ _ _ (by omega)]
          exact HCC.out j hji
        · obtain rfl : j = i := by omega
          rw [← hq]
          exact ⟨set3_0 _ _ _ _ _ (by omega), set3_1 _ _ _ _ _ (by omega), set3_2 _ _ _ _ _ (by omega)⟩
      generalize C[q] = u0 at y0
      generalize C[q + 1] = u1 at y1
      generalize C[q + 2] = u2 at y2
      clear hsz hrow hbw hb3 x0 x1 x2 hq HB
      go_wp2_with fail
      go_roundw
      case rel => exact ⟨i + 1, _, by omega, by go_num, (set3_size _ _ _ _ _).trans HCS.out, HN, HN2⟩
      case measure => simp [intN]; omega
    · obtain rfl : i = n := by omega
      go_wp2_with fail
      go_ret
      have hr := HB.out.2
      exact ⟨rfl, ⟨(Array.getElem?_eq_some_iff.1 hr).1, fun j hj => (cell_of_row wr _ _ _ _ _ hr).trans (HCC.out j hj).1, fun j hj => (cell_of_row wr _ _ _ _ _ hr).trans (HCC.out j hj).2.1, fun j hj => (cell_of_row wr _ _ _ _ _ hr).trans (HCC.out j hj).2.2⟩, HB.out.1⟩
set_option maxRecDepth 100000 in
theorem toPcS_zero (a : Option Addr) (c : Nat) (w : World) :
    Calls Try.prog 70 #[.slice a 0 c] w fun e w' => (∃ b, e = .returned (.slice b 0 0)) ∧ Below w.heap.size w w' := by
  obtain ⟨i0, hi0, hz0, hz1, hz2⟩ := info_parts Try.infP
  have hmk := run_make (P := Try.prog) w 52 89 i0 (.agg #[.int .i64 0, .int .i64 0, .string ⟨#[]⟩]) Try.underlying52 hi0 hz0 .i64 .i64 0 0 (by omega) (by omega) (by rw [hz2]; omega) (by omega)
  rw [hz1] at hmk
  generalize madeCells (Value.agg #[.int .i64 0, .int .i64 0, .string ⟨#[]⟩]).cells _ = Z at hmk
  go_enter Try.func70, Try.ntmps70
  go_wp2_with fail
  refine wp_loop_rounds 1 ?_
  rw [rounds_succ]
  go_wp2_with fail
  go_ret
  exact ⟨⟨_, rfl⟩, (Below.refl _ _).alloc (Nat.le_refl _) _⟩
theorem toPcS_any (v : Value) (n : Nat) (F : Nat → PcI) (w : World) (hn : n ≤ 1048576) (h : PcIn w v n F) :
    Calls Try.prog 70 #[v] w fun e w' => (∃ v', e = .returned v' ∧ PcArg w' v' n F) ∧ Below w.heap.size w w' := by
  obtain ⟨a, c, rfl, hr⟩ := h.form
  by_cases h0 : 0 < n
  · obtain ⟨g, off, rfl, hg, hx⟩ := hr h0
    refine (toPcS_some g off c n F w hn hg hx).mono ?_
    rintro e w' ⟨rfl, hrow, hb⟩
    exact ⟨⟨_, rfl, _, _, rfl, fun _ => ⟨_, rfl, hrow⟩⟩, hb⟩
  · obtain rfl : n = 0 := by omega
    refine (toPcS_zero a c w).mono ?_
    rintro e w' ⟨⟨b, rfl⟩, hb⟩
    exact ⟨⟨_, rfl, _, _, rfl, fun h => absurd h (by omega)⟩, hb⟩
/-- how much the data of the first pieces are -/
def pcTot (F : Nat → PcI) : Nat → Nat
  | 0 => 0
  | i + 1 => pcTot F i + (F i).d.size
theorem pcTot_mono (F : Nat → PcI) {i n : Nat} (h : i ≤ n) : pcTot F i ≤ pcTot F n := by
  induction n with
  | zero =>
    obtain rfl : i = 0 := by omega
    exact Nat.le_refl _
  | succ n ih =>
    by_cases e : i = n + 1
    · subst e; exact Nat.le_refl _
    · exact Nat.le_trans (ih (by omega)) (Nat.le_add_right _ _)
theorem pcTot_one (F : Nat → PcI) {i n : Nat} (h : i < n) : (F i).d.size ≤ pcTot F n :=
  Nat.le_trans (Nat.le_add_left _ _) (pcTot_mono F (i := i + 1) (n := n) h)
def szV (L x : Nat) : Value := .int .i64 (if x ≤ L then ((L - x : Nat) : Int) else -1)
set_option maxRecDepth 100000 in
set_option maxHeartbeats 1000000 in
theorem szPcS_some (g off c n L : Nat) (F : Nat → PcI) (w : World) (hL : L ≤ 1048576) (hn : n ≤ L) (hd : ∀ i, i < n → (F i).d.size ≤ maxLen) (hg : g < w.heap.size)
    (h0 : ∀ i, i < n → w.cell? ⟨g, off + i * 3, none⟩ = some (.int .i64 (F i).f) ∧ w.cell? ⟨g, off + i * 3 + 1, none⟩ = some (.int .i64 (F i).l) ∧ w.cell? ⟨g, off + i * 3 + 2, none⟩ = some (.string (F i).d)) :
    Calls Try.prog 67 #[.slice (some ⟨g, off, none⟩) n c, .int .i64 (L : Int)] w fun e w' => e = .returned (szV L (n + pcTot F n)) ∧ Below w.heap.size w w' := by
  have HZ : Hid (∀ f l d (L : Nat) w, d.size ≤ maxLen → L ≤ 1048576 → Calls Try.prog 93 #[pcV f l d, .int .i64 (L : Int)] w fun e w' => e = .returned (.int .i64 (if d.size ≤ L then ((L - d.size : Nat) : Int) else -1)) ∧ Below w.heap.size w w') := fun f l d L w h1 h2 => szPc_any f l d L w h1 h2
  unfold pcV at HZ
  have HC : Hid _ := h0
  have HD : Hid (∀ i, i < n → (F i).d.size ≤ maxLen) := hd
  have hw : IntKind.i64.wrap ((L : Int) - (n : Int)) = ((L - n : Nat) : Int) := by rw [IntKind.wrap_i64]; omega
  have hl : ¬ ((L - n : Nat) : Int) < 0 := by omega
  clear h0 hd
  go_enter Try.func67, Try.ntmps67
  go_wp2_with fail
  go_loopw [1, 5] (fun u v wr => ∃ (i : Nat), i ≤ n ∧ v = .int .i64 (i : Int) ∧ u = .int .i64 ((L - n - pcTot F i : Nat) : Int) ∧ n + pcTot F i ≤ L ∧ Hid (Below w.heap.size w wr)) (fun _ v _ => n - (intN v).toNat)
  case atStart => exact ⟨0, by omega, rfl, rfl, by show n + 0 ≤ L; omega, Below.refl _ _⟩
  case round =>
    obtain ⟨i, hi, rfl, rfl, hle, HB⟩ := hrel
    by_cases hlt : i < n
    · have hltI : (i : Int) < (n : Int) := by omega
      obtain ⟨x0, x1, x2⟩ := HC.out i hlt
      rw [← HB.out.cell (p := ⟨g, off + i * 3, none⟩) hg] at x0
      rw [← HB.out.cell (p := ⟨g, off + i * 3 + 1, none⟩) hg] at x1
      rw [← HB.out.cell (p := ⟨g, off + i * 3 + 2, none⟩) hg] at x2
      have HSS : Hid (pcTot F (i + 1) = pcTot F i + (F i).d.size) := rfl
      obtain ⟨R, hR⟩ : ∃ R, R = L - n - pcTot F i := ⟨_, rfl⟩
      rw [← hR]
      have HR : Hid (R = L - n - pcTot F i ∧ n + pcTot F i ≤ L) := ⟨hR, hle⟩
      have hRL : R ≤ 1048576 := by omega
      have hdi := HD.out i hlt
      have HM : Hid (n + pcTot F (i + 1) ≤ n + pcTot F n) := Nat.add_le_add_left (pcTot_mono F (by omega)) n
      clear hR hle
      go_wp2_with fail
      refine (HZ.out _ _ _ R _ hdi hRL).mono ?_
      rintro e w3 ⟨rfl, hb3⟩
      have HB3 : Hid (Below w.heap.size w w3) := bl3 HB.out hb3 HB.out.size
      clear hb3 x0 x1 x2 HB
      by_cases hq : (F i).d.size ≤ R
      · rw [if_pos hq]
        have hnn : ¬ ((R - (F i).d.size : Nat) : Int) < 0 := by omega
        have HQ : Hid ((F i).d.size ≤ R) := hq
        obtain ⟨R2, hR2⟩ : ∃ R2, R2 = R - (F i).d.size := ⟨_, rfl⟩
        rw [← hR2] at hnn ⊢
        have HR2 : Hid (R2 = R - (F i).d.size) := hR2
        clear hR2 hq hdi
        go_wp2_with fail
        go_roundw
        case rel => exact ⟨i + 1, by omega, by go_num, by rw [HSS.out, HR2.out, HR.out.1, Nat.sub_sub (L - n)], by have := HR.out; have := HQ.out; rw [HSS.out]; omega, HB3⟩
        case measure => simp [intN]; omega
      · rw [if_neg hq]
        have HQ : Hid (¬ (F i).d.size ≤ R) := hq
        clear hq hdi
        go_wp2_with fail
        go_ret
        have h1 := HQ.out
        have h2 := HR.out
        have h3 := HM.out
        have h4 := HSS.out
        refine ⟨?_, HB3.out⟩
        unfold szV
        rw [if_neg (by omega)]
        rfl
    · obtain rfl : i = n := by omega
      go_wp2_with fail
      go_ret
      refine ⟨?_, HB.out⟩
      unfold szV
      rw [if_pos hle, Nat.sub_sub]
      rfl
set_option maxRecDepth 100000 in
theorem szPcS_no (a : Option Addr) (n c L : Nat) (w : World) (hL : L ≤ 1048576) (hn : L < n) (hm : n ≤ maxLen) :
    Calls Try.prog 67 #[.slice a n c, .int .i64 (L : Int)] w fun e w' => e = .returned (.int .i64 (-1)) ∧ w' = w := by
  have hm' : n ≤ 9223372036854775807 := hm
  have hw : IntKind.i64.wrap ((L : Int) - (n : Int)) = (L : Int) - (n : Int) := by rw [IntKind.wrap_i64]; omega
  have hl : (L : Int) - (n : Int) < 0 := by omega
  go_enter Try.func67, Try.ntmps67
  go_wp2_with fail
  go_ret
  exact ⟨rfl, rfl⟩
set_option maxRecDepth 100000 in
theorem szPcS_zero (a : Option Addr) (c L : Nat) (w : World) (hL : L ≤ 1048576) :
    Calls Try.prog 67 #[.slice a 0 c, .int .i64 (L : Int)] w fun e w' => e = .returned (.int .i64 (L : Int)) ∧ w' = w := by
  have hw : IntKind.i64.wrap (L : Int) = (L : Int) := by rw [IntKind.wrap_i64]; omega
  have hl : ¬ (L : Int) < 0 := by omega
  go_enter Try.func67, Try.ntmps67
  go_wp2_with fail
  refine wp_loop_rounds 1 ?_
  rw [rounds_succ]
  go_wp2_with fail
  go_ret
  exact ⟨rfl, rfl⟩
theorem szPcS_any (v : Value) (n L : Nat) (F : Nat → PcI) (w : World) (hL : L ≤ 1048576) (hm : n ≤ maxLen) (hd : ∀ i, i < n → (F i).d.size ≤ maxLen) (h : PcIn w v n F) :
    Calls Try.prog 67 #[v, .int .i64 (L : Int)] w fun e w' => e = .returned (szV L (n + pcTot F n)) ∧ Below w.heap.size w w' := by
  obtain ⟨a, c, rfl, hr⟩ := h.form
  by_cases hn : n ≤ L
  · by_cases h0 : 0 < n
    · obtain ⟨g, off, rfl, hg, hx⟩ := hr h0
      exact szPcS_some g off c n L F w hL hn hd hg hx
    · obtain rfl : n = 0 := by omega
      refine (szPcS_zero a c L w hL).mono ?_
      rintro e w' ⟨rfl, rfl⟩
      exact ⟨by unfold szV; rw [if_pos (by show 0 + 0 ≤ L; omega)]; rfl, Below.refl _ _⟩
  · refine (szPcS_no a n c L w hL (by omega) hm).mono ?_
    rintro e w' ⟨rfl, rfl⟩
    exact ⟨by unfold szV; rw [if_neg (by omega)], Below.refl _ _⟩
end Go.Proofs.Ytpeddaljgmkomaa

/-!   A row of pieces that is made. -/
namespace Go.Proofs.Ytpeddaljgmkomaa
open Go.RowKit
set_option linter.unusedVariables false
set_option linter.unusedSimpArgs false
theorem hid {p : Prop} (h : p) : Hid p := h
def pcF (L : List PcI) (i : Nat) : PcI := L.getD i ⟨0, 0, ⟨#[]⟩⟩
def pcC (L : List PcI) : List Value := L.flatMap fun p => [.int .i64 p.f, .int .i64 p.l, .string p.d]
theorem pcC_snoc (L : List PcI) (p : PcI) : pcC L ++ [.int .i64 p.f, .int .i64 p.l, .string p.d] = pcC (L ++ [p]) := by simp [pcC]
theorem pcC_len (L : List PcI) : (pcC L).length = 3 * L.length := by
  induction L with
  | nil => rfl
  | cons p L ih =>
    have e : pcC (p :: L) = [.int .i64 p.f, .int .i64 p.l, .string p.d] ++ pcC L := rfl
    rw [e, List.length_append, ih]; simp; omega
theorem pcC_at : ∀ (L : List PcI) (i : Nat), i < L.length → (pcC L)[3 * i]? = some (.int .i64 (pcF L i).f) ∧ (pcC L)[3 * i + 1]? = some (.int .i64 (pcF L i).l) ∧ (pcC L)[3 * i + 2]? = some (.string (pcF L i).d)
  | [], _, h => by simp at h
  | p :: L, 0, _ => ⟨rfl, rfl, rfl⟩
  | p :: L, i + 1, h => by
    have ih := pcC_at L i (by simpa using h)
    exact ih
theorem own3_form {w : World} {B n : Nat} {v : Value} {xs : List Value} (h : w.ownsRow B 89 3 v n xs) (h0 : 0 < n) :
    ∃ g cap cur, v = .slice (some ⟨g, 0, none⟩) n cap ∧ B ≤ g ∧ w.heap[g]? = some (.cells cur 89 (0, 0)) ∧ 3 * n ≤ cur.size ∧ ∀ (j : Nat) (u : Value), xs[j]? = some u → cur[j]? = some u := by
  obtain ⟨hl, ⟨_, h1⟩ | ⟨g, cap, cur, h1, h2, h3, h4, h5, h6, h7⟩⟩ := h
  · omega
  · refine ⟨g, cap, cur, h1, h2, h3, by omega, fun j u hj => ?_⟩
    rw [← h7, List.getElem?_take] at hj
    split at hj
    · simpa using hj
    · cases hj
theorem own3_slice {w : World} {B n : Nat} {v : Value} {xs : List Value} (h : w.ownsRow B 89 3 v n xs) : ∃ a c, v = .slice a n c := by
  obtain ⟨hl, ⟨h0, hn⟩ | ⟨g, cap, cur, h1, _⟩⟩ := h
  · subst hn; exact ⟨_, _, h0⟩
  · exact ⟨_, _, h1⟩
theorem own3_arg {w : World} {B : Nat} {v : Value} {L : List PcI} (h : w.ownsRow B 89 3 v L.length (pcC L)) : PcArg w v L.length (pcF L) := by
  obtain ⟨a, c, rfl⟩ := own3_slice h
  refine ⟨a, c, rfl, fun h0 => ?_⟩
  obtain ⟨g, cap, cur, h1, h2, h3, h4, h5⟩ := own3_form h h0
  cases h1
  exact ⟨g, rfl, (Array.getElem?_eq_some_iff.1 h3).1, fun i hi => (cell_of_row _ _ _ _ _ _ h3).trans (h5 _ _ (pcC_at L i hi).1), fun i hi => (cell_of_row _ _ _ _ _ _ h3).trans (h5 _ _ (pcC_at L i hi).2.1), fun i hi => (cell_of_row _ _ _ _ _ _ h3).trans (h5 _ _ (pcC_at L i hi).2.2)⟩
theorem own3_call {w w' : World} {B : Nat} {e : TypeId} {v : Value} {n : Nat} {xs : List Value} (h : w.ownsRow B e 3 v n xs) (hb : Below w.heap.size w w') : w'.ownsRow B e 3 v n xs := by
  obtain ⟨h0, h1 | ⟨g, cap, cur, h1, h2, h3, h4, h5, h6, h7⟩⟩ := h
  · exact ⟨h0, Or.inl h1⟩
  · exact ⟨h0, Or.inr ⟨g, cap, cur, h1, h2, (hb.block g (Array.getElem?_eq_some_iff.1 h3).1).trans h3, h4, h5, h6, h7⟩⟩
theorem own3_base {w : World} {B C : Nat} {e : TypeId} {v : Value} {n : Nat} {xs : List Value} (h : w.ownsRow B e 3 v n xs) (hC : C ≤ B) : w.ownsRow C e 3 v n xs := by
  obtain ⟨h0, h1 | ⟨g, cap, cur, h1, h2, h3⟩⟩ := h
  · exact ⟨h0, Or.inl h1⟩
  · exact ⟨h0, Or.inr ⟨g, cap, cur, h1, Nat.le_trans hC h2, h3⟩⟩
theorem grownBy_setP (w : World) (g t : Nat) (v : Value) : w.grownBy (w.setCell ⟨g, t, none⟩ v) (some g) :=
  ⟨rfl, rfl, rfl, by simp, fun k hk hne => heap_setCell_other _ _ _ _ (fun e => hne (by rw [e]))⟩
theorem own3_set {w : World} {B g : Nat} {e : TypeId} {v : Value} {n : Nat} {xs : List Value} (h : w.ownsRow B e 3 v n xs) (hne : v.ownBlock ≠ some g) (t : Nat) (u : Value) : (w.setCell ⟨g, t, none⟩ u).ownsRow B e 3 v n xs :=
  h.kept (grownBy_setP w g t u) (Or.inr hne)
theorem own3_ne {w : World} {B g : Nat} {e : TypeId} {v : Value} {n : Nat} {xs : List Value} (h : w.ownsRow B e 3 v n xs) (hg : w.heap.size ≤ g) : v.ownBlock ≠ some g := fun e => by
  have := (h.lt g e).2; omega
theorem cell_three_at {W : World} {x y z : Value} {t : TypeId} {k : Nat} (hk : W.heap.size = k) : ∀ j u, [x, y, z][j]? = some u → (W.alloc (.cells #[x, y, z] t)).cell? ((⟨k, 0, none⟩ : Addr).add j) = some u := by
  subst hk
  intro j u hj
  have h := heap_alloc_new W (.cells #[x, y, z] t)
  have ea : (⟨W.heap.size, 0, none⟩ : Addr).add j = ⟨W.heap.size, j, none⟩ := by
    unfold Addr.add
    by_cases h0 : j = 0
    · subst h0; simp
    · simp [h0]
  rw [ea, cell_of_row _ _ j _ _ _ h]
  simpa using hj
theorem three_one (f l : Int) (d : ByteArray) : ∀ u ∈ [Value.int .i64 f, .int .i64 l, .string d], u.oneCell' = true := by
  intro u hu
  simp only [List.mem_cons, List.not_mem_nil, or_false] at hu
  rcases hu with rfl | rfl | rfl <;> rfl
end Go.Proofs.Ytpeddaljgmkomaa

/-!   A step of a region that draws its order, at the one operation that is ready. -/
namespace Go.Proofs.Ytpeddaljgmkomaa
open Go.RowKit
set_option linter.unusedVariables false

theorem held_step {P : Program} {md : Region.Mode} {ops : Array Oper} {Q : Exit → Act → World → Prop} {S : World → Prop} {i : Nat} {o : Oper} {fuel : Nat} {listed : Array Bool} {a : Act} {w : World}
    (hr : Region.ready md ops listed = [i]) (hi : ops[i]? = some o) (hw : Region.wanted o (yielded ops a.tmps) = true)
    (h : Oper.wp P o a w (fun a' w' => S w' ∧ wpAnyH P md ops Q S fuel (listed.setIfInBounds i true) a' w') Q) : wpAnyH P md ops Q S (fuel + 1) listed a w :=
  wpAnyH_all hr (by simp) (fun j hj => by
    have e : j = i := by simpa using hj
    subst e
    unfold wpOp
    simp only [hi, hw, if_true]
    exact Or.inl h)
end Go.Proofs.Ytpeddaljgmkomaa
