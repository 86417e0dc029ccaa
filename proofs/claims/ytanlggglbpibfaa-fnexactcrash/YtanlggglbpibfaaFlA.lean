/-
  Structs File: as values and in memory, what the law makes of a list of them that came in; how much they hold.
-/
import Derived.Test.YtanlggglbpibfaaIn
import Derived.Below
import Derived.Deep.MidRow
import Derived.Laws.MakeOwn
namespace Go.Proofs.Ytanlggglbpibfaa
open Go.RowKit
set_option linter.unusedVariables false
set_option linter.unusedSimpArgs false

structure FlI where
  a : ByteArray
  d : ByteArray
def flV (a : ByteArray) (d : ByteArray) : Value := .agg #[.string a, .string d]
theorem Try.infFl : (Try.prog.info? 88).map (fun i => (i.zero, i.size, i.bytes)) = some (some (.agg #[.string ⟨#[]⟩, .string ⟨#[]⟩]), 2, 32) := by kernel_rfl
def intFl : Value → Int | .int _ q => q | _ => 0
theorem blFl {B C : Nat} {a b c : World} (h : Below B a b) (k : Below C b c) (hBC : B ≤ C) : Below B a c := ⟨k.os.trans h.os, k.tape.trans h.tape, k.output.trans h.output, Nat.le_trans h.size k.size, fun i hi => (k.block i (Nat.lt_of_lt_of_le hi hBC)).trans (h.block i hi)⟩
set_option maxRecDepth 100000 in
set_option maxHeartbeats 1000000 in
theorem toFl_any (a : ByteArray) (d : ByteArray) (w : World) :
    Calls Try.prog 94 #[flV a d] w fun e w' => e = .returned (flV a d) ∧ Below w.heap.size w w' := by
  unfold flV
  go_enter Try.func94, Try.ntmps94
  go_wp2_with fail
  refine bodyPost_ret (results_cell_row rfl _ _ (w.heap.size + 1) 88 #[.string a, .string d] (0, 0) _ rfl ?_ Try.underlying88 rfl (by kernel_rfl)) rfl ⟨rfl, (((Below.refl _ _).alloc (Nat.le_refl _) _).alloc (by simp) _).alloc (by simp; omega) _⟩
  rw [Below.heap_alloc _ _ _ (by simp)]
  have h := heap_alloc_new (w.alloc (.cells #[.string a, .string d] 133)) (.cells #[.string a, .string d] 88)
  simpa using h
set_option maxRecDepth 100000 in
theorem eqFl_same (a : ByteArray) (d : ByteArray) (w : World) :
    Calls Try.prog 95 #[flV a d, flV a d] w fun e w' => e = .returned (.bool true) ∧ Below w.heap.size w w' := by
  unfold flV
  go_enter Try.func95, Try.ntmps95
  go_wp2_with fail
  go_ret
  exact ⟨rfl, ((Below.refl _ _).alloc (Nat.le_refl _) _).alloc (by simp) _⟩
set_option maxRecDepth 100000 in
theorem szFl_any (a : ByteArray) (d : ByteArray) (L : Nat) (w : World) (ha : a.size ≤ maxLen) (hd : d.size ≤ maxLen) (hL : L ≤ 1048576) :
    Calls Try.prog 93 #[flV a d, .int .i64 (L : Int)] w fun e w' => e = .returned (.int .i64 (if (a.size + d.size) ≤ L then ((L - (a.size + d.size) : Nat) : Int) else -1)) ∧ Below w.heap.size w w' := by
  unfold flV
  have ha1 : a.size ≤ 9223372036854775807 := ha
  have hd1 : d.size ≤ 9223372036854775807 := hd
  by_cases c0 : a.size ≤ L
  · by_cases c1 : a.size + d.size ≤ L
    · rw [if_pos (by omega)]
      have hw0 : IntKind.i64.wrap ((L : Int) - (a.size : Int)) = ((L - (a.size) : Nat) : Int) := by rw [IntKind.wrap_i64]; omega
      have hl0 : ¬ ((L - (a.size) : Nat) : Int) < 0 := by omega
      have hw1 : IntKind.i64.wrap (((L - (a.size) : Nat) : Int) - (d.size : Int)) = ((L - (a.size + d.size) : Nat) : Int) := by rw [IntKind.wrap_i64]; omega
      have hl1 : ¬ ((L - (a.size + d.size) : Nat) : Int) < 0 := by omega
      clear c0 c1
      go_enter Try.func93, Try.ntmps93
      go_wp2_with fail
      go_ret
      exact ⟨rfl, (Below.refl _ _).alloc (Nat.le_refl _) _⟩
    · rw [if_neg (by omega)]
      have hw0 : IntKind.i64.wrap ((L : Int) - (a.size : Int)) = ((L - (a.size) : Nat) : Int) := by rw [IntKind.wrap_i64]; omega
      have hl0 : ¬ ((L - (a.size) : Nat) : Int) < 0 := by omega
      have hw : IntKind.i64.wrap (((L - (a.size) : Nat) : Int) - (d.size : Int)) = ((L - (a.size) : Nat) : Int) - (d.size : Int) := by rw [IntKind.wrap_i64]; omega
      have hl : ((L - (a.size) : Nat) : Int) - (d.size : Int) < 0 := by omega
      clear c0 c1
      go_enter Try.func93, Try.ntmps93
      go_wp2_with fail
      go_ret
      exact ⟨rfl, (Below.refl _ _).alloc (Nat.le_refl _) _⟩
  · rw [if_neg (by omega)]
    have hw : IntKind.i64.wrap ((L : Int) - (a.size : Int)) = (L : Int) - (a.size : Int) := by rw [IntKind.wrap_i64]; omega
    have hl : (L : Int) - (a.size : Int) < 0 := by omega
    clear c0
    go_enter Try.func93, Try.ntmps93
    go_wp2_with fail
    go_ret
    exact ⟨rfl, (Below.refl _ _).alloc (Nat.le_refl _) _⟩
def setFl (C : Array Value) (q : Nat) (x0 x1 : Value) : Array Value := (C.setIfInBounds q x0).setIfInBounds (q + 1) x1
theorem setFl_size (C : Array Value) (q : Nat) (x0 x1 : Value) : (setFl C q x0 x1).size = C.size := by simp [setFl]
theorem setFl_low (C : Array Value) (q : Nat) (x0 x1 : Value) (j : Nat) (h : j < q) : (setFl C q x0 x1)[j]? = C[j]? := by
  unfold setFl
  rw [Array.getElem?_setIfInBounds_ne (by omega), Array.getElem?_setIfInBounds_ne (by omega)]
theorem setFl_0 (C : Array Value) (q : Nat) (x0 x1 : Value) (h : q + 1 < C.size) : (setFl C q x0 x1)[q]? = some x0 := by
  unfold setFl
  rw [Array.getElem?_setIfInBounds_ne (by omega), Array.getElem?_setIfInBounds_self_of_lt (by omega)]
theorem setFl_1 (C : Array Value) (q : Nat) (x0 x1 : Value) (h : q + 1 < C.size) : (setFl C q x0 x1)[q + 1]? = some x1 := by
  unfold setFl
  rw [Array.getElem?_setIfInBounds_self_of_lt (by simp; omega)]
def setWFl (w : World) (g q : Nat) (x0 x1 : Value) : World := (w.setCell ⟨g, q, none⟩ x0).setCell ⟨g, q + 1, none⟩ x1
theorem setWFl_row {w : World} {g : Nat} {C : Array Value} {t : TypeId} (h : w.heap[g]? = some (.cells C t (0, 0))) (q : Nat) (x0 x1 : Value) : (setWFl w g q x0 x1).heap[g]? = some (.cells (setFl C q x0 x1) t (0, 0)) :=
  (heap_setCell_same _ _ _ _ _ _ (heap_setCell_same _ _ _ _ _ _ h))
theorem setWFl_below {B : Nat} {w0 w : World} (h : Below B w0 w) {g : Nat} (hg : B ≤ g) (q : Nat) (x0 x1 : Value) : Below B w0 (setWFl w g q x0 x1) :=
  ((h.setCell (p := ⟨g, q, none⟩) hg x0).setCell (p := ⟨g, q + 1, none⟩) hg x1)
/-- structs in memory, from a row's begin -/
structure FlRow (w : World) (g n : Nat) (F : Nat → FlI) : Prop where
  lt : g < w.heap.size
  c0 : ∀ i, i < n → w.cell? ⟨g, 2 * i, none⟩ = some (.string (F i).a)
  c1 : ∀ i, i < n → w.cell? ⟨g, 2 * i + 1, none⟩ = some (.string (F i).d)
theorem FlRow.below {w w' : World} {g n B : Nat} {F : Nat → FlI} (h : FlRow w g n F) (hb : Below B w w') (hg : g < B) : FlRow w' g n F :=
  ⟨Nat.lt_of_lt_of_le h.lt hb.size, fun i hi => (hb.cell (p := ⟨g, 2 * i, none⟩) hg).trans (h.c0 i hi), fun i hi => (hb.cell (p := ⟨g, 2 * i + 1, none⟩) hg).trans (h.c1 i hi)⟩
def FlArg (w : World) (v : Value) (n : Nat) (F : Nat → FlI) : Prop := ∃ a c, v = .slice a n c ∧ (0 < n → ∃ g, a = some ⟨g, 0, none⟩ ∧ FlRow w g n F)
theorem FlArg.below {w w' : World} {v : Value} {n : Nat} {F : Nat → FlI} (h : FlArg w v n F) (hb : Below w.heap.size w w') : FlArg w' v n F := by
  obtain ⟨a, c, h1, h2⟩ := h
  exact ⟨a, c, h1, fun h0 => by obtain ⟨g, h3, h4⟩ := h2 h0; exact ⟨g, h3, h4.below hb h4.lt⟩⟩
/-- a list of structs that came in -/
structure FlIn (w : World) (v : Value) (n : Nat) (F : Nat → FlI) : Prop where
  form : ∃ a c, v = .slice a n c ∧ (0 < n → ∃ g off, a = some ⟨g, off, none⟩ ∧ g < w.heap.size ∧ ∀ i, i < n → w.cell? ⟨g, off + i * 2, none⟩ = some (.string (F i).a) ∧ w.cell? ⟨g, off + i * 2 + 1, none⟩ = some (.string (F i).d))
theorem FlIn.below {w w' : World} {v : Value} {n : Nat} {F : Nat → FlI} (h : FlIn w v n F) (hb : Below w.heap.size w w') : FlIn w' v n F := by
  obtain ⟨a, c, h1, h2⟩ := h.form
  exact ⟨a, c, h1, fun h0 => by
    obtain ⟨g, off, h3, h4, h5⟩ := h2 h0
    refine ⟨g, off, h3, Nat.lt_of_lt_of_le h4 hb.size, fun i hi => ?_⟩
    rw [hb.cell (p := ⟨g, off + i * 2, none⟩) h4, hb.cell (p := ⟨g, off + i * 2 + 1, none⟩) h4]
    exact h5 i hi⟩
set_option maxRecDepth 100000 in
set_option maxHeartbeats 4000000 in
theorem toFlS_some (g off c n : Nat) (F : Nat → FlI) (w : World) (hn : n ≤ 1048576) (hg : g < w.heap.size)
    (h0 : ∀ i, i < n → w.cell? ⟨g, off + i * 2, none⟩ = some (.string (F i).a) ∧ w.cell? ⟨g, off + i * 2 + 1, none⟩ = some (.string (F i).d)) :
    Calls Try.prog 68 #[.slice (some ⟨g, off, none⟩) n c] w fun e w' => e = .returned (.slice (some ⟨w.heap.size, 0, none⟩) n n) ∧ FlRow w' w.heap.size n F ∧ Below w.heap.size w w' := by
  have hnI : (n : Int) ≤ 1048576 := by omega
  have HT : Hid (∀ a d w, Calls Try.prog 94 #[flV a d] w fun e w' => e = .returned (flV a d) ∧ Below w.heap.size w w') := fun a d w => toFl_any a d w
  unfold flV at HT
  have HC : Hid _ := h0
  clear h0
  obtain ⟨i0, hi0, hz0, hz1, hz2⟩ := info_parts Try.infFl
  have hmk := run_make (P := Try.prog) w 24 88 i0 (.agg #[.string ⟨#[]⟩, .string ⟨#[]⟩]) Try.underlying24 hi0 hz0 .i64 .i64 (n : Int) (n : Int) (by omega) (by omega) (by rw [hz2]; omega) (by omega)
  rw [hz1, Int.toNat_natCast] at hmk
  have HZS : Hid ((madeCells (Value.agg #[.string ⟨#[]⟩, .string ⟨#[]⟩]).cells (n * 2)).size = 2 * n) := by
    show (madeCells _ _).size = _
    rw [size_madeCells]; omega
  generalize madeCells (Value.agg #[.string ⟨#[]⟩, .string ⟨#[]⟩]).cells (n * 2) = Z at hmk HZS
  have HU : Hid (Below w.heap.size w (w.alloc (.cells Z 88)) ∧ (w.alloc (.cells Z 88)).heap[w.heap.size]? = some (.cells Z 88 (0, 0))) := ⟨(Below.refl _ _).alloc (Nat.le_refl _) _, heap_alloc_new w _⟩
  go_enter Try.func68, Try.ntmps68
  go_wp2_with fail
  go_loopw [4] (fun v wr => ∃ (i : Nat) (C : Array Value), i ≤ n ∧ v = .int .i64 (i : Int) ∧ C.size = 2 * n ∧ Hid (Below w.heap.size w wr ∧ wr.heap[w.heap.size]? = some (.cells C 88 (0, 0))) ∧ Hid (∀ j, j < i → C[2 * j]? = some (.string (F j).a) ∧ C[2 * j + 1]? = some (.string (F j).d))) (fun v _ => n - (intFl v).toNat)
  case atStart => exact ⟨0, Z, by omega, rfl, HZS.out, HU, fun j hj => absurd hj (by omega)⟩
  case round =>
    clear HU
    obtain ⟨i, C, hi, rfl, hcs, HB, HCC⟩ := hrel
    have HCS : Hid (C.size = 2 * n) := hcs
    clear hcs
    by_cases hlt : i < n
    · have hltI : (i : Int) < (n : Int) := by omega
      obtain ⟨x0, x1⟩ := HC.out i hlt
      rw [← HB.out.1.cell (p := ⟨g, off + i * 2, none⟩) hg] at x0
      rw [← HB.out.1.cell (p := ⟨g, off + i * 2 + 1, none⟩) hg] at x1
      go_wp2_with fail
      refine (HT.out _ _ _).mono ?_
      rintro e w3 ⟨rfl, hb3⟩
      have hsz := HCS.out
      have hrow : w3.heap[w.heap.size]? = some (.cells C 88 (0, 0)) := (hb3.block _ (Array.getElem?_eq_some_iff.1 HB.out.2).1).trans HB.out.2
      have hbw : Below w.heap.size w w3 := blFl HB.out.1 hb3 HB.out.1.size
      obtain ⟨q, hq⟩ : ∃ q, q = 2 * i := ⟨_, rfl⟩
      have hiq : i * 2 = q := by omega
      have HQ : Hid (q = 2 * i) := hq
      have HB3 : Hid (Below w.heap.size w w3 ∧ w3.heap[w.heap.size]? = some (.cells C 88 (0, 0))) := ⟨hbw, hrow⟩
      have y0 : w3.cell? ⟨w.heap.size, q, none⟩ = some C[q] := (cell_of_row w3 _ q _ _ _ hrow).trans (Array.getElem?_eq_getElem (by omega))
      have y1 : w3.cell? ⟨w.heap.size, q + 1, none⟩ = some C[q + 1] := (cell_of_row w3 _ (q + 1) _ _ _ hrow).trans (Array.getElem?_eq_getElem (by omega))
      have z0 := frozen_of_row w3 _ q _ _ hrow
      have z1 := frozen_of_row w3 _ (q + 1) _ _ hrow
      have HN : Hid (Below w.heap.size w (setWFl w3 w.heap.size q (.string (F i).a) (.string (F i).d)) ∧ (setWFl w3 w.heap.size q (.string (F i).a) (.string (F i).d)).heap[w.heap.size]? = some (.cells (setFl C q (.string (F i).a) (.string (F i).d)) 88 (0, 0))) :=
        ⟨setWFl_below hbw (Nat.le_refl _) _ _ _, setWFl_row hrow _ _ _⟩
      have HN2 : Hid (∀ j, j < i + 1 → (setFl C q (.string (F i).a) (.string (F i).d))[2 * j]? = some (.string (F j).a) ∧ (setFl C q (.string (F i).a) (.string (F i).d))[2 * j + 1]? = some (.string (F j).d)) := fun j hj => by
        by_cases hji : j < i
        · rw [setFl_low _ _ _ _ _ (by omega), setFl_low _ _ _ _ _ (by omega)]
          exact HCC.out j hji
        · obtain rfl : j = i := by omega
          rw [← hq]
          exact ⟨setFl_0 _ _ _ _ (by omega), setFl_1 _ _ _ _ (by omega)⟩
      generalize C[q] = u0 at y0
      generalize C[q + 1] = u1 at y1
      clear hsz hrow hbw hb3 x0 x1 hq HB
      go_wp2_with fail
      go_roundw
      case rel => exact ⟨i + 1, _, by omega, by go_num, (setFl_size _ _ _ _).trans HCS.out, HN, HN2⟩
      case measure => simp [intFl]; omega
    · obtain rfl : i = n := by omega
      go_wp2_with fail
      go_ret
      have hr := HB.out.2
      exact ⟨rfl, ⟨(Array.getElem?_eq_some_iff.1 hr).1, fun j hj => (cell_of_row wr _ _ _ _ _ hr).trans (HCC.out j hj).1, fun j hj => (cell_of_row wr _ _ _ _ _ hr).trans (HCC.out j hj).2⟩, HB.out.1⟩
set_option maxRecDepth 100000 in
theorem toFlS_zero (a : Option Addr) (c : Nat) (w : World) :
    Calls Try.prog 68 #[.slice a 0 c] w fun e w' => (∃ b, e = .returned (.slice b 0 0)) ∧ Below w.heap.size w w' := by
  obtain ⟨i0, hi0, hz0, hz1, hz2⟩ := info_parts Try.infFl
  have hmk := run_make (P := Try.prog) w 24 88 i0 (.agg #[.string ⟨#[]⟩, .string ⟨#[]⟩]) Try.underlying24 hi0 hz0 .i64 .i64 0 0 (by omega) (by omega) (by rw [hz2]; omega) (by omega)
  rw [hz1] at hmk
  generalize madeCells (Value.agg #[.string ⟨#[]⟩, .string ⟨#[]⟩]).cells _ = Z at hmk
  go_enter Try.func68, Try.ntmps68
  go_wp2_with fail
  refine wp_loop_rounds 1 ?_
  rw [rounds_succ]
  go_wp2_with fail
  go_ret
  exact ⟨⟨_, rfl⟩, (Below.refl _ _).alloc (Nat.le_refl _) _⟩
theorem toFlS_any (v : Value) (n : Nat) (F : Nat → FlI) (w : World) (hn : n ≤ 1048576) (h : FlIn w v n F) :
    Calls Try.prog 68 #[v] w fun e w' => (∃ v', e = .returned v' ∧ FlArg w' v' n F) ∧ Below w.heap.size w w' := by
  obtain ⟨a, c, rfl, hr⟩ := h.form
  by_cases h0 : 0 < n
  · obtain ⟨g, off, rfl, hg, hx⟩ := hr h0
    refine (toFlS_some g off c n F w hn hg hx).mono ?_
    rintro e w' ⟨rfl, hrow, hb⟩
    exact ⟨⟨_, rfl, _, _, rfl, fun _ => ⟨_, rfl, hrow⟩⟩, hb⟩
  · obtain rfl : n = 0 := by omega
    refine (toFlS_zero a c w).mono ?_
    rintro e w' ⟨⟨b, rfl⟩, hb⟩
    exact ⟨⟨_, rfl, _, _, rfl, fun h => absurd h (by omega)⟩, hb⟩
/-- how much the texts of the first ones are -/
def flTot (F : Nat → FlI) : Nat → Nat
  | 0 => 0
  | i + 1 => flTot F i + ((F i).a.size + (F i).d.size)
theorem flTot_mono (F : Nat → FlI) {i n : Nat} (h : i ≤ n) : flTot F i ≤ flTot F n := by
  induction n with
  | zero =>
    obtain rfl : i = 0 := by omega
    exact Nat.le_refl _
  | succ n ih =>
    by_cases e : i = n + 1
    · subst e; exact Nat.le_refl _
    · exact Nat.le_trans (ih (by omega)) (Nat.le_add_right _ _)
theorem flTot_one (F : Nat → FlI) {i n : Nat} (h : i < n) : ((F i).a.size + (F i).d.size) ≤ flTot F n :=
  Nat.le_trans (Nat.le_add_left _ _) (flTot_mono F (i := i + 1) (n := n) h)
def szVFl (L x : Nat) : Value := .int .i64 (if x ≤ L then ((L - x : Nat) : Int) else -1)
theorem szVFl_le {L x : Nat} (h : x ≤ L) : szVFl L x = .int .i64 ((L - x : Nat) : Int) := by unfold szVFl; rw [if_pos h]
theorem szVFl_no {L x : Nat} (h : ¬ x ≤ L) : szVFl L x = .int .i64 (-1) := by unfold szVFl; rw [if_neg h]
set_option maxRecDepth 100000 in
set_option maxHeartbeats 1000000 in
theorem szFlS_some (g off c n L : Nat) (F : Nat → FlI) (w : World) (hL : L ≤ 1048576) (hn : n ≤ L) (hd : ∀ i, i < n → (F i).a.size ≤ maxLen ∧ (F i).d.size ≤ maxLen) (hg : g < w.heap.size)
    (h0 : ∀ i, i < n → w.cell? ⟨g, off + i * 2, none⟩ = some (.string (F i).a) ∧ w.cell? ⟨g, off + i * 2 + 1, none⟩ = some (.string (F i).d)) :
    Calls Try.prog 66 #[.slice (some ⟨g, off, none⟩) n c, .int .i64 (L : Int)] w fun e w' => e = .returned (szVFl L (n + flTot F n)) ∧ Below w.heap.size w w' := by
  have HZ : Hid (∀ (a : ByteArray) (d : ByteArray) (L : Nat) w, a.size ≤ maxLen → d.size ≤ maxLen → L ≤ 1048576 → Calls Try.prog 93 #[flV a d, .int .i64 (L : Int)] w fun e w' => e = .returned (.int .i64 (if (a.size + d.size) ≤ L then ((L - (a.size + d.size) : Nat) : Int) else -1)) ∧ Below w.heap.size w w') := fun a d L w ha hd h2 => szFl_any a d L w ha hd h2
  unfold flV at HZ
  have HC : Hid _ := h0
  have HD : Hid (∀ i, i < n → (F i).a.size ≤ maxLen ∧ (F i).d.size ≤ maxLen) := hd
  have hw : IntKind.i64.wrap ((L : Int) - (n : Int)) = ((L - n : Nat) : Int) := by rw [IntKind.wrap_i64]; omega
  have hl : ¬ ((L - n : Nat) : Int) < 0 := by omega
  clear h0 hd
  go_enter Try.func66, Try.ntmps66
  go_wp2_with fail
  go_loopw [1, 5] (fun u v wr => ∃ (i : Nat), i ≤ n ∧ v = .int .i64 (i : Int) ∧ u = .int .i64 ((L - n - flTot F i : Nat) : Int) ∧ n + flTot F i ≤ L ∧ Hid (Below w.heap.size w wr)) (fun _ v _ => n - (intFl v).toNat)
  case atStart => exact ⟨0, by omega, rfl, rfl, by show n + 0 ≤ L; omega, Below.refl _ _⟩
  case round =>
    obtain ⟨i, hi, rfl, rfl, hle, HB⟩ := hrel
    by_cases hlt : i < n
    · have hltI : (i : Int) < (n : Int) := by omega
      obtain ⟨x0, x1⟩ := HC.out i hlt
      rw [← HB.out.cell (p := ⟨g, off + i * 2, none⟩) hg] at x0
      rw [← HB.out.cell (p := ⟨g, off + i * 2 + 1, none⟩) hg] at x1
      have HSS : Hid (flTot F (i + 1) = flTot F i + ((F i).a.size + (F i).d.size)) := rfl
      obtain ⟨R, hR⟩ : ∃ R, R = L - n - flTot F i := ⟨_, rfl⟩
      rw [← hR]
      have HR : Hid (R = L - n - flTot F i ∧ n + flTot F i ≤ L) := ⟨hR, hle⟩
      have hRL : R ≤ 1048576 := by omega
      have hdi := HD.out i hlt
      have HM : Hid (n + flTot F (i + 1) ≤ n + flTot F n) := Nat.add_le_add_left (flTot_mono F (by omega)) n
      have HZ2 := HZ.out (F i).a (F i).d R
      obtain ⟨z, hz⟩ : ∃ z, z = ((F i).a.size + (F i).d.size) := ⟨_, rfl⟩
      rw [← hz] at HZ2 HSS
      have HZ2 : Hid (∀ w, _) := fun w => HZ2 w hdi.1 hdi.2 hRL
      clear hR hle hz hdi
      go_wp2_with fail
      refine (HZ2.out _).mono ?_
      rintro e w3 ⟨rfl, hb3⟩
      have HB3 : Hid (Below w.heap.size w w3) := blFl HB.out hb3 HB.out.size
      clear hb3 x0 x1 HB
      by_cases hq : z ≤ R
      · rw [if_pos hq]
        have hnn : ¬ ((R - z : Nat) : Int) < 0 := by omega
        have HQ : Hid (z ≤ R) := hq
        obtain ⟨R2, hR2⟩ : ∃ R2, R2 = R - z := ⟨_, rfl⟩
        rw [← hR2] at hnn ⊢
        have HR2 : Hid (R2 = R - z) := hR2
        clear hR2 hq
        go_wp2_with fail
        go_roundw
        case rel => exact ⟨i + 1, by omega, by go_num, by rw [HSS.out, HR2.out, HR.out.1, Nat.sub_sub (L - n)], by have := HR.out; have := HQ.out; rw [HSS.out]; omega, HB3⟩
        case measure => simp [intFl]; omega
      · rw [if_neg hq]
        have HQ : Hid (¬ z ≤ R) := hq
        clear hq
        go_wp2_with fail
        go_ret
        have h1 := HQ.out
        have h2 := HR.out
        have h3 := HM.out
        have h4 := HSS.out
        refine ⟨?_, HB3.out⟩
        unfold szVFl
        rw [if_neg (by omega)]
        rfl
    · obtain rfl : i = n := by omega
      go_wp2_with fail
      go_ret
      refine ⟨?_, HB.out⟩
      unfold szVFl
      rw [if_pos hle, Nat.sub_sub]
      rfl
set_option maxRecDepth 100000 in
theorem szFlS_no (a : Option Addr) (n c L : Nat) (w : World) (hL : L ≤ 1048576) (hn : L < n) (hm : n ≤ maxLen) :
    Calls Try.prog 66 #[.slice a n c, .int .i64 (L : Int)] w fun e w' => e = .returned (.int .i64 (-1)) ∧ w' = w := by
  have hm' : n ≤ 9223372036854775807 := hm
  have hw : IntKind.i64.wrap ((L : Int) - (n : Int)) = (L : Int) - (n : Int) := by rw [IntKind.wrap_i64]; omega
  have hl : (L : Int) - (n : Int) < 0 := by omega
  go_enter Try.func66, Try.ntmps66
  go_wp2_with fail
  go_ret
  exact ⟨rfl, rfl⟩
set_option maxRecDepth 100000 in
theorem szFlS_zero (a : Option Addr) (c L : Nat) (w : World) (hL : L ≤ 1048576) :
    Calls Try.prog 66 #[.slice a 0 c, .int .i64 (L : Int)] w fun e w' => e = .returned (.int .i64 (L : Int)) ∧ w' = w := by
  have hw : IntKind.i64.wrap (L : Int) = (L : Int) := by rw [IntKind.wrap_i64]; omega
  have hl : ¬ (L : Int) < 0 := by omega
  go_enter Try.func66, Try.ntmps66
  go_wp2_with fail
  refine wp_loop_rounds 1 ?_
  rw [rounds_succ]
  go_wp2_with fail
  go_ret
  exact ⟨rfl, rfl⟩
theorem szFlS_any (v : Value) (n L : Nat) (F : Nat → FlI) (w : World) (hL : L ≤ 1048576) (hm : n ≤ maxLen) (hd : ∀ i, i < n → (F i).a.size ≤ maxLen ∧ (F i).d.size ≤ maxLen) (h : FlIn w v n F) :
    Calls Try.prog 66 #[v, .int .i64 (L : Int)] w fun e w' => e = .returned (szVFl L (n + flTot F n)) ∧ Below w.heap.size w w' := by
  obtain ⟨a, c, rfl, hr⟩ := h.form
  by_cases hn : n ≤ L
  · by_cases h0 : 0 < n
    · obtain ⟨g, off, rfl, hg, hx⟩ := hr h0
      exact szFlS_some g off c n L F w hL hn hd hg hx
    · obtain rfl : n = 0 := by omega
      refine (szFlS_zero a c L w hL).mono ?_
      rintro e w' ⟨rfl, rfl⟩
      exact ⟨by unfold szVFl; rw [if_pos (by show 0 + 0 ≤ L; omega)]; rfl, Below.refl _ _⟩
  · refine (szFlS_no a n c L w hL (by omega) hm).mono ?_
    rintro e w' ⟨rfl, rfl⟩
    exact ⟨by unfold szVFl; rw [if_neg (by omega)], Below.refl _ _⟩
end Go.Proofs.Ytanlggglbpibfaa
