/-
  What the law makes of a list of choices that came in; that two lists made of the same are alike.
-/
import Derived.Test.YtckpnggjboafpamRngZ
import Derived.Test.YtckpnggjboafpamLonH
import Derived.Deep.MidRow
import Derived.Laws.MakeOwn
namespace Go.Proofs.Ytckpnggjboafpam
open Go.RowKit
set_option linter.unusedVariables false
set_option linter.unusedSimpArgs false
theorem blC {B C : Nat} {a b c : World} (h : Below B a b) (k : Below C b c) (hBC : B ≤ C) : Below B a c := ⟨k.os.trans h.os, k.tape.trans h.tape, k.output.trans h.output, Nat.le_trans h.size k.size, fun i hi => (k.block i (Nat.lt_of_lt_of_le hi hBC)).trans (h.block i hi)⟩
def chV (x b : Int) : Value := .agg #[.int .i64 x, .int .i64 b]
theorem Try.infC : (Try.prog.info? 50).map (fun i => (i.zero, i.size, i.bytes)) = some (some (.agg #[.int .i64 0, .int .i64 0]), 2, 16) := by kernel_rfl
set_option maxRecDepth 100000 in
set_option maxHeartbeats 1000000 in
theorem toCh_any (f l : Int) (w : World) :
    Calls Try.prog 28 #[chV f l] w fun e w' => e = .returned (chV f l) ∧ Below w.heap.size w w' := by
  unfold chV
  go_enter Try.func28, Try.ntmps28
  go_wp2_with fail
  refine bodyPost_ret (results_cell_row rfl _ _ (w.heap.size + 1) 50 #[.int .i64 f, .int .i64 l] (0, 0) _ rfl ?_ Try.underlying50 rfl (by kernel_rfl)) rfl ⟨rfl, (((Below.refl _ _).alloc (Nat.le_refl _) _).alloc (by simp) _).alloc (by simp; omega) _⟩
  rw [Below.heap_alloc _ _ _ (by simp)]
  have h := heap_alloc_new (w.alloc (.cells #[.int .i64 f, .int .i64 l] 53)) (.cells #[.int .i64 f, .int .i64 l] 50)
  simpa using h
set_option maxRecDepth 100000 in
theorem eqCh_same (f l : Int) (w : World) :
    Calls Try.prog 33 #[chV f l, chV f l] w fun e w' => e = .returned (.bool true) ∧ Below w.heap.size w w' := by
  unfold chV
  go_enter Try.func33, Try.ntmps33
  go_wp2_with fail
  go_ret
  exact ⟨rfl, ((Below.refl _ _).alloc (Nat.le_refl _) _).alloc (by simp) _⟩
def set2 (C : Array Value) (q : Nat) (a b : Value) : Array Value := (C.setIfInBounds q a).setIfInBounds (q + 1) b
theorem set2_size (C : Array Value) (q : Nat) (a b : Value) : (set2 C q a b).size = C.size := by simp [set2]
theorem set2_low (C : Array Value) (q : Nat) (a b : Value) (j : Nat) (h : j < q) : (set2 C q a b)[j]? = C[j]? := by
  unfold set2
  rw [Array.getElem?_setIfInBounds_ne (by omega), Array.getElem?_setIfInBounds_ne (by omega)]
theorem set2_0 (C : Array Value) (q : Nat) (a b : Value) (h : q + 1 < C.size) : (set2 C q a b)[q]? = some a := by
  unfold set2
  rw [Array.getElem?_setIfInBounds_ne (by omega), Array.getElem?_setIfInBounds_self_of_lt (by omega)]
theorem set2_1 (C : Array Value) (q : Nat) (a b : Value) (h : q + 1 < C.size) : (set2 C q a b)[q + 1]? = some b := by
  unfold set2
  rw [Array.getElem?_setIfInBounds_self_of_lt (by simp; omega)]
def setW2 (w : World) (g q : Nat) (a b : Value) : World := (w.setCell ⟨g, q, none⟩ a).setCell ⟨g, q + 1, none⟩ b
theorem setW2_row {w : World} {g : Nat} {C : Array Value} {t : TypeId} (h : w.heap[g]? = some (.cells C t (0, 0))) (q : Nat) (a b : Value) : (setW2 w g q a b).heap[g]? = some (.cells (set2 C q a b) t (0, 0)) :=
  heap_setCell_same _ _ _ _ _ _ (heap_setCell_same _ _ _ _ _ _ h)
theorem setW2_below {B : Nat} {w0 w : World} (h : Below B w0 w) {g : Nat} (hg : B ≤ g) (q : Nat) (a b : Value) : Below B w0 (setW2 w g q a b) :=
  (h.setCell (p := ⟨g, q, none⟩) hg a).setCell (p := ⟨g, q + 1, none⟩) hg b
/-- choices that came in -/
structure ChIn (w : World) (v : Value) (n : Nat) (F : Nat → Int × Int) : Prop where
  form : ∃ a c, v = .slice a n c ∧ (0 < n → ∃ g off, a = some ⟨g, off, none⟩ ∧ g < w.heap.size ∧ ∀ i, i < n → w.cell? ⟨g, off + i * 2, none⟩ = some (.int .i64 (F i).1) ∧ w.cell? ⟨g, off + i * 2 + 1, none⟩ = some (.int .i64 (F i).2))
theorem ChIn.below {w w' : World} {v : Value} {n : Nat} {F : Nat → Int × Int} (h : ChIn w v n F) (hb : Below w.heap.size w w') : ChIn w' v n F := by
  obtain ⟨a, c, h1, h2⟩ := h.form
  exact ⟨a, c, h1, fun h0 => by
    obtain ⟨g, off, h3, h4, h5⟩ := h2 h0
    refine ⟨g, off, h3, Nat.lt_of_lt_of_le h4 hb.size, fun i hi => ?_⟩
    rw [hb.cell (p := ⟨g, off + i * 2, none⟩) h4, hb.cell (p := ⟨g, off + i * 2 + 1, none⟩) h4]
    exact h5 i hi⟩
set_option maxRecDepth 100000 in
set_option maxHeartbeats 2000000 in
theorem toChS_some (g off c n : Nat) (F : Nat → Int × Int) (w : World) (hn : n ≤ 1048576) (hg : g < w.heap.size)
    (h0 : ∀ i, i < n → w.cell? ⟨g, off + i * 2, none⟩ = some (.int .i64 (F i).1) ∧ w.cell? ⟨g, off + i * 2 + 1, none⟩ = some (.int .i64 (F i).2)) :
    Calls Try.prog 10 #[.slice (some ⟨g, off, none⟩) n c] w fun e w' => e = .returned (.slice (some ⟨w.heap.size, 0, none⟩) n n) ∧ ChRow w' w.heap.size n F ∧ Below w.heap.size w w' := by
  have hnI : (n : Int) ≤ 1048576 := by omega
  have HT : Hid (∀ f l w, Calls Try.prog 28 #[chV f l] w fun e w' => e = .returned (chV f l) ∧ Below w.heap.size w w') := fun f l w => toCh_any f l w
  unfold chV at HT
  have HC : Hid _ := h0
  clear h0
  obtain ⟨i0, hi0, hz0, hz1, hz2⟩ := info_parts Try.infC
  have hmk := run_make (P := Try.prog) w 26 50 i0 (.agg #[.int .i64 0, .int .i64 0]) Try.underlying26 hi0 hz0 .i64 .i64 (n : Int) (n : Int) (by omega) (by omega) (by rw [hz2]; omega) (by omega)
  rw [hz1, Int.toNat_natCast] at hmk
  have HZS : Hid ((madeCells (Value.agg #[.int .i64 0, .int .i64 0]).cells (n * 2)).size = 2 * n) := by
    show (madeCells _ _).size = _
    rw [size_madeCells]; omega
  generalize madeCells (Value.agg #[.int .i64 0, .int .i64 0]).cells (n * 2) = Z at hmk HZS
  have HU : Hid (Below w.heap.size w (w.alloc (.cells Z 50)) ∧ (w.alloc (.cells Z 50)).heap[w.heap.size]? = some (.cells Z 50 (0, 0))) := ⟨(Below.refl _ _).alloc (Nat.le_refl _) _, heap_alloc_new w _⟩
  go_enter Try.func10, Try.ntmps10
  go_wp2_with fail
  go_loopw [4] (fun v wr => ∃ (i : Nat) (C : Array Value), i ≤ n ∧ v = .int .i64 (i : Int) ∧ C.size = 2 * n ∧ Hid (Below w.heap.size w wr ∧ wr.heap[w.heap.size]? = some (.cells C 50 (0, 0))) ∧ Hid (∀ j, j < i → C[2 * j]? = some (.int .i64 (F j).1) ∧ C[2 * j + 1]? = some (.int .i64 (F j).2))) (fun v _ => n - natOfI v)
  case atStart => exact ⟨0, Z, by omega, rfl, HZS.out, HU, fun j hj => absurd hj (by omega)⟩
  case round =>
    clear HU
    obtain ⟨i, C, hi, rfl, hcs, HB, HCC⟩ := hrel
    have HCS : Hid (C.size = 2 * n) := hcs
    clear hcs
    by_cases hlt : i < n
    · have hltI : (i : Int) < (n : Int) := by omega
      obtain ⟨x0, x1⟩ := HC.out i hlt
      rw [← HB.out.1.cell (p := ⟨g, off + i * 2, none⟩) hg] at x0
      rw [← HB.out.1.cell (p := ⟨g, off + i * 2 + 1, none⟩) hg] at x1
      go_wp2_with fail
      refine (HT.out _ _ _).mono ?_
      rintro e w3 ⟨rfl, hb3⟩
      have hsz := HCS.out
      have hrow : w3.heap[w.heap.size]? = some (.cells C 50 (0, 0)) := (hb3.block _ (Array.getElem?_eq_some_iff.1 HB.out.2).1).trans HB.out.2
      have hbw : Below w.heap.size w w3 := blC HB.out.1 hb3 HB.out.1.size
      obtain ⟨q, hq⟩ : ∃ q, q = 2 * i := ⟨_, rfl⟩
      have hiq : i * 2 = q := by omega
      have HQ : Hid (q = 2 * i) := hq
      have HB3 : Hid (Below w.heap.size w w3 ∧ w3.heap[w.heap.size]? = some (.cells C 50 (0, 0))) := ⟨hbw, hrow⟩
      have y0 : w3.cell? ⟨w.heap.size, q, none⟩ = some C[q] := (cell_of_row w3 _ q _ _ _ hrow).trans (Array.getElem?_eq_getElem (by omega))
      have y1 : w3.cell? ⟨w.heap.size, q + 1, none⟩ = some C[q + 1] := (cell_of_row w3 _ (q + 1) _ _ _ hrow).trans (Array.getElem?_eq_getElem (by omega))
      have z0 := frozen_of_row w3 _ q _ _ hrow
      have z1 := frozen_of_row w3 _ (q + 1) _ _ hrow
      have HN : Hid (Below w.heap.size w (setW2 w3 w.heap.size q (.int .i64 (F i).1) (.int .i64 (F i).2)) ∧ (setW2 w3 w.heap.size q (.int .i64 (F i).1) (.int .i64 (F i).2)).heap[w.heap.size]? = some (.cells (set2 C q (.int .i64 (F i).1) (.int .i64 (F i).2)) 50 (0, 0))) :=
        ⟨setW2_below hbw (Nat.le_refl _) _ _ _, setW2_row hrow _ _ _⟩
      have HN2 : Hid (∀ j, j < i + 1 → (set2 C q (.int .i64 (F i).1) (.int .i64 (F i).2))[2 * j]? = some (.int .i64 (F j).1) ∧ (set2 C q (.int .i64 (F i).1) (.int .i64 (F i).2))[2 * j + 1]? = some (.int .i64 (F j).2)) := fun j hj => by
        by_cases hji : j < i
        · rw [set2_low _ _ _ _ _ (by omega), set2_low _ _ _ _ _ (by omega)]
          exact HCC.out j hji
        · obtain rfl : j = i := by omega
          rw [← hq]
          exact ⟨set2_0 _ _ _ _ (by omega), set2_1 _ _ _ _ (by omega)⟩
      generalize C[q] = u0 at y0
      generalize C[q + 1] = u1 at y1
      clear hsz hrow hbw hb3 x0 x1 hq HB
      go_wp2_with fail
      go_roundw
      case rel => exact ⟨i + 1, _, by omega, by go_num, (set2_size _ _ _ _).trans HCS.out, HN, HN2⟩
      case measure => simp [natOfI]; omega
    · obtain rfl : i = n := by omega
      go_wp2_with fail
      go_ret
      have hr := HB.out.2
      exact ⟨rfl, ⟨(Array.getElem?_eq_some_iff.1 hr).1, fun j hj => (cell_of_row wr _ _ _ _ _ hr).trans (HCC.out j hj).1, fun j hj => (cell_of_row wr _ _ _ _ _ hr).trans (HCC.out j hj).2⟩, HB.out.1⟩
set_option maxRecDepth 100000 in
theorem toChS_zero (a : Option Addr) (c : Nat) (w : World) :
    Calls Try.prog 10 #[.slice a 0 c] w fun e w' => (∃ b, e = .returned (.slice b 0 0)) ∧ Below w.heap.size w w' := by
  obtain ⟨i0, hi0, hz0, hz1, hz2⟩ := info_parts Try.infC
  have hmk := run_make (P := Try.prog) w 26 50 i0 (.agg #[.int .i64 0, .int .i64 0]) Try.underlying26 hi0 hz0 .i64 .i64 0 0 (by omega) (by omega) (by rw [hz2]; omega) (by omega)
  rw [hz1] at hmk
  generalize madeCells (Value.agg #[.int .i64 0, .int .i64 0]).cells _ = Z at hmk
  go_enter Try.func10, Try.ntmps10
  go_wp2_with fail
  refine wp_loop_rounds 1 ?_
  rw [rounds_succ]
  go_wp2_with fail
  go_ret
  exact ⟨⟨_, rfl⟩, (Below.refl _ _).alloc (Nat.le_refl _) _⟩
theorem toChS_any (v : Value) (n : Nat) (F : Nat → Int × Int) (w : World) (hn : n ≤ 1048576) (h : ChIn w v n F) :
    Calls Try.prog 10 #[v] w fun e w' => (∃ v', e = .returned v' ∧ ChArg w' v' n F) ∧ Below w.heap.size w w' := by
  obtain ⟨a, c, rfl, hr⟩ := h.form
  by_cases h0 : 0 < n
  · obtain ⟨g, off, rfl, hg, hx⟩ := hr h0
    refine (toChS_some g off c n F w hn hg hx).mono ?_
    rintro e w' ⟨rfl, hrow, hb⟩
    exact ⟨⟨_, rfl, _, _, rfl, fun _ => ⟨_, rfl, hrow⟩⟩, hb⟩
  · obtain rfl : n = 0 := by omega
    refine (toChS_zero a c w).mono ?_
    rintro e w' ⟨⟨b, rfl⟩, hb⟩
    exact ⟨⟨_, rfl, _, _, rfl, fun h => absurd h (by omega)⟩, hb⟩
set_option maxRecDepth 100000 in
theorem szCh_any (a : Option Addr) (n c : Nat) (w : World) (hm : n ≤ maxLen) :
    Calls Try.prog 8 #[.slice a n c, .int .i64 1048576] w fun e w' => e = .returned (.int .i64 (if n ≤ 1048576 then ((1048576 - n : Nat) : Int) else -1)) ∧ w' = w := by
  have hm' : n ≤ 9223372036854775807 := hm
  by_cases hn : n ≤ 1048576
  · rw [if_pos hn]
    have hw : IntKind.i64.wrap (1048576 - (n : Int)) = ((1048576 - n : Nat) : Int) := by rw [IntKind.wrap_i64]; omega
    have hl : ¬ ((1048576 - n : Nat) : Int) < 0 := by omega
    go_enter Try.func8, Try.ntmps8
    go_wp2_with fail
    go_ret
    exact ⟨rfl, rfl⟩
  · rw [if_neg hn]
    have hw : IntKind.i64.wrap (1048576 - (n : Int)) = 1048576 - (n : Int) := by rw [IntKind.wrap_i64]; omega
    have hl : (1048576 : Int) - (n : Int) < 0 := by omega
    go_enter Try.func8, Try.ntmps8
    go_wp2_with fail
    go_ret
    exact ⟨rfl, rfl⟩
set_option maxRecDepth 100000 in
theorem eqChS_zero (a b : Option Addr) (c d : Nat) (w : World) :
    Calls Try.prog 12 #[.slice a 0 c, .slice b 0 d] w fun e w' => e = .returned (.bool true) ∧ w' = w := by
  go_enter Try.func12, Try.ntmps12
  go_wp2_with fail
  refine wp_loop_rounds 1 ?_
  rw [rounds_succ]
  go_wp2_with fail
  go_ret
  exact ⟨rfl, rfl⟩
set_option maxRecDepth 100000 in
set_option maxHeartbeats 1000000 in
theorem eqChS_rows (g h c d n : Nat) (xs : List Value) (w : World) (hn : n ≤ 1048576) (hx : ∀ i, i < n → ∃ (k b : Int), xs[2 * i]? = some (.int .i64 k) ∧ xs[2 * i + 1]? = some (.int .i64 b))
    (hg : ∀ j v, xs[j]? = some v → w.cell? ⟨g, j, none⟩ = some v) (hh : ∀ j v, xs[j]? = some v → w.cell? ⟨h, j, none⟩ = some v) (hgl : g < w.heap.size) (hhl : h < w.heap.size) :
    Calls Try.prog 12 #[.slice (some ⟨g, 0, none⟩) n c, .slice (some ⟨h, 0, none⟩) n d] w fun e w' => e = .returned (.bool true) ∧ Below w.heap.size w w' := by
  have HX : Hid _ := hx
  have HG : Hid _ := hg
  have HH : Hid _ := hh
  have HGL : Hid (g < w.heap.size ∧ h < w.heap.size) := ⟨hgl, hhl⟩
  have HE : Hid (∀ (k b : Int) w, _) := fun k b w => eqCh_same k b w
  clear hx hg hh hgl hhl
  go_enter Try.func12, Try.ntmps12
  go_wp2_with fail
  go_loopw [5] (fun v wr => ∃ i : Nat, i ≤ n ∧ v = .int .i64 (i : Int) ∧ Below w.heap.size w wr) (fun v _ => n - natOfI v)
  case atStart => exact ⟨0, by omega, rfl, Below.refl _ _⟩
  case round =>
    obtain ⟨i, hi, rfl, hb⟩ := hrel
    by_cases hlt : i < n
    · have hltI : (i : Int) < (n : Int) := by omega
      obtain ⟨k, b, x0, x1⟩ := HX.out i hlt
      obtain ⟨q, hq⟩ : ∃ q, q = 2 * i := ⟨_, rfl⟩
      rw [← hq] at x0 x1
      obtain ⟨S, hSS⟩ : ∃ S : World → Prop, S = fun w' => Below w.heap.size w w' := ⟨_, rfl⟩
      have hSd : S wr.drew := by rw [hSS]; exact hb.drew
      have hrow : ∀ (t : Nat), (∀ j v, xs[j]? = some v → w.cell? ⟨t, j, none⟩ = some v) → t < w.heap.size → ∀ w', S w' → w'.rangeAt t q [.int .i64 k, .int .i64 b] := fun t ht htl w' hw' j v hv => by
        rw [hSS] at hw'
        rw [Below.cell hw' (p := ⟨t, q + j, none⟩) htl]
        apply ht
        match j, hv with
        | 0, hv => simp at hv; subst hv; exact x0
        | 1, hv => simp at hv; subst hv; exact x1
      have HRG : Hid (∀ w', S w' → w'.rangeAt g q [.int .i64 k, .int .i64 b]) := hrow g HG.out HGL.out.1
      have HRH : Hid (∀ w', S w' → w'.rangeAt h q [.int .i64 k, .int .i64 b]) := hrow h HH.out HGL.out.2
      have HEE : Hid (∀ w, Calls Try.prog 33 #[chV k b, chV k b] w fun e w' => e = .returned (.bool true) ∧ Below w.heap.size w w') := fun w => HE.out k b w
      have HS : Hid _ := hSS
      have HQ : Hid (q = 2 * i) := hq
      have hiq : i * 2 = q := by omega
      unfold chV at HEE
      clear hSS hrow x0 x1 hq
      go_wp2_with fail
      refine wp_region_held (S := S) (by kernel_rfl) ?_
      change wpAnyH _ _ _ _ _ _ _ _ (World.drew _)
      refine wpAnyH_take (i := 0) (v := .slice (some ⟨g, 0, none⟩) n c) rfl (by kernel_rfl) (by kernel_rfl) (by kernel_rfl) (fun _ _ _ h => h) (Or.inl ⟨by rfl, by intro w' hS'; go_simp <;> (first | omega | (rw [IntKind.wrap_i64]; omega) | (rw [IntKind.wrap_u64]; omega) | (rw [IntKind.wrap_u32]; omega) | (rw [Int.tmod_eq_emod_of_nonneg (by omega)]))⟩) hSd ?_
      (try simp only [List.getElem_toArray, List.getElem_cons_succ, List.getElem_cons_zero, Act.put, List.setIfInBounds_toArray, List.set_cons_zero, List.set_cons_succ])
      refine wpAnyH_take (i := 1) (v := .int .i64 (i : Int)) rfl (by kernel_rfl) (by kernel_rfl) (by kernel_rfl) (fun _ _ _ h => h) (Or.inl ⟨by rfl, by intro w' hS'; go_simp <;> (first | omega | (rw [IntKind.wrap_i64]; omega) | (rw [IntKind.wrap_u64]; omega) | (rw [IntKind.wrap_u32]; omega) | (rw [Int.tmod_eq_emod_of_nonneg (by omega)]))⟩) hSd ?_
      (try simp only [List.getElem_toArray, List.getElem_cons_succ, List.getElem_cons_zero, Act.put, List.setIfInBounds_toArray, List.set_cons_zero, List.set_cons_succ])
      refine wpAnyH_take (i := 2) (v := .pointer (some ⟨g, q, none⟩)) rfl (by kernel_rfl) (by kernel_rfl) (by kernel_rfl) (fun _ _ _ h => h) (Or.inl ⟨by rfl, by intro w' hS'; go_simp <;> (first | omega | (rw [IntKind.wrap_i64]; omega) | (rw [IntKind.wrap_u64]; omega) | (rw [IntKind.wrap_u32]; omega) | (rw [Int.tmod_eq_emod_of_nonneg (by omega)]))⟩) hSd ?_
      (try simp only [List.getElem_toArray, List.getElem_cons_succ, List.getElem_cons_zero, Act.put, List.setIfInBounds_toArray, List.set_cons_zero, List.set_cons_succ])
      refine wpAnyH_take (i := 3) (v := .agg #[.int .i64 k, .int .i64 b]) rfl (by kernel_rfl) (by kernel_rfl) (by kernel_rfl) (fun _ _ _ h => h) (yieldsIf_load_mid (by rfl) 50 (.tmp 19) rfl g q rfl [.int .i64 k, .int .i64 b] _ HRG.out Try.underlying50 rfl (by kernel_rfl)) hSd ?_
      (try simp only [List.getElem_toArray, List.getElem_cons_succ, List.getElem_cons_zero, Act.put, List.setIfInBounds_toArray, List.set_cons_zero, List.set_cons_succ])
      refine wpAnyH_take (i := 4) (v := .slice (some ⟨h, 0, none⟩) n d) rfl (by kernel_rfl) (by kernel_rfl) (by kernel_rfl) (fun _ _ _ h => h) (Or.inl ⟨by rfl, by intro w' hS'; go_simp <;> (first | omega | (rw [IntKind.wrap_i64]; omega) | (rw [IntKind.wrap_u64]; omega) | (rw [IntKind.wrap_u32]; omega) | (rw [Int.tmod_eq_emod_of_nonneg (by omega)]))⟩) hSd ?_
      (try simp only [List.getElem_toArray, List.getElem_cons_succ, List.getElem_cons_zero, Act.put, List.setIfInBounds_toArray, List.set_cons_zero, List.set_cons_succ])
      refine wpAnyH_take (i := 5) (v := .int .i64 (i : Int)) rfl (by kernel_rfl) (by kernel_rfl) (by kernel_rfl) (fun _ _ _ h => h) (Or.inl ⟨by rfl, by intro w' hS'; go_simp <;> (first | omega | (rw [IntKind.wrap_i64]; omega) | (rw [IntKind.wrap_u64]; omega) | (rw [IntKind.wrap_u32]; omega) | (rw [Int.tmod_eq_emod_of_nonneg (by omega)]))⟩) hSd ?_
      (try simp only [List.getElem_toArray, List.getElem_cons_succ, List.getElem_cons_zero, Act.put, List.setIfInBounds_toArray, List.set_cons_zero, List.set_cons_succ])
      refine wpAnyH_take (i := 6) (v := .pointer (some ⟨h, q, none⟩)) rfl (by kernel_rfl) (by kernel_rfl) (by kernel_rfl) (fun _ _ _ h => h) (Or.inl ⟨by rfl, by intro w' hS'; go_simp <;> (first | omega | (rw [IntKind.wrap_i64]; omega) | (rw [IntKind.wrap_u64]; omega) | (rw [IntKind.wrap_u32]; omega) | (rw [Int.tmod_eq_emod_of_nonneg (by omega)]))⟩) hSd ?_
      (try simp only [List.getElem_toArray, List.getElem_cons_succ, List.getElem_cons_zero, Act.put, List.setIfInBounds_toArray, List.set_cons_zero, List.set_cons_succ])
      refine wpAnyH_take (i := 7) (v := .agg #[.int .i64 k, .int .i64 b]) rfl (by kernel_rfl) (by kernel_rfl) (by kernel_rfl) (fun _ _ _ h => h) (yieldsIf_load_mid (by rfl) 50 (.tmp 23) rfl h q rfl [.int .i64 k, .int .i64 b] _ HRH.out Try.underlying50 rfl (by kernel_rfl)) hSd ?_
      (try simp only [List.getElem_toArray, List.getElem_cons_succ, List.getElem_cons_zero, Act.put, List.setIfInBounds_toArray, List.set_cons_zero, List.set_cons_succ])
      refine held_step (i := 8) (by kernel_rfl) rfl (by rfl) ?_
      go_simp
      refine (HEE.out _).mono ?_
      rintro e w3 ⟨rfl, hb3⟩
      have hb4 : Below w.heap.size w w3 := by have hx := hSd; rw [HS.out] at hx; exact ⟨hb3.os.trans hx.os, hb3.tape.trans hx.tape, hb3.output.trans hx.output, Nat.le_trans hx.size hb3.size, fun i hi => (hb3.block i (Nat.lt_of_lt_of_le hi hx.size)).trans (hx.block i hi)⟩
      have hS3 : S w3 := by rw [HS.out]; exact hb4
      refine ⟨hS3, ?_⟩
      (try simp only [List.getElem_toArray, List.getElem_cons_succ, List.getElem_cons_zero, Act.put, List.setIfInBounds_toArray, List.set_cons_zero, List.set_cons_succ])
      refine wpAnyH_take (i := 9) (v := .bool false) rfl (by kernel_rfl) (by kernel_rfl) (by kernel_rfl) (fun _ _ _ h => h) (Or.inl ⟨by rfl, by intro w' hS'; go_simp <;> (first | omega | (rw [IntKind.wrap_i64]; omega) | (rw [IntKind.wrap_u64]; omega) | (rw [IntKind.wrap_u32]; omega) | (rw [Int.tmod_eq_emod_of_nonneg (by omega)]) | rfl)⟩) hS3 ?_
      (try simp only [List.getElem_toArray, List.getElem_cons_succ, List.getElem_cons_zero, Act.put, List.setIfInBounds_toArray, List.set_cons_zero, List.set_cons_succ])
      refine wpAnyH_done (by kernel_rfl) ?_ _
      go_wp2_with fail
      go_roundw
      case rel => exact ⟨i + 1, by omega, by go_num, hb4⟩
      case measure => simp [natOfI]; omega
    · obtain rfl : i = n := by omega
      go_wp2_with fail
      go_ret
      exact ⟨rfl, hb⟩
def cellC (F : Nat → Int × Int) (j : Nat) : Value := if j % 2 = 0 then .int .i64 (F (j / 2)).1 else .int .i64 (F (j / 2)).2
theorem cellC_0 (F : Nat → Int × Int) (i : Nat) : cellC F (2 * i) = .int .i64 (F i).1 := by unfold cellC; rw [if_pos (by omega), show 2 * i / 2 = i by omega]
theorem cellC_1 (F : Nat → Int × Int) (i : Nat) : cellC F (2 * i + 1) = .int .i64 (F i).2 := by unfold cellC; rw [if_neg (by omega), show (2 * i + 1) / 2 = i by omega]
def cellCX (F : Nat → Int × Int) (n : Nat) : List Value := (List.range (2 * n)).map (cellC F)
theorem cellCX_at (F : Nat → Int × Int) (n j : Nat) (h : j < 2 * n) : (cellCX F n)[j]? = some (cellC F j) := by
  unfold cellCX; rw [List.getElem?_map, List.getElem?_range h]; rfl
theorem cellCX_lt {F : Nat → Int × Int} {n j : Nat} {v : Value} (h : (cellCX F n)[j]? = some v) : j < 2 * n := by
  obtain ⟨hl, _⟩ := List.getElem?_eq_some_iff.1 h
  simpa [cellCX] using hl
theorem ChRow.at {w : World} {g n : Nat} {F : Nat → Int × Int} (h : ChRow w g n F) (j : Nat) (v : Value) (hv : (cellCX F n)[j]? = some v) : w.cell? ⟨g, j, none⟩ = some v := by
  have hj := cellCX_lt hv
  rw [cellCX_at _ _ _ hj] at hv
  injection hv with hv
  subst hv
  obtain ⟨i, h4⟩ : ∃ i, j = 2 * i ∨ j = 2 * i + 1 := ⟨j / 2, by omega⟩
  rcases h4 with rfl | rfl
  · rw [cellC_0]; exact h.x i (by omega)
  · rw [cellC_1]; exact h.b i (by omega)
theorem eqChS_any (v1 v2 : Value) (n : Nat) (F : Nat → Int × Int) (w : World) (hn : n ≤ 1048576) (h1 : ChArg w v1 n F) (h2 : ChArg w v2 n F) :
    Calls Try.prog 12 #[v1, v2] w fun e w' => e = .returned (.bool true) ∧ Below w.heap.size w w' := by
  obtain ⟨a, c, rfl, ha⟩ := h1
  obtain ⟨b, d, rfl, hb⟩ := h2
  by_cases h0 : 0 < n
  · obtain ⟨g, rfl, hg⟩ := ha h0
    obtain ⟨h, rfl, hh⟩ := hb h0
    exact eqChS_rows g h c d n (cellCX F n) w hn (fun i hi => ⟨_, _, by rw [cellCX_at _ _ _ (by omega), cellC_0], by rw [cellCX_at _ _ _ (by omega), cellC_1]⟩) hg.at hh.at hg.lt hh.lt
  · obtain rfl : n = 0 := by omega
    refine (eqChS_zero a b c d w).mono ?_
    rintro e w' ⟨rfl, rfl⟩
    exact ⟨rfl, Below.refl _ _⟩
end Go.Proofs.Ytckpnggjboafpam
