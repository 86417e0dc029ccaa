/-
  The list of links that the law makes of one that came in.
-/
import Derived.Test.YtpeddaljgmkomaaLkA
namespace Go.Proofs.Ytpeddaljgmkomaa
open Go.RowKit
set_option linter.unusedVariables false
set_option linter.unusedSimpArgs false
theorem take_set3 {C : Array Value} {q : Nat} {a b c : Value} (h : q + 2 < C.size) : (set3 C q a b c).toList.take (q + 3) = C.toList.take q ++ [a, b, c] := by
  apply List.ext_getElem?
  intro j
  have hs : (set3 C q a b c).size = C.size := set3_size _ _ _ _ _
  by_cases hj : j < q
  · rw [List.getElem?_take_of_lt (by omega), List.getElem?_append_left (by simp; omega), List.getElem?_take_of_lt hj, Array.getElem?_toList, Array.getElem?_toList, set3_low _ _ _ _ _ _ hj]
  · rw [List.getElem?_append_right (by simp; omega)]
    have hl : (C.toList.take q).length = q := by simp; omega
    rw [hl]
    by_cases hj3 : j < q + 3
    · rw [List.getElem?_take_of_lt hj3, Array.getElem?_toList]
      rcases (show j = q ∨ j = q + 1 ∨ j = q + 2 by omega) with rfl | rfl | rfl
      · rw [set3_0 _ _ _ _ _ h]; simp
      · rw [set3_1 _ _ _ _ _ h]; simp
      · rw [set3_2 _ _ _ _ _ h]; simp
    · rw [List.getElem?_eq_none (by simp; omega), List.getElem?_eq_none (by simp; omega)]
set_option maxRecDepth 100000 in
set_option maxHeartbeats 4000000 in
theorem toLkS_some (g off c n : Nat) (L : List LkI) (hLn : n = L.length) (w : World) (hn : n ≤ 1048576) (hp : ∀ x ∈ L, x.p.length ≤ 1048576) (hg : g < w.heap.size)
    (h0 : ∀ i x, L[i]? = some x → ∃ pv, w.cell? ⟨g, off + i * 3, none⟩ = some (.int .i64 x.b) ∧ w.cell? ⟨g, off + i * 3 + 1, none⟩ = some (.string x.d) ∧ w.cell? ⟨g, off + i * 3 + 2, none⟩ = some pv ∧ Rd w (pcsD x.p) pv) :
    Calls Try.prog 15 #[.slice (some ⟨g, off, none⟩) n c] w fun e w' => (e = .returned (.slice (some ⟨w.heap.size, 0, none⟩) n n) ∧ Own w' w.heap.size (lksD L) (.slice (some ⟨w.heap.size, 0, none⟩) n n)) ∧ Below w.heap.size w w' := by
  have hnI : (n : Int) ≤ 1048576 := by omega
  have HT : Hid (∀ (x : LkI) (pv : Value) (w : World), x.p.length ≤ 1048576 → Rd w (pcsD x.p) pv → Calls Try.prog 39 #[.agg #[.int .i64 x.b, .string x.d, pv]] w fun e w' => (∃ pv', e = .returned (.agg #[.int .i64 x.b, .string x.d, pv']) ∧ Own w' w.heap.size (pcsD x.p) pv') ∧ Below w.heap.size w w') := fun x pv w h1 h2 => toLk_one x pv w h1 h2
  have HC : Hid (n = L.length ∧ (∀ x ∈ L, x.p.length ≤ 1048576) ∧ ∀ i x, L[i]? = some x → ∃ pv, w.cell? ⟨g, off + i * 3, none⟩ = some (.int .i64 x.b) ∧ w.cell? ⟨g, off + i * 3 + 1, none⟩ = some (.string x.d) ∧ w.cell? ⟨g, off + i * 3 + 2, none⟩ = some pv ∧ Rd w (pcsD x.p) pv) := ⟨hLn, hp, h0⟩
  clear h0 hp hLn
  obtain ⟨i0, hi0, hz0, hz1, hz2⟩ := info_parts Try.infLk
  have hmk := run_make (P := Try.prog) w 25 54 i0 (.agg #[.int .i64 0, .string ⟨#[]⟩, .slice none 0 0]) Try.underlying25 hi0 hz0 .i64 .i64 (n : Int) (n : Int) (by omega) (by omega) (by rw [hz2]; omega) (by omega)
  rw [hz1, Int.toNat_natCast] at hmk
  have HZS : Hid ((madeCells (Value.agg #[.int .i64 0, .string ⟨#[]⟩, .slice none 0 0]).cells (n * 3)).size = 3 * n) := by
    show (madeCells _ _).size = _
    rw [size_madeCells]; omega
  generalize madeCells (Value.agg #[.int .i64 0, .string ⟨#[]⟩, .slice none 0 0]).cells (n * 3) = Z at hmk HZS
  have HU : Hid (Below w.heap.size w (w.alloc (.cells Z 54)) ∧ (w.alloc (.cells Z 54)).heap[w.heap.size]? = some (.cells Z 54 (0, 0))) := ⟨(Below.refl _ _).alloc (Nat.le_refl _) _, heap_alloc_new w _⟩
  go_enter Try.func15, Try.ntmps15
  go_wp2_with fail
  go_loopw [4] (fun v wr => ∃ (i : Nat) (C : Array Value), i ≤ n ∧ v = .int .i64 (i : Int) ∧ C.size = 3 * n ∧ Hid (Below w.heap.size w wr ∧ wr.heap[w.heap.size]? = some (.cells C 54 (0, 0))) ∧ Hid (Nst wr (w.heap.size + 1) (C.toList.take (3 * i)) ((L.take i).flatMap lkDs))) (fun v _ => n - (intN v).toNat)
  case atStart => exact ⟨0, Z, by omega, rfl, HZS.out, HU, Nst.nil _ _⟩
  case round =>
    clear HU
    obtain ⟨i, C, hi, rfl, hcs, HB, HCC⟩ := hrel
    have HCS : Hid (C.size = 3 * n) := hcs
    clear hcs
    by_cases hlt : i < n
    · have hltI : (i : Int) < (n : Int) := by omega
      have hx := List.getElem?_eq_getElem (l := L) (i := i) (by have := HC.out.1; omega)
      have hpx := HC.out.2.1 _ (List.mem_of_getElem? hx)
      obtain ⟨pv, x0, x1, x2, hrd⟩ := HC.out.2.2 i _ hx
      generalize L[i]'_ = x at hx hpx x0 x1 x2 hrd
      have HX : Hid (L[i]? = some x) := hx
      rw [← HB.out.1.cell (p := ⟨g, off + i * 3, none⟩) hg] at x0
      rw [← HB.out.1.cell (p := ⟨g, off + i * 3 + 1, none⟩) hg] at x1
      rw [← HB.out.1.cell (p := ⟨g, off + i * 3 + 2, none⟩) hg] at x2
      obtain ⟨a1, n1, c1, rfl, _⟩ := hrd.slice
      have HTT : Hid (Calls Try.prog 39 #[.agg #[.int .i64 x.b, .string x.d, .slice a1 n1 c1]] wr fun e w' => (∃ pv', e = .returned (.agg #[.int .i64 x.b, .string x.d, pv']) ∧ Own w' wr.heap.size (pcsD x.p) pv') ∧ Below wr.heap.size wr w') := HT.out x _ wr hpx (hrd.under HB.out.1)
      clear hx hpx hrd
      go_wp2_with fail
      refine HTT.out.mono ?_
      rintro e w3 ⟨⟨v', rfl, ho⟩, hb3⟩
      obtain ⟨a2, n2, c2, rfl, _⟩ := ho.rd.slice
      have hsz := HCS.out
      have hrow : w3.heap[w.heap.size]? = some (.cells C 54 (0, 0)) := (hb3.block _ (Array.getElem?_eq_some_iff.1 HB.out.2).1).trans HB.out.2
      have hbw : Below w.heap.size w w3 := dblow HB.out.1 hb3 HB.out.1.size
      obtain ⟨q, hq⟩ : ∃ q, q = 3 * i := ⟨_, rfl⟩
      have hiq : i * 3 = q := by omega
      have hqc : q + 2 < C.size := by omega
      have y0 : w3.cell? ⟨w.heap.size, q, none⟩ = some C[q] := (cell_of_row w3 _ q _ _ _ hrow).trans (Array.getElem?_eq_getElem (by omega))
      have y1 : w3.cell? ⟨w.heap.size, q + 1, none⟩ = some C[q + 1] := (cell_of_row w3 _ (q + 1) _ _ _ hrow).trans (Array.getElem?_eq_getElem (by omega))
      have y2 : w3.cell? ⟨w.heap.size, q + 2, none⟩ = some C[q + 2] := (cell_of_row w3 _ (q + 2) _ _ _ hrow).trans (Array.getElem?_eq_getElem (by omega))
      have z0 := frozen_of_row w3 _ q _ _ hrow
      have z1 := frozen_of_row w3 _ (q + 1) _ _ hrow
      have z2 := frozen_of_row w3 _ (q + 2) _ _ hrow
      have HN : Hid (Below w.heap.size w (setW3 w3 w.heap.size q (.int .i64 x.b) (.string x.d) (.slice a2 n2 c2)) ∧ (setW3 w3 w.heap.size q (.int .i64 x.b) (.string x.d) (.slice a2 n2 c2)).heap[w.heap.size]? = some (.cells (set3 C q (.int .i64 x.b) (.string x.d) (.slice a2 n2 c2)) 54 (0, 0))) :=
        ⟨setW3_below hbw (Nat.le_refl _) _ _ _ _, setW3_row hrow _ _ _ _⟩
      have HN2 : Hid (Nst (setW3 w3 w.heap.size q (.int .i64 x.b) (.string x.d) (.slice a2 n2 c2)) (w.heap.size + 1) ((set3 C q (.int .i64 x.b) (.string x.d) (.slice a2 n2 c2)).toList.take (3 * (i + 1))) ((L.take (i + 1)).flatMap lkDs)) := by
        rw [show 3 * (i + 1) = q + 3 by omega, take_set3 hqc, fm_take lkDs HX.out, hq]
        have hwl : w.heap.size < wr.heap.size := (Array.getElem?_eq_some_iff.1 HB.out.2).1
        refine (HCC.out.app hb3 (Nst.one _ (Nst.one _ ho.nst)) hwl).keep fun b hb _ => ?_
        exact setW3_other _ _ _ _ _ _ (by omega)
      have HSS : Hid ((set3 C q (.int .i64 x.b) (.string x.d) (.slice a2 n2 c2)).size = 3 * n) := (set3_size _ _ _ _ _).trans HCS.out
      generalize C[q] = u0 at y0
      generalize C[q + 1] = u1 at y1
      generalize C[q + 2] = u2 at y2
      clear hsz hrow hbw hb3 x0 x1 x2 hq HB ho HTT HCC hqc
      go_wp2_with fail
      go_roundw
      case rel => exact ⟨i + 1, _, by omega, by go_num, HSS.out, HN, HN2⟩
      case measure => simp [intN]; omega
    · obtain rfl : i = n := by omega
      go_wp2_with fail
      go_ret
      have hr := HB.out.2
      have hnL := HC.out.1
      refine ⟨⟨rfl, Own.of_nst (lo := w.heap.size + 1) (us := C.toList.take (3 * i)) ⟨by rw [List.length_take]; have := HCS.out; simp; omega, Or.inr ⟨w.heap.size, i, C, rfl, Nat.le_refl _, hr, Nat.le_refl _, by unfold maxLen; omega, by rw [HCS.out]; omega, by rw [Nat.mul_comm]⟩⟩ (by omega) (by have h := HCC.out; rw [List.take_of_length_le (by omega : L.length ≤ i)] at h; exact h) (by rw [fm_len lkDs_len]; omega) (by omega) (fun g' hg' => by have e : w.heap.size = g' := Option.some.inj hg'; omega)⟩, HB.out.1⟩
set_option maxRecDepth 100000 in
theorem toLkS_zero (a : Option Addr) (c : Nat) (w : World) :
    Calls Try.prog 15 #[.slice a 0 c] w fun e w' => (∃ b, e = .returned (.slice b 0 0)) ∧ Below w.heap.size w w' := by
  obtain ⟨i0, hi0, hz0, hz1, hz2⟩ := info_parts Try.infLk
  have hmk := run_make (P := Try.prog) w 25 54 i0 (.agg #[.int .i64 0, .string ⟨#[]⟩, .slice none 0 0]) Try.underlying25 hi0 hz0 .i64 .i64 0 0 (by omega) (by omega) (by rw [hz2]; omega) (by omega)
  rw [hz1] at hmk
  generalize madeCells (Value.agg #[.int .i64 0, .string ⟨#[]⟩, .slice none 0 0]).cells _ = Z at hmk
  go_enter Try.func15, Try.ntmps15
  go_wp2_with fail
  refine wp_loop_rounds 1 ?_
  rw [rounds_succ]
  go_wp2_with fail
  go_ret
  exact ⟨⟨_, rfl⟩, (Below.refl _ _).alloc (Nat.le_refl _) _⟩
theorem toLkS_deep (v : Value) (L : List LkI) (w : World) (hn : L.length ≤ 1048576) (hp : ∀ x ∈ L, x.p.length ≤ 1048576) (h : Rd w (lksD L) v) :
    Calls Try.prog 15 #[v] w fun e w' => (∃ v', e = .returned v' ∧ Own w' w.heap.size (lksD L) v') ∧ Below w.heap.size w w' := by
  obtain ⟨a, c, rfl, hr⟩ := lks_rd h
  by_cases h0 : 0 < L.length
  · obtain ⟨g, off, rfl, hg, hx⟩ := hr h0
    refine (toLkS_some g off c L.length L rfl w hn hp hg hx).mono ?_
    rintro e w' ⟨⟨rfl, ho⟩, hb⟩
    exact ⟨⟨_, rfl, ho⟩, hb⟩
  · have e0 : L = [] := List.length_eq_zero_iff.1 (by omega)
    subst e0
    refine (toLkS_zero a c w).mono ?_
    rintro e w' ⟨⟨b, rfl⟩, hb⟩
    exact ⟨⟨_, rfl, [], .nil _ _ _ _, List.nodup_nil, fun b hb => by cases hb⟩, hb⟩
end Go.Proofs.Ytpeddaljgmkomaa
