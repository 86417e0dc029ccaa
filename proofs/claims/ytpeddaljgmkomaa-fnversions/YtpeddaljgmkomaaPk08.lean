/-
  Several texts of this seat as one: PMkF, PcD, LkA.
-/
import Derived.Test.YtpeddaljgmkomaaPk03
import Derived.Test.YtpeddaljgmkomaaPk00
import Derived.Test.YtpeddaljgmkomaaPk01
import Derived.Test.YtpeddaljgmkomaaPk02
import Derived.Test.YtpeddaljgmkomaaPk07

/-!   Pieces that are marked, with the row that they lie in. -/
namespace Go.Proofs.Ytpeddaljgmkomaa
open Go.RowKit
set_option linter.unusedVariables false
set_option linter.unusedSimpArgs false
set_option maxRecDepth 100000 in
set_option maxHeartbeats 2000000 in
theorem markPF (g c n k : Nat) (cur : Array Value) (w : World) (hn : n ≤ 1048576) (h1 : 1 ≤ k) (hk : k ≤ 4000000) (hg : w.heap[g]? = some (.cells cur 89 (0, 0))) (hcs : 3 * n ≤ cur.size) :
    Calls Try.prog 52 #[.slice (some ⟨g, 0, none⟩) n c, .int .i64 (k : Int)] w fun e w' => (e = .returned (.int .i64 ((k + 3 * n : Nat) : Int)) ∧ ∃ C, w'.heap[g]? = some (.cells C 89 (0, 0)) ∧ 3 * n ≤ C.size ∧ ∀ j, j < n → C[3 * j]? = some (.int .i64 ((k + 3 * j : Nat) : Int)) ∧ C[3 * j + 1]? = some (.int .i64 ((k + 3 * j + 1 : Nat) : Int)) ∧ C[3 * j + 2]? = some (.string (mkT (k + 3 * j + 2)))) ∧ w.grownBy w' (some g) := by
  have HM : Hid (∀ (k : Nat) (w : World), 1 ≤ k → k ≤ 10000000 → Calls Try.prog 51 #[.int .i64 (k : Int)] w fun e w' => e = .returned (.string (mkT k)) ∧ Below w.heap.size w w') := fun k w h1 h2 => markT_any k w h1 h2
  have HST : Hid (w.grownBy w (some g) ∧ w.heap[g]? = some (.cells cur 89 (0, 0)) ∧ 3 * n ≤ cur.size) := ⟨⟨rfl, rfl, rfl, Nat.le_refl _, fun _ _ _ => rfl⟩, hg, hcs⟩
  clear hg hcs
  go_enter Try.func52, Try.ntmps52
  go_wp2_with fail
  go_loopw [1, 5] (fun x v wr => ∃ (i : Nat) (C : Array Value), i ≤ n ∧ x = .int .i64 ((k + 3 * i : Nat) : Int) ∧ v = .int .i64 (i : Int) ∧ Hid (w.grownBy wr (some g) ∧ wr.heap[g]? = some (.cells C 89 (0, 0)) ∧ 3 * n ≤ C.size) ∧ Hid (∀ j, j < i → C[3 * j]? = some (.int .i64 ((k + 3 * j : Nat) : Int)) ∧ C[3 * j + 1]? = some (.int .i64 ((k + 3 * j + 1 : Nat) : Int)) ∧ C[3 * j + 2]? = some (.string (mkT (k + 3 * j + 2))))) (fun _ v _ => n - natP v)
  case atStart => exact ⟨0, cur, by omega, rfl, rfl, HST, fun j hj => absurd hj (by omega)⟩
  case round =>
    obtain ⟨i, C, hi, rfl, rfl, HW, HC⟩ := hrel
    by_cases hlt : i < n
    · have hltI : (i : Int) < (n : Int) := by omega
      obtain ⟨q, hq⟩ : ∃ q, q = 3 * i := ⟨_, rfl⟩
      obtain ⟨k0, hk0⟩ : ∃ k0, k0 = k + 3 * i := ⟨_, rfl⟩
      obtain ⟨k2, hk2⟩ : ∃ k2, k2 = k0 + 2 := ⟨_, rfl⟩
      have HMK : Hid (∀ w, Calls Try.prog 51 #[.int .i64 (k2 : Int)] w fun e w' => e = .returned (.string (mkT k2)) ∧ Below w.heap.size w w') := fun w => HM.out k2 w (by omega) (by omega)
      have hsz := HW.out.2.2
      have HT : Hid (∀ j, j < i + 1 → (set3 C q (.int .i64 (k0 : Int)) (.int .i64 ((k0 : Int) + 1)) (.string (mkT k2)))[3 * j]? = some (.int .i64 ((k + 3 * j : Nat) : Int)) ∧ (set3 C q (.int .i64 (k0 : Int)) (.int .i64 ((k0 : Int) + 1)) (.string (mkT k2)))[3 * j + 1]? = some (.int .i64 ((k + 3 * j + 1 : Nat) : Int)) ∧ (set3 C q (.int .i64 (k0 : Int)) (.int .i64 ((k0 : Int) + 1)) (.string (mkT k2)))[3 * j + 2]? = some (.string (mkT (k + 3 * j + 2)))) := fun j hj => by
        by_cases hji : j < i
        · rw [set3_low _ _ _ _ _ _ (by omega), set3_low _ _ _ _ _ _ (by omega), set3_low _ _ _ _ _ _ (by omega)]
          exact HC.out j hji
        · obtain rfl : j = i := by omega
          rw [← hq, set3_0 _ _ _ _ _ (by omega), set3_1 _ _ _ _ _ (by omega), set3_2 _ _ _ _ _ (by omega)]
          have e1 : k + q = k0 := by omega
          rw [e1, ← hk2]
          exact ⟨rfl, by congr 2, rfl⟩
      have ei : ((k + 3 * i : Nat) : Int) = (k0 : Int) := by omega
      have ek2 : (k0 : Int) + 1 + 1 = (k2 : Int) := by omega
      have hiq : i * 3 = q := by omega
      have hk0l : k0 ≤ 8000000 := by omega
      have hk2l : k2 ≤ 8000002 := by omega
      have hqs : q + 2 < C.size := by omega
      have HK : Hid (k0 = k + 3 * i ∧ k2 = k0 + 2) := ⟨hk0, hk2⟩
      have hrow := HW.out.2.1
      have x0 : wr.cell? ⟨g, q, none⟩ = some C[q] := (cell_of_row wr _ q _ _ _ hrow).trans (Array.getElem?_eq_getElem (by omega))
      have x1 : wr.cell? ⟨g, q + 1, none⟩ = some C[q + 1] := (cell_of_row wr _ (q + 1) _ _ _ hrow).trans (Array.getElem?_eq_getElem (by omega))
      have z0 := frozen_of_row wr _ q _ _ hrow
      have z1 := frozen_of_row wr _ (q + 1) _ _ hrow
      have hr2 : ((wr.setCell ⟨g, q, none⟩ (.int .i64 (k0 : Int))).setCell ⟨g, q + 1, none⟩ (.int .i64 ((k0 : Int) + 1))).heap[g]? = some (.cells ((C.setIfInBounds q (.int .i64 (k0 : Int))).setIfInBounds (q + 1) (.int .i64 ((k0 : Int) + 1))) 89 (0, 0)) := heap_setCell_same _ _ _ _ _ _ (heap_setCell_same _ _ _ _ _ _ hrow)
      have hg2 : w.grownBy ((wr.setCell ⟨g, q, none⟩ (.int .i64 (k0 : Int))).setCell ⟨g, q + 1, none⟩ (.int .i64 ((k0 : Int) + 1))) (some g) := by
        have hg := HW.out.1
        exact ⟨hg.os, hg.tape, hg.output, by simp; exact hg.size, fun k hk hne => (heap_setCell_other _ _ _ _ (fun e => hne (by rw [e]))).trans ((heap_setCell_other _ _ _ _ (fun e => hne (by rw [e]))).trans (hg.block k hk hne))⟩
      have HR2 : Hid _ := hr2
      have HG2 : Hid _ := hg2
      generalize hT : mkT k2 = T at *
      generalize C[q] = y0 at x0
      generalize C[q + 1] = y1 at x1
      rw [ei]
      clear hq hk0 hk2 ei hT hrow hr2 hg2 HW
      go_wp2_with fail
      refine (HMK.out _).mono ?_
      rintro e w3 ⟨rfl, hb3⟩
      have hrow3 := (hb3.block g (row_ltM HR2.out)).trans HR2.out
      have x2 : w3.cell? ⟨g, q + 2, none⟩ = some C[q + 2] := by
        rw [cell_of_row w3 _ (q + 2) _ _ _ hrow3, Array.getElem?_setIfInBounds_ne (by omega), Array.getElem?_setIfInBounds_ne (by omega)]
        exact Array.getElem?_eq_getElem (by omega)
      have z2 := frozen_of_row w3 _ (q + 2) _ _ hrow3
      have HN : Hid (w.grownBy (w3.setCell ⟨g, q + 2, none⟩ (.string T)) (some g) ∧ (w3.setCell ⟨g, q + 2, none⟩ (.string T)).heap[g]? = some (.cells (set3 C q (.int .i64 (k0 : Int)) (.int .i64 ((k0 : Int) + 1)) (.string T)) 89 (0, 0)) ∧ 3 * n ≤ (set3 C q (.int .i64 (k0 : Int)) (.int .i64 ((k0 : Int) + 1)) (.string T)).size) := by
        refine ⟨?_, heap_setCell_same _ _ _ _ _ _ hrow3, by rw [set3_size]; exact hsz⟩
        have hg := HG2.out
        exact ⟨hb3.os.trans hg.os, hb3.tape.trans hg.tape, hb3.output.trans hg.output, by simp; exact Nat.le_trans hg.size hb3.size, fun k hk hne => (heap_setCell_other _ _ _ _ (fun e => hne (by rw [e]))).trans ((hb3.block k (Nat.lt_of_lt_of_le hk hg.size)).trans (hg.block k hk hne))⟩
      generalize C[q + 2] = y2 at x2
      clear hrow3 hsz hb3 HR2 HG2 x0 x1 z0 z1
      go_wp2_with fail
      go_roundw
      case rel => exact ⟨i + 1, _, by omega, by have := HK.out; show Value.int .i64 _ = Value.int .i64 _; congr 1; omega, by go_num, HN, HT⟩
      case measure => simp [natP]; omega
    · obtain rfl : i = n := by omega
      go_wp2_with fail
      go_ret
      exact ⟨⟨rfl, C, HW.out.2.1, HW.out.2.2, HC.out⟩, HW.out.1⟩
end Go.Proofs.Ytpeddaljgmkomaa

/-!   Lists of pieces as deep values: made, held against each other, measured, marked. -/
namespace Go.Proofs.Ytpeddaljgmkomaa
open Go.RowKit
set_option linter.unusedVariables false
set_option linter.unusedSimpArgs false
def pcDs (p : PcI) : List Dd := [.one (.int .i64 p.f), .one (.int .i64 p.l), .one (.string p.d)]
def pcsD (L : List PcI) : Dd := .list 89 3 (L.flatMap pcDs)
theorem pcDs_len (p : PcI) : (pcDs p).length = 3 := rfl
theorem pcF_at {L : List PcI} {i : Nat} {p : PcI} (h : L[i]? = some p) : pcF L i = p := by unfold pcF; rw [List.getD_eq_getElem?_getD, h]; rfl
theorem pc_some {L : List PcI} {i : Nat} (h : i < L.length) : L[i]? = some (pcF L i) := by
  rw [List.getElem?_eq_getElem h]; congr 1; exact (pcF_at (List.getElem?_eq_getElem h)).symm
theorem pcs_cells {L : List PcI} {i : Nat} (hi : i < L.length) : (L.flatMap pcDs)[3 * i]? = some (.one (.int .i64 (pcF L i).f)) ∧ (L.flatMap pcDs)[3 * i + 1]? = some (.one (.int .i64 (pcF L i).l)) ∧ (L.flatMap pcDs)[3 * i + 2]? = some (.one (.string (pcF L i).d)) :=
  ⟨fm_at pcDs_len L i 0 _ (pc_some hi) (by omega), fm_at pcDs_len L i 1 _ (pc_some hi) (by omega), fm_at pcDs_len L i 2 _ (pc_some hi) (by omega)⟩
theorem pcs_rd {w : World} {L : List PcI} {v : Value} (h : Rd w (pcsD L) v) : PcIn w v L.length (pcF L) := by
  obtain ⟨a, n, c, rfl, hl, hx⟩ := h.slice
  rw [fm_len pcDs_len] at hl
  obtain rfl : L.length = n := by omega
  refine ⟨⟨a, c, rfl, fun h0 => ?_⟩⟩
  obtain ⟨g, off, val, rfl, hg, hc, hd⟩ := hx h0
  refine ⟨g, off, rfl, hg, fun i hi => ?_⟩
  obtain ⟨x0, x1, x2⟩ := pcs_cells hi
  have hfl := fm_len pcDs_len L
  have y0 := (hd _ _ x0).one_inv
  have y1 := (hd _ _ x1).one_inv
  have y2 := (hd _ _ x2).one_inv
  rw [show off + i * 3 = off + 3 * i by omega, show off + 3 * i + 1 = off + (3 * i + 1) by omega, show off + 3 * i + 2 = off + (3 * i + 2) by omega]
  exact ⟨(hc _ (by omega)).trans (by rw [y0]), (hc _ (by omega)).trans (by rw [y1]), (hc _ (by omega)).trans (by rw [y2])⟩
theorem pcs_arg {w : World} {L : List PcI} {v : Value} {bs : List Nat} (h : Hd w (pcsD L) v bs) : PcArg w v L.length (pcF L) := by
  obtain ⟨a, n, c, rfl, hl, _, hx⟩ := h.slice
  rw [fm_len pcDs_len] at hl
  obtain rfl : L.length = n := by omega
  refine ⟨a, c, rfl, fun h0 => ?_⟩
  obtain ⟨g, cur, val, fb, rfl, hr, hs, hc, hd, _⟩ := hx h0
  have hfl := fm_len pcDs_len L
  refine ⟨g, rfl, (Array.getElem?_eq_some_iff.1 hr).1, fun i hi => ?_, fun i hi => ?_, fun i hi => ?_⟩
  · rw [cell_of_row _ _ _ _ _ _ hr, hc _ (by omega), ((hd _ _ (pcs_cells hi).1).one_inv).1]
  · rw [cell_of_row _ _ _ _ _ _ hr, hc _ (by omega), ((hd _ _ (pcs_cells hi).2.1).one_inv).1]
  · rw [cell_of_row _ _ _ _ _ _ hr, hc _ (by omega), ((hd _ _ (pcs_cells hi).2.2).one_inv).1]
theorem pcs_ns (w : World) (L : List PcI) : Ns w (pcC L) (L.flatMap pcDs) [] := by
  induction L with
  | nil => exact .nil
  | cons p L ih =>
    have e : pcC (p :: L) = [.int .i64 p.f, .int .i64 p.l, .string p.d] ++ pcC L := rfl
    rw [e, List.flatMap_cons]
    exact (Ns.cons (.one _) (Ns.cons (.one _) (Ns.cons (.one _) Ns.nil))).app (bs := []) ih
theorem pcs_own {w : World} {B : Nat} {v : Value} {L : List PcI} (h : w.ownsRow B 89 3 v L.length (pcC L)) : Own w B (pcsD L) v :=
  Own.of_row h (by omega) (pcs_ns w L) (fm_len pcDs_len L) List.nodup_nil (fun b hb => by cases hb) (fun g _ hb => by cases hb)
/-- a row whose cells are those of pieces -/
theorem pcs_hd {w : World} {g c : Nat} {cur : Array Value} {L : List PcI} (h0 : 0 < L.length) (hr : w.heap[g]? = some (.cells cur 89 (0, 0))) (hs : 3 * L.length ≤ cur.size) (hc : ∀ i, i < L.length → cur[3 * i]? = some (.int .i64 (pcF L i).f) ∧ cur[3 * i + 1]? = some (.int .i64 (pcF L i).l) ∧ cur[3 * i + 2]? = some (.string (pcF L i).d)) : Hd w (pcsD L) (.slice (some ⟨g, 0, none⟩) L.length c) [g] := by
  have hfl := fm_len pcDs_len L
  obtain ⟨us, hus⟩ : ∃ us, us = pcC L := ⟨_, rfl⟩
  obtain ⟨val, fb, e1, e2, e3⟩ := (pcs_ns w L).fn
  have h := Hd.list (w := w) 89 3 L.length c g (L.flatMap pcDs) cur val fb h0 hfl hr hs (fun j hj => by
    have hj2 : j / 3 < L.length := by omega
    have h1 := hc (j / 3) hj2
    have h2 := pcC_at L (j / 3) hj2
    rw [← e2 j hj]
    rcases (show j = 3 * (j / 3) ∨ j = 3 * (j / 3) + 1 ∨ j = 3 * (j / 3) + 2 by omega) with e | e | e
    · rw [e]; exact h1.1.trans h2.1.symm
    · rw [e]; exact h1.2.1.trans h2.2.1.symm
    · rw [e]; exact h1.2.2.trans h2.2.2.symm) e3
  rw [← e1] at h
  exact h
theorem toPcs_deep (v : Value) (L : List PcI) (w : World) (hn : L.length ≤ 1048576) (h : Rd w (pcsD L) v) :
    Calls Try.prog 70 #[v] w fun e w' => (∃ v', e = .returned v' ∧ Own w' w.heap.size (pcsD L) v') ∧ Below w.heap.size w w' := by
  refine (toPcO_any v L.length (pcF L) w hn (pcs_rd h)).mono ?_
  rintro e w' ⟨⟨v', rfl, ha, ho⟩, hb⟩
  refine ⟨⟨v', rfl, ?_⟩, hb⟩
  obtain ⟨a, c, rfl, hx⟩ := ho
  obtain ⟨a2, c2, e2, hy⟩ := ha
  cases e2
  by_cases h0 : 0 < L.length
  · obtain ⟨g, cur, rfl, h1, h2, h3, h4⟩ := hx h0
    obtain ⟨g2, e3, hrow⟩ := hy h0
    cases e3
    refine ⟨[g], pcs_hd h0 h3 h4 fun i hi => ⟨?_, ?_, ?_⟩, by simp, fun b hb => by simp at hb; omega⟩
    · rw [← cell_of_row _ _ _ _ _ _ h3]; exact hrow.c0 i hi
    · rw [← cell_of_row _ _ _ _ _ _ h3]; exact hrow.c1 i hi
    · rw [← cell_of_row _ _ _ _ _ _ h3]; exact hrow.c2 i hi
  · have e0 : L = [] := List.length_eq_zero_iff.1 (by omega)
    subst e0
    exact ⟨[], .nil _ _ _ _, List.nodup_nil, fun b hb => by cases hb⟩
theorem eqPcs_deep (v1 v2 : Value) (L : List PcI) (b1 b2 : List Nat) (w : World) (hn : L.length ≤ 1048576) (h1 : Hd w (pcsD L) v1 b1) (h2 : Hd w (pcsD L) v2 b2) :
    Calls Try.prog 72 #[v1, v2] w fun e w' => e = .returned (.bool true) ∧ Below w.heap.size w w' :=
  eqPcS_any v1 v2 L.length (pcF L) w hn (pcs_arg h1) (pcs_arg h2)
/-- pieces that bear marks from k on -/
def pcMk (n k : Nat) : List PcI := (List.range n).map fun i => ⟨((k + 3 * i : Nat) : Int), ((k + 3 * i + 1 : Nat) : Int), mkT (k + 3 * i + 2)⟩
theorem pcMk_len (n k : Nat) : (pcMk n k).length = n := by simp [pcMk]
theorem pcMk_at {n k i : Nat} (h : i < n) : pcF (pcMk n k) i = ⟨((k + 3 * i : Nat) : Int), ((k + 3 * i + 1 : Nat) : Int), mkT (k + 3 * i + 2)⟩ := by
  apply pcF_at
  unfold pcMk
  rw [List.getElem?_map, List.getElem?_range h]; rfl
theorem markPcs_deep (v : Value) (L : List PcI) (k : Nat) (bs : List Nat) (w : World) (hn : L.length ≤ 1048576) (h1 : 1 ≤ k) (hk : k ≤ 4000000) (h : Hd w (pcsD L) v bs) :
    Calls Try.prog 52 #[v, .int .i64 (k : Int)] w fun e w' => (e = .returned (.int .i64 ((k + 3 * L.length : Nat) : Int)) ∧ Hd w' (pcsD (pcMk L.length k)) v bs) ∧ (∀ b, b < w.heap.size → b ∉ bs → w'.heap[b]? = w.heap[b]?) ∧ w.heap.size ≤ w'.heap.size ∧ w'.os = w.os ∧ w'.tape = w.tape ∧ w'.output = w.output := by
  obtain ⟨a, n, c, rfl, hl, hz, hx⟩ := h.slice
  rw [fm_len pcDs_len] at hl
  obtain rfl : L.length = n := by omega
  by_cases h0 : 0 < L.length
  · obtain ⟨g, cur, val, fb, rfl, hr, hs, hc, hd, rfl⟩ := hx h0
    have hfb : (List.range (L.flatMap pcDs).length).flatMap fb = [] := by
      rw [List.flatMap_eq_nil_iff]
      intro j hj
      have hj := List.mem_range.1 hj
      have hj3 : j / 3 < L.length := by rw [fm_len pcDs_len] at hj; omega
      obtain ⟨x0, x1, x2⟩ := pcs_cells hj3
      rcases (show j = 3 * (j / 3) ∨ j = 3 * (j / 3) + 1 ∨ j = 3 * (j / 3) + 2 by omega) with e | e | e
      · rw [e]; exact ((hd _ _ x0).one_inv).2
      · rw [e]; exact ((hd _ _ x1).one_inv).2
      · rw [e]; exact ((hd _ _ x2).one_inv).2
    rw [hfb]
    refine (markPF g c L.length k cur w hn h1 hk hr hs).mono ?_
    rintro e w' ⟨⟨rfl, C, hr', hs', hc'⟩, hg⟩
    refine ⟨⟨rfl, ?_⟩, fun b hb hne => hg.block b hb (fun e => hne (by injection e with e; simp [e])), hg.size, hg.os, hg.tape, hg.output⟩
    have h5 := pcs_hd (w := w') (c := c) (L := pcMk L.length k) (by rw [pcMk_len]; exact h0) hr' (by rw [pcMk_len]; exact hs') (fun i hi => by
      rw [pcMk_len] at hi
      rw [pcMk_at hi]
      exact hc' i hi)
    rw [pcMk_len] at h5
    exact h5
  · have e0 : L = [] := List.length_eq_zero_iff.1 (by omega)
    subst e0
    have hbs := hz rfl
    subst hbs
    refine (markP_zero a c k w).mono ?_
    rintro e w' ⟨rfl, rfl⟩
    exact ⟨⟨rfl, .nil _ _ _ _⟩, fun b _ _ => rfl, Nat.le_refl _, rfl, rfl, rfl⟩
theorem heldPcs_deep (v : Value) (n k : Nat) (bs : List Nat) (w : World) (hn : n ≤ 1048576) (h1 : 1 ≤ k) (hk : k ≤ 4000000) (h : Hd w (pcsD (pcMk n k)) v bs) :
    Calls Try.prog 53 #[v, .int .i64 (k : Int)] w fun e w' => e = .returned (.int .i64 ((k + 3 * n : Nat) : Int)) ∧ Below w.heap.size w w' := by
  obtain ⟨a, c, rfl, hx⟩ := pcs_arg h
  rw [pcMk_len] at hx ⊢
  by_cases h0 : 0 < n
  · obtain ⟨g, rfl, hrow⟩ := hx h0
    exact heldP_any g c n k w hn h1 hk hrow.lt fun j hj => by
      have c0 := hrow.c0 j hj
      have c1 := hrow.c1 j hj
      have c2 := hrow.c2 j hj
      rw [pcMk_at hj] at c0 c1 c2
      exact ⟨c0, c1, c2⟩
  · obtain rfl : n = 0 := by omega
    refine (heldP_zero a c k w).mono ?_
    rintro e w' ⟨rfl, rfl⟩
    exact ⟨rfl, Below.refl _ _⟩
end Go.Proofs.Ytpeddaljgmkomaa

/-!   Links as deep values: what the law makes of a list of them that came in; how much they hold. -/
namespace Go.Proofs.Ytpeddaljgmkomaa
open Go.RowKit
set_option linter.unusedVariables false
set_option linter.unusedSimpArgs false
structure LkI where
  b : Int
  d : ByteArray
  p : List PcI
def lkDs (x : LkI) : List Dd := [.one (.int .i64 x.b), .one (.string x.d), pcsD x.p]
def lksD (L : List LkI) : Dd := .list 54 3 (L.flatMap lkDs)
theorem lkDs_len (x : LkI) : (lkDs x).length = 3 := rfl
theorem Try.infLk : (Try.prog.info? 54).map (fun i => (i.zero, i.size, i.bytes)) = some (some (.agg #[.int .i64 0, .string ⟨#[]⟩, .slice none 0 0]), 3, 48) := by kernel_rfl
theorem lks_cells {L : List LkI} {i : Nat} {x : LkI} (hi : L[i]? = some x) : (L.flatMap lkDs)[3 * i]? = some (.one (.int .i64 x.b)) ∧ (L.flatMap lkDs)[3 * i + 1]? = some (.one (.string x.d)) ∧ (L.flatMap lkDs)[3 * i + 2]? = some (pcsD x.p) :=
  ⟨fm_at lkDs_len L i 0 _ hi (by omega), fm_at lkDs_len L i 1 _ hi (by omega), fm_at lkDs_len L i 2 _ hi (by omega)⟩
/-- a list of links that can be read, struct by struct -/
theorem lks_rd {w : World} {L : List LkI} {v : Value} (h : Rd w (lksD L) v) : ∃ a c, v = .slice a L.length c ∧ (0 < L.length → ∃ g off, a = some ⟨g, off, none⟩ ∧ g < w.heap.size ∧ ∀ i x, L[i]? = some x → ∃ pv, w.cell? ⟨g, off + i * 3, none⟩ = some (.int .i64 x.b) ∧ w.cell? ⟨g, off + i * 3 + 1, none⟩ = some (.string x.d) ∧ w.cell? ⟨g, off + i * 3 + 2, none⟩ = some pv ∧ Rd w (pcsD x.p) pv) := by
  obtain ⟨a, n, c, rfl, hl, hx⟩ := h.slice
  rw [fm_len lkDs_len] at hl
  obtain rfl : L.length = n := by omega
  refine ⟨a, c, rfl, fun h0 => ?_⟩
  obtain ⟨g, off, val, rfl, hg, hc, hd⟩ := hx h0
  refine ⟨g, off, rfl, hg, fun i x hi => ?_⟩
  have hi2 := (List.getElem?_eq_some_iff.1 hi).1
  obtain ⟨x0, x1, x2⟩ := lks_cells hi
  have hfl := fm_len lkDs_len L
  have y0 := (hd _ _ x0).one_inv
  have y1 := (hd _ _ x1).one_inv
  rw [show off + i * 3 = off + 3 * i by omega, show off + 3 * i + 1 = off + (3 * i + 1) by omega, show off + 3 * i + 2 = off + (3 * i + 2) by omega]
  exact ⟨val (3 * i + 2), (hc _ (by omega)).trans (by rw [y0]), (hc _ (by omega)).trans (by rw [y1]), hc _ (by omega), hd _ _ x2⟩
/-- a list of links in a row of its own -/
theorem lks_hd {w : World} {L : List LkI} {v : Value} {bs : List Nat} (h : Hd w (lksD L) v bs) : ∃ a c, v = .slice a L.length c ∧ (L.length = 0 → bs = []) ∧ (0 < L.length → ∃ g cur fb, a = some ⟨g, 0, none⟩ ∧ w.heap[g]? = some (.cells cur 54 (0, 0)) ∧ 3 * L.length ≤ cur.size ∧ bs = g :: (List.range L.length).flatMap fb ∧ ∀ i x, L[i]? = some x → ∃ pv, cur[3 * i]? = some (.int .i64 x.b) ∧ cur[3 * i + 1]? = some (.string x.d) ∧ cur[3 * i + 2]? = some pv ∧ Hd w (pcsD x.p) pv (fb i)) := by
  obtain ⟨a, n, c, rfl, hl, hz, hx⟩ := h.slice
  rw [fm_len lkDs_len] at hl
  obtain rfl : L.length = n := by omega
  refine ⟨a, c, rfl, hz, fun h0 => ?_⟩
  obtain ⟨g, cur, val, fb, rfl, hr, hs, hc, hd, rfl⟩ := hx h0
  refine ⟨g, cur, fun i => fb (3 * i + 2), rfl, hr, hs, ?_, fun i x hi => ?_⟩
  · congr 1
    rw [fm_len lkDs_len]
    refine rows_foot fun i hi => ?_
    obtain ⟨x0, x1, x2⟩ := lks_cells (List.getElem?_eq_getElem hi)
    show fb (3 * i) ++ (fb (3 * i + 1) ++ (fb (3 * i + 2) ++ [])) = _
    rw [((hd _ _ x0).one_inv).2, ((hd _ _ x1).one_inv).2]
    simp
  · have hi2 := (List.getElem?_eq_some_iff.1 hi).1
    obtain ⟨x0, x1, x2⟩ := lks_cells hi
    have hfl := fm_len lkDs_len L
    have y0 := ((hd _ _ x0).one_inv).1
    have y1 := ((hd _ _ x1).one_inv).1
    exact ⟨val (3 * i + 2), (hc _ (by omega)).trans (by rw [y0]), (hc _ (by omega)).trans (by rw [y1]), hc _ (by omega), hd _ _ x2⟩
set_option maxRecDepth 100000 in
set_option maxHeartbeats 1000000 in
theorem toLk_one (x : LkI) (pv : Value) (w : World) (hn : x.p.length ≤ 1048576) (h : Rd w (pcsD x.p) pv) :
    Calls Try.prog 39 #[.agg #[.int .i64 x.b, .string x.d, pv]] w fun e w' => (∃ pv', e = .returned (.agg #[.int .i64 x.b, .string x.d, pv']) ∧ Own w' w.heap.size (pcsD x.p) pv') ∧ Below w.heap.size w w' := by
  obtain ⟨b, d, p⟩ := x
  simp only at hn h ⊢
  obtain ⟨a, n, c, rfl, _⟩ := h.slice
  have HT : Hid (∀ w', Below w.heap.size w w' → Calls Try.prog 70 #[.slice a n c] w' fun e w2 => (∃ v', e = .returned v' ∧ Own w2 w'.heap.size (pcsD p) v') ∧ Below w'.heap.size w' w2) := fun w' hb => toPcs_deep _ p w' hn (h.under hb)
  clear h hn
  go_enter Try.func39, Try.ntmps39
  go_wp2_with fail
  have hbw : Below w.heap.size w (((w.alloc (.cells #[.int .i64 b, .string d, .slice a n c] 48)).alloc (.cells #[.int .i64 0, .string ⟨#[]⟩, .slice none 0 0] 54)).alloc (.cells #[.int .i64 b, .string d, .slice none 0 0] 54)) :=
    (((Below.refl _ _).alloc (Nat.le_refl _) _).alloc (by simp) _).alloc (by simp; omega) _
  have hs1 : (((w.alloc (.cells #[.int .i64 b, .string d, .slice a n c] 48)).alloc (.cells #[.int .i64 0, .string ⟨#[]⟩, .slice none 0 0] 54)).alloc (.cells #[.int .i64 b, .string d, .slice none 0 0] 54)).heap.size = w.heap.size + 1 + 1 + 1 := by simp
  have hq1 : (((w.alloc (.cells #[.int .i64 b, .string d, .slice a n c] 48)).alloc (.cells #[.int .i64 0, .string ⟨#[]⟩, .slice none 0 0] 54)).alloc (.cells #[.int .i64 b, .string d, .slice none 0 0] 54)).heap[w.heap.size + 1]? = some (.cells #[.int .i64 0, .string ⟨#[]⟩, .slice none 0 0] 54 (0, 0)) := by
    rw [Below.heap_alloc _ _ _ (by simp)]
    have h := heap_alloc_new (w.alloc (.cells #[.int .i64 b, .string d, .slice a n c] 48)) (.cells #[.int .i64 0, .string ⟨#[]⟩, .slice none 0 0] 54)
    simpa using h
  have hq2 : (((w.alloc (.cells #[.int .i64 b, .string d, .slice a n c] 48)).alloc (.cells #[.int .i64 0, .string ⟨#[]⟩, .slice none 0 0] 54)).alloc (.cells #[.int .i64 b, .string d, .slice none 0 0] 54)).heap[w.heap.size + 1 + 1]? = some (.cells #[.int .i64 b, .string d, .slice none 0 0] 54 (0, 0)) := by
    have h := heap_alloc_new ((w.alloc (.cells #[.int .i64 b, .string d, .slice a n c] 48)).alloc (.cells #[.int .i64 0, .string ⟨#[]⟩, .slice none 0 0] 54)) (.cells #[.int .i64 b, .string d, .slice none 0 0] 54)
    simpa using h
  have HX : Hid _ := hbw
  have HS1 := dhid hs1
  have HQ1 := dhid hq1
  have HQ2 := dhid hq2
  clear hbw hs1 hq1 hq2
  refine (HT.out _ HX.out).mono ?_
  rintro e w3 ⟨⟨v', rfl, ho⟩, hb⟩
  rw [HS1.out] at ho hb
  have r1 : w3.heap[w.heap.size + 1]? = _ := (hb.block (w.heap.size + 1) (by omega)).trans HQ1.out
  have r2 : w3.heap[w.heap.size + 1 + 1]? = _ := (hb.block (w.heap.size + 1 + 1) (by omega)).trans HQ2.out
  have HB : Hid (Below w.heap.size w w3) := dblow HX.out hb (by omega)
  have R1 := dhid r1
  have R2 := dhid r2
  have HO := dhid ho
  have HLT : Hid (w.heap.size + 1 + 1 + 1 ≤ w3.heap.size) := by have := hb.size; rw [HS1.out] at this; exact this
  have x0 : w3.cell? ⟨w.heap.size + 1, 0, none⟩ = some (.int .i64 0) := cell_of_row w3 _ 0 _ _ _ r1
  have x1 : w3.cell? ⟨w.heap.size + 1, 1, none⟩ = some (.string ⟨#[]⟩) := cell_of_row w3 _ 1 _ _ _ r1
  have x2 : w3.cell? ⟨w.heap.size + 1, 2, none⟩ = some (.slice none 0 0) := cell_of_row w3 _ 2 _ _ _ r1
  have y0 : w3.cell? ⟨w.heap.size + 1 + 1, 0, none⟩ = some (.int .i64 b) := cell_of_row w3 _ 0 _ _ _ r2
  have y1 : w3.cell? ⟨w.heap.size + 1 + 1, 1, none⟩ = some (.string d) := cell_of_row w3 _ 1 _ _ _ r2
  have y2 : w3.cell? ⟨w.heap.size + 1 + 1, 2, none⟩ = some (.slice none 0 0) := cell_of_row w3 _ 2 _ _ _ r2
  have z0 := frozen_of_row w3 _ 0 _ _ r1
  have z1 := frozen_of_row w3 _ 1 _ _ r1
  have z2 := frozen_of_row w3 _ 2 _ _ r1
  have f2 := frozen_of_row w3 _ 2 _ _ r2
  obtain ⟨a', n', c', rfl, _⟩ := ho.rd.slice
  clear hb ho r1 r2 HX HQ1 HQ2 HS1 HT
  go_wp2_with fail
  have hK : ∀ k, w.heap.size + 1 + 1 + 1 ≤ k → ((((w3.setCell ⟨w.heap.size + 1 + 1, 2, none⟩ (.slice a' n' c')).setCell ⟨w.heap.size + 1, 0, none⟩ (.int .i64 b)).setCell ⟨w.heap.size + 1, 1, none⟩ (.string d)).setCell ⟨w.heap.size + 1, 2, none⟩ (.slice a' n' c')).heap[k]? = w3.heap[k]? := fun k hk => by
    rw [heap_setCell_other _ _ _ _ (by show k ≠ w.heap.size + 1; omega), heap_setCell_other _ _ _ _ (by show k ≠ w.heap.size + 1; omega), heap_setCell_other _ _ _ _ (by show k ≠ w.heap.size + 1; omega), heap_setCell_other _ _ _ _ (by show k ≠ w.heap.size + 1 + 1; omega)]
  refine bodyPost_ret (results_cell_row rfl _ _ (w.heap.size + 1) 54 #[.int .i64 b, .string d, .slice a' n' c'] (0, 0) _ rfl ?_ Try.underlying54 rfl (by kernel_rfl)) rfl ⟨⟨_, rfl, (HO.out.keep fun k hk _ => hK k hk).base (by omega)⟩, (((HB.out.setCell (p := ⟨w.heap.size + 1 + 1, 2, none⟩) (by show _ ≤ w.heap.size + 1 + 1; omega) _).setCell (p := ⟨w.heap.size + 1, 0, none⟩) (by show _ ≤ w.heap.size + 1; omega) _).setCell (p := ⟨w.heap.size + 1, 1, none⟩) (by show _ ≤ w.heap.size + 1; omega) _).setCell (p := ⟨w.heap.size + 1, 2, none⟩) (by show _ ≤ w.heap.size + 1; omega) _⟩
  exact heap_setCell_same _ _ _ #[.int .i64 b, .string d, .slice none 0 0] _ _ (heap_setCell_same _ _ _ #[.int .i64 b, .string ⟨#[]⟩, .slice none 0 0] _ _ (heap_setCell_same _ _ _ #[.int .i64 0, .string ⟨#[]⟩, .slice none 0 0] _ _ ((heap_setCell_other w3 ⟨w.heap.size + 1 + 1, 2, none⟩ (w.heap.size + 1) (.slice a' n' c') (by show w.heap.size + 1 ≠ w.heap.size + 1 + 1; omega)).trans R1.out)))
end Go.Proofs.Ytpeddaljgmkomaa
