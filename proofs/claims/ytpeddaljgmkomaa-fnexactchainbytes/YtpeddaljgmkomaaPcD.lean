/-
  Lists of pieces as deep values: made, held against each other, measured, marked.
-/
import Derived.Test.YtpeddaljgmkomaaDp
import Derived.Test.YtpeddaljgmkomaaPcL
import Derived.Test.YtpeddaljgmkomaaEqPc
import Derived.Test.YtpeddaljgmkomaaRdPc
import Derived.Test.YtpeddaljgmkomaaToPcO
import Derived.Test.YtpeddaljgmkomaaPMkF
namespace Go.Proofs.Ytpeddaljgmkomaa
open Go.RowKit
set_option linter.unusedVariables false
set_option linter.unusedSimpArgs false
def pcDs (p : PcI) : List Dd := [.one (.int .i64 p.f), .one (.int .i64 p.l), .one (.string p.d)]
def pcsD (L : List PcI) : Dd := .list 89 3 (L.flatMap pcDs)
theorem pcDs_len (p : PcI) : (pcDs p).length = 3 := rfl
theorem pcF_at {L : List PcI} {i : Nat} {p : PcI} (h : L[i]? = some p) : pcF L i = p := by unfold pcF; rw [List.getD_eq_getElem?_getD, h]; rfl
theorem pc_some {L : List PcI} {i : Nat} (h : i < L.length) : L[i]? = some (pcF L i) := by
  rw [List.getElem?_eq_getElem h]; congr 1; exact (pcF_at (List.getElem?_eq_getElem h)).symm
theorem pcs_cells {L : List PcI} {i : Nat} (hi : i < L.length) : (L.flatMap pcDs)[3 * i]? = some (.one (.int .i64 (pcF L i).f)) ∧ (L.flatMap pcDs)[3 * i + 1]? = some (.one (.int .i64 (pcF L i).l)) ∧ (L.flatMap pcDs)[3 * i + 2]? = some (.one (.string (pcF L i).d)) :=
  ⟨fm_at pcDs_len L i 0 _ (pc_some hi) (by omega), fm_at pcDs_len L i 1 _ (pc_some hi) (by omega), fm_at pcDs_len L i 2 _ (pc_some hi) (by omega)⟩
theorem pcs_rd {w : World} {L : List PcI} {v : Value} (h : Rd w (pcsD L) v) : PcIn w v L.length (pcF L) := by
  obtain ⟨a, n, c, rfl, hl, hx⟩ := h.slice
  rw [fm_len pcDs_len] at hl
  obtain rfl : L.length = n := by omega
  refine ⟨⟨a, c, rfl, fun h0 => ?_⟩⟩
  obtain ⟨g, off, val, rfl, hg, hc, hd⟩ := hx h0
  refine ⟨g, off, rfl, hg, fun i hi => ?_⟩
  obtain ⟨x0, x1, x2⟩ := pcs_cells hi
  have hfl := fm_len pcDs_len L
  have y0 := (hd _ _ x0).one_inv
  have y1 := (hd _ _ x1).one_inv
  have y2 := (hd _ _ x2).one_inv
  rw [show off + i * 3 = off + 3 * i by omega, show off + 3 * i + 1 = off + (3 * i + 1) by omega, show off + 3 * i + 2 = off + (3 * i + 2) by omega]
  exact ⟨(hc _ (by omega)).trans (by rw [y0]), (hc _ (by omega)).trans (by rw [y1]), (hc _ (by omega)).trans (by rw [y2])⟩
theorem pcs_arg {w : World} {L : List PcI} {v : Value} {bs : List Nat} (h : Hd w (pcsD L) v bs) : PcArg w v L.length (pcF L) := by
  obtain ⟨a, n, c, rfl, hl, _, hx⟩ := h.slice
  rw [fm_len pcDs_len] at hl
  obtain rfl : L.length = n := by omega
  refine ⟨a, c, rfl, fun h0 => ?_⟩
  obtain ⟨g, cur, val, fb, rfl, hr, hs, hc, hd, _⟩ := hx h0
  have hfl := fm_len pcDs_len L
  refine ⟨g, rfl, (Array.getElem?_eq_some_iff.1 hr).1, fun i hi => ?_, fun i hi => ?_, fun i hi => ?_⟩
  · rw [cell_of_row _ _ _ _ _ _ hr, hc _ (by omega), ((hd _ _ (pcs_cells hi).1).one_inv).1]
  · rw [cell_of_row _ _ _ _ _ _ hr, hc _ (by omega), ((hd _ _ (pcs_cells hi).2.1).one_inv).1]
  · rw [cell_of_row _ _ _ _ _ _ hr, hc _ (by omega), ((hd _ _ (pcs_cells hi).2.2).one_inv).1]
theorem pcs_ns (w : World) (L : List PcI) : Ns w (pcC L) (L.flatMap pcDs) [] := by
  induction L with
  | nil => exact .nil
  | cons p L ih =>
    have e : pcC (p :: L) = [.int .i64 p.f, .int .i64 p.l, .string p.d] ++ pcC L := rfl
    rw [e, List.flatMap_cons]
    exact (Ns.cons (.one _) (Ns.cons (.one _) (Ns.cons (.one _) Ns.nil))).app (bs := []) ih
theorem pcs_own {w : World} {B : Nat} {v : Value} {L : List PcI} (h : w.ownsRow B 89 3 v L.length (pcC L)) : Own w B (pcsD L) v :=
  Own.of_row h (by omega) (pcs_ns w L) (fm_len pcDs_len L) List.nodup_nil (fun b hb => by cases hb) (fun g _ hb => by cases hb)
/-- a row whose cells are those of pieces -/
theorem pcs_hd {w : World} {g c : Nat} {cur : Array Value} {L : List PcI} (h0 : 0 < L.length) (hr : w.heap[g]? = some (.cells cur 89 (0, 0))) (hs : 3 * L.length ≤ cur.size) (hc : ∀ i, i < L.length → cur[3 * i]? = some (.int .i64 (pcF L i).f) ∧ cur[3 * i + 1]? = some (.int .i64 (pcF L i).l) ∧ cur[3 * i + 2]? = some (.string (pcF L i).d)) : Hd w (pcsD L) (.slice (some ⟨g, 0, none⟩) L.length c) [g] := by
  have hfl := fm_len pcDs_len L
  obtain ⟨us, hus⟩ : ∃ us, us = pcC L := ⟨_, rfl⟩
  obtain ⟨val, fb, e1, e2, e3⟩ := (pcs_ns w L).fn
  have h := Hd.list (w := w) 89 3 L.length c g (L.flatMap pcDs) cur val fb h0 hfl hr hs (fun j hj => by
    have hj2 : j / 3 < L.length := by omega
    have h1 := hc (j / 3) hj2
    have h2 := pcC_at L (j / 3) hj2
    rw [← e2 j hj]
    rcases (show j = 3 * (j / 3) ∨ j = 3 * (j / 3) + 1 ∨ j = 3 * (j / 3) + 2 by omega) with e | e | e
    · rw [e]; exact h1.1.trans h2.1.symm
    · rw [e]; exact h1.2.1.trans h2.2.1.symm
    · rw [e]; exact h1.2.2.trans h2.2.2.symm) e3
  rw [← e1] at h
  exact h
theorem toPcs_deep (v : Value) (L : List PcI) (w : World) (hn : L.length ≤ 1048576) (h : Rd w (pcsD L) v) :
    Calls Try.prog 70 #[v] w fun e w' => (∃ v', e = .returned v' ∧ Own w' w.heap.size (pcsD L) v') ∧ Below w.heap.size w w' := by
  refine (toPcO_any v L.length (pcF L) w hn (pcs_rd h)).mono ?_
  rintro e w' ⟨⟨v', rfl, ha, ho⟩, hb⟩
  refine ⟨⟨v', rfl, ?_⟩, hb⟩
  obtain ⟨a, c, rfl, hx⟩ := ho
  obtain ⟨a2, c2, e2, hy⟩ := ha
  cases e2
  by_cases h0 : 0 < L.length
  · obtain ⟨g, cur, rfl, h1, h2, h3, h4⟩ := hx h0
    obtain ⟨g2, e3, hrow⟩ := hy h0
    cases e3
    refine ⟨[g], pcs_hd h0 h3 h4 fun i hi => ⟨?_, ?_, ?_⟩, by simp, fun b hb => by simp at hb; omega⟩
    · rw [← cell_of_row _ _ _ _ _ _ h3]; exact hrow.c0 i hi
    · rw [← cell_of_row _ _ _ _ _ _ h3]; exact hrow.c1 i hi
    · rw [← cell_of_row _ _ _ _ _ _ h3]; exact hrow.c2 i hi
  · have e0 : L = [] := List.length_eq_zero_iff.1 (by omega)
    subst e0
    exact ⟨[], .nil _ _ _ _, List.nodup_nil, fun b hb => by cases hb⟩
theorem eqPcs_deep (v1 v2 : Value) (L : List PcI) (b1 b2 : List Nat) (w : World) (hn : L.length ≤ 1048576) (h1 : Hd w (pcsD L) v1 b1) (h2 : Hd w (pcsD L) v2 b2) :
    Calls Try.prog 72 #[v1, v2] w fun e w' => e = .returned (.bool true) ∧ Below w.heap.size w w' :=
  eqPcS_any v1 v2 L.length (pcF L) w hn (pcs_arg h1) (pcs_arg h2)
/-- pieces that bear marks from k on -/
def pcMk (n k : Nat) : List PcI := (List.range n).map fun i => ⟨((k + 3 * i : Nat) : Int), ((k + 3 * i + 1 : Nat) : Int), mkT (k + 3 * i + 2)⟩
theorem pcMk_len (n k : Nat) : (pcMk n k).length = n := by simp [pcMk]
theorem pcMk_at {n k i : Nat} (h : i < n) : pcF (pcMk n k) i = ⟨((k + 3 * i : Nat) : Int), ((k + 3 * i + 1 : Nat) : Int), mkT (k + 3 * i + 2)⟩ := by
  apply pcF_at
  unfold pcMk
  rw [List.getElem?_map, List.getElem?_range h]; rfl
theorem markPcs_deep (v : Value) (L : List PcI) (k : Nat) (bs : List Nat) (w : World) (hn : L.length ≤ 1048576) (h1 : 1 ≤ k) (hk : k ≤ 4000000) (h : Hd w (pcsD L) v bs) :
    Calls Try.prog 52 #[v, .int .i64 (k : Int)] w fun e w' => (e = .returned (.int .i64 ((k + 3 * L.length : Nat) : Int)) ∧ Hd w' (pcsD (pcMk L.length k)) v bs) ∧ (∀ b, b < w.heap.size → b ∉ bs → w'.heap[b]? = w.heap[b]?) ∧ w.heap.size ≤ w'.heap.size ∧ w'.os = w.os ∧ w'.tape = w.tape ∧ w'.output = w.output := by
  obtain ⟨a, n, c, rfl, hl, hz, hx⟩ := h.slice
  rw [fm_len pcDs_len] at hl
  obtain rfl : L.length = n := by omega
  by_cases h0 : 0 < L.length
  · obtain ⟨g, cur, val, fb, rfl, hr, hs, hc, hd, rfl⟩ := hx h0
    have hfb : (List.range (L.flatMap pcDs).length).flatMap fb = [] := by
      rw [List.flatMap_eq_nil_iff]
      intro j hj
      have hj := List.mem_range.1 hj
      have hj3 : j / 3 < L.length := by rw [fm_len pcDs_len] at hj; omega
      obtain ⟨x0, x1, x2⟩ := pcs_cells hj3
      rcases (show j = 3 * (j / 3) ∨ j = 3 * (j / 3) + 1 ∨ j = 3 * (j / 3) + 2 by omega) with e | e | e
      · rw [e]; exact ((hd _ _ x0).one_inv).2
      · rw [e]; exact ((hd _ _ x1).one_inv).2
      · rw [e]; exact ((hd _ _ x2).one_inv).2
    rw [hfb]
    refine (markPF g c L.length k cur w hn h1 hk hr hs).mono ?_
    rintro e w' ⟨⟨rfl, C, hr', hs', hc'⟩, hg⟩
    refine ⟨⟨rfl, ?_⟩, fun b hb hne => hg.block b hb (fun e => hne (by injection e with e; simp [e])), hg.size, hg.os, hg.tape, hg.output⟩
    have h5 := pcs_hd (w := w') (c := c) (L := pcMk L.length k) (by rw [pcMk_len]; exact h0) hr' (by rw [pcMk_len]; exact hs') (fun i hi => by
      rw [pcMk_len] at hi
      rw [pcMk_at hi]
      exact hc' i hi)
    rw [pcMk_len] at h5
    exact h5
  · have e0 : L = [] := List.length_eq_zero_iff.1 (by omega)
    subst e0
    have hbs := hz rfl
    subst hbs
    refine (markP_zero a c k w).mono ?_
    rintro e w' ⟨rfl, rfl⟩
    exact ⟨⟨rfl, .nil _ _ _ _⟩, fun b _ _ => rfl, Nat.le_refl _, rfl, rfl, rfl⟩
theorem heldPcs_deep (v : Value) (n k : Nat) (bs : List Nat) (w : World) (hn : n ≤ 1048576) (h1 : 1 ≤ k) (hk : k ≤ 4000000) (h : Hd w (pcsD (pcMk n k)) v bs) :
    Calls Try.prog 53 #[v, .int .i64 (k : Int)] w fun e w' => e = .returned (.int .i64 ((k + 3 * n : Nat) : Int)) ∧ Below w.heap.size w w' := by
  obtain ⟨a, c, rfl, hx⟩ := pcs_arg h
  rw [pcMk_len] at hx ⊢
  by_cases h0 : 0 < n
  · obtain ⟨g, rfl, hrow⟩ := hx h0
    exact heldP_any g c n k w hn h1 hk hrow.lt fun j hj => by
      have c0 := hrow.c0 j hj
      have c1 := hrow.c1 j hj
      have c2 := hrow.c2 j hj
      rw [pcMk_at hj] at c0 c1 c2
      exact ⟨c0, c1, c2⟩
  · obtain rfl : n = 0 := by omega
    refine (heldP_zero a c k w).mono ?_
    rintro e w' ⟨rfl, rfl⟩
    exact ⟨rfl, Below.refl _ _⟩
end Go.Proofs.Ytpeddaljgmkomaa
