/-
  Links as deep values: what the law makes of a list of them that came in; how much they hold.
-/
import Derived.Test.YtpeddaljgmkomaaPcD
namespace Go.Proofs.Ytpeddaljgmkomaa
open Go.RowKit
set_option linter.unusedVariables false
set_option linter.unusedSimpArgs false
structure LkI where
  b : Int
  d : ByteArray
  p : List PcI
def lkDs (x : LkI) : List Dd := [.one (.int .i64 x.b), .one (.string x.d), pcsD x.p]
def lksD (L : List LkI) : Dd := .list 54 3 (L.flatMap lkDs)
theorem lkDs_len (x : LkI) : (lkDs x).length = 3 := rfl
theorem Try.infLk : (Try.prog.info? 54).map (fun i => (i.zero, i.size, i.bytes)) = some (some (.agg #[.int .i64 0, .string ⟨#[]⟩, .slice none 0 0]), 3, 48) := by kernel_rfl
theorem lks_cells {L : List LkI} {i : Nat} {x : LkI} (hi : L[i]? = some x) : (L.flatMap lkDs)[3 * i]? = some (.one (.int .i64 x.b)) ∧ (L.flatMap lkDs)[3 * i + 1]? = some (.one (.string x.d)) ∧ (L.flatMap lkDs)[3 * i + 2]? = some (pcsD x.p) :=
  ⟨fm_at lkDs_len L i 0 _ hi (by omega), fm_at lkDs_len L i 1 _ hi (by omega), fm_at lkDs_len L i 2 _ hi (by omega)⟩
/-- a list of links that can be read, struct by struct -/
theorem lks_rd {w : World} {L : List LkI} {v : Value} (h : Rd w (lksD L) v) : ∃ a c, v = .slice a L.length c ∧ (0 < L.length → ∃ g off, a = some ⟨g, off, none⟩ ∧ g < w.heap.size ∧ ∀ i x, L[i]? = some x → ∃ pv, w.cell? ⟨g, off + i * 3, none⟩ = some (.int .i64 x.b) ∧ w.cell? ⟨g, off + i * 3 + 1, none⟩ = some (.string x.d) ∧ w.cell? ⟨g, off + i * 3 + 2, none⟩ = some pv ∧ Rd w (pcsD x.p) pv) := by
  obtain ⟨a, n, c, rfl, hl, hx⟩ := h.slice
  rw [fm_len lkDs_len] at hl
  obtain rfl : L.length = n := by omega
  refine ⟨a, c, rfl, fun h0 => ?_⟩
  obtain ⟨g, off, val, rfl, hg, hc, hd⟩ := hx h0
  refine ⟨g, off, rfl, hg, fun i x hi => ?_⟩
  have hi2 := (List.getElem?_eq_some_iff.1 hi).1
  obtain ⟨x0, x1, x2⟩ := lks_cells hi
  have hfl := fm_len lkDs_len L
  have y0 := (hd _ _ x0).one_inv
  have y1 := (hd _ _ x1).one_inv
  rw [show off + i * 3 = off + 3 * i by omega, show off + 3 * i + 1 = off + (3 * i + 1) by omega, show off + 3 * i + 2 = off + (3 * i + 2) by omega]
  exact ⟨val (3 * i + 2), (hc _ (by omega)).trans (by rw [y0]), (hc _ (by omega)).trans (by rw [y1]), hc _ (by omega), hd _ _ x2⟩
/-- a list of links in a row of its own -/
theorem lks_hd {w : World} {L : List LkI} {v : Value} {bs : List Nat} (h : Hd w (lksD L) v bs) : ∃ a c, v = .slice a L.length c ∧ (L.length = 0 → bs = []) ∧ (0 < L.length → ∃ g cur fb, a = some ⟨g, 0, none⟩ ∧ w.heap[g]? = some (.cells cur 54 (0, 0)) ∧ 3 * L.length ≤ cur.size ∧ bs = g :: (List.range L.length).flatMap fb ∧ ∀ i x, L[i]? = some x → ∃ pv, cur[3 * i]? = some (.int .i64 x.b) ∧ cur[3 * i + 1]? = some (.string x.d) ∧ cur[3 * i + 2]? = some pv ∧ Hd w (pcsD x.p) pv (fb i)) := by
  obtain ⟨a, n, c, rfl, hl, hz, hx⟩ := h.slice
  rw [fm_len lkDs_len] at hl
  obtain rfl : L.length = n := by omega
  refine ⟨a, c, rfl, hz, fun h0 => ?_⟩
  obtain ⟨g, cur, val, fb, rfl, hr, hs, hc, hd, rfl⟩ := hx h0
  refine ⟨g, cur, fun i => fb (3 * i + 2), rfl, hr, hs, ?_, fun i x hi => ?_⟩
  · congr 1
    rw [fm_len lkDs_len]
    refine rows_foot fun i hi => ?_
    obtain ⟨x0, x1, x2⟩ := lks_cells (List.getElem?_eq_getElem hi)
    show fb (3 * i) ++ (fb (3 * i + 1) ++ (fb (3 * i + 2) ++ [])) = _
    rw [((hd _ _ x0).one_inv).2, ((hd _ _ x1).one_inv).2]
    simp
  · have hi2 := (List.getElem?_eq_some_iff.1 hi).1
    obtain ⟨x0, x1, x2⟩ := lks_cells hi
    have hfl := fm_len lkDs_len L
    have y0 := ((hd _ _ x0).one_inv).1
    have y1 := ((hd _ _ x1).one_inv).1
    exact ⟨val (3 * i + 2), (hc _ (by omega)).trans (by rw [y0]), (hc _ (by omega)).trans (by rw [y1]), hc _ (by omega), hd _ _ x2⟩
set_option maxRecDepth 100000 in
set_option maxHeartbeats 1000000 in
theorem toLk_one (x : LkI) (pv : Value) (w : World) (hn : x.p.length ≤ 1048576) (h : Rd w (pcsD x.p) pv) :
    Calls Try.prog 39 #[.agg #[.int .i64 x.b, .string x.d, pv]] w fun e w' => (∃ pv', e = .returned (.agg #[.int .i64 x.b, .string x.d, pv']) ∧ Own w' w.heap.size (pcsD x.p) pv') ∧ Below w.heap.size w w' := by
  obtain ⟨b, d, p⟩ := x
  simp only at hn h ⊢
  obtain ⟨a, n, c, rfl, _⟩ := h.slice
  have HT : Hid (∀ w', Below w.heap.size w w' → Calls Try.prog 70 #[.slice a n c] w' fun e w2 => (∃ v', e = .returned v' ∧ Own w2 w'.heap.size (pcsD p) v') ∧ Below w'.heap.size w' w2) := fun w' hb => toPcs_deep _ p w' hn (h.under hb)
  clear h hn
  go_enter Try.func39, Try.ntmps39
  go_wp2_with fail
  have hbw : Below w.heap.size w (((w.alloc (.cells #[.int .i64 b, .string d, .slice a n c] 48)).alloc (.cells #[.int .i64 0, .string ⟨#[]⟩, .slice none 0 0] 54)).alloc (.cells #[.int .i64 b, .string d, .slice none 0 0] 54)) :=
    (((Below.refl _ _).alloc (Nat.le_refl _) _).alloc (by simp) _).alloc (by simp; omega) _
  have hs1 : (((w.alloc (.cells #[.int .i64 b, .string d, .slice a n c] 48)).alloc (.cells #[.int .i64 0, .string ⟨#[]⟩, .slice none 0 0] 54)).alloc (.cells #[.int .i64 b, .string d, .slice none 0 0] 54)).heap.size = w.heap.size + 1 + 1 + 1 := by simp
  have hq1 : (((w.alloc (.cells #[.int .i64 b, .string d, .slice a n c] 48)).alloc (.cells #[.int .i64 0, .string ⟨#[]⟩, .slice none 0 0] 54)).alloc (.cells #[.int .i64 b, .string d, .slice none 0 0] 54)).heap[w.heap.size + 1]? = some (.cells #[.int .i64 0, .string ⟨#[]⟩, .slice none 0 0] 54 (0, 0)) := by
    rw [Below.heap_alloc _ _ _ (by simp)]
    have h := heap_alloc_new (w.alloc (.cells #[.int .i64 b, .string d, .slice a n c] 48)) (.cells #[.int .i64 0, .string ⟨#[]⟩, .slice none 0 0] 54)
    simpa using h
  have hq2 : (((w.alloc (.cells #[.int .i64 b, .string d, .slice a n c] 48)).alloc (.cells #[.int .i64 0, .string ⟨#[]⟩, .slice none 0 0] 54)).alloc (.cells #[.int .i64 b, .string d, .slice none 0 0] 54)).heap[w.heap.size + 1 + 1]? = some (.cells #[.int .i64 b, .string d, .slice none 0 0] 54 (0, 0)) := by
    have h := heap_alloc_new ((w.alloc (.cells #[.int .i64 b, .string d, .slice a n c] 48)).alloc (.cells #[.int .i64 0, .string ⟨#[]⟩, .slice none 0 0] 54)) (.cells #[.int .i64 b, .string d, .slice none 0 0] 54)
    simpa using h
  have HX : Hid _ := hbw
  have HS1 := dhid hs1
  have HQ1 := dhid hq1
  have HQ2 := dhid hq2
  clear hbw hs1 hq1 hq2
  refine (HT.out _ HX.out).mono ?_
  rintro e w3 ⟨⟨v', rfl, ho⟩, hb⟩
  rw [HS1.out] at ho hb
  have r1 : w3.heap[w.heap.size + 1]? = _ := (hb.block (w.heap.size + 1) (by omega)).trans HQ1.out
  have r2 : w3.heap[w.heap.size + 1 + 1]? = _ := (hb.block (w.heap.size + 1 + 1) (by omega)).trans HQ2.out
  have HB : Hid (Below w.heap.size w w3) := dblow HX.out hb (by omega)
  have R1 := dhid r1
  have R2 := dhid r2
  have HO := dhid ho
  have HLT : Hid (w.heap.size + 1 + 1 + 1 ≤ w3.heap.size) := by have := hb.size; rw [HS1.out] at this; exact this
  have x0 : w3.cell? ⟨w.heap.size + 1, 0, none⟩ = some (.int .i64 0) := cell_of_row w3 _ 0 _ _ _ r1
  have x1 : w3.cell? ⟨w.heap.size + 1, 1, none⟩ = some (.string ⟨#[]⟩) := cell_of_row w3 _ 1 _ _ _ r1
  have x2 : w3.cell? ⟨w.heap.size + 1, 2, none⟩ = some (.slice none 0 0) := cell_of_row w3 _ 2 _ _ _ r1
  have y0 : w3.cell? ⟨w.heap.size + 1 + 1, 0, none⟩ = some (.int .i64 b) := cell_of_row w3 _ 0 _ _ _ r2
  have y1 : w3.cell? ⟨w.heap.size + 1 + 1, 1, none⟩ = some (.string d) := cell_of_row w3 _ 1 _ _ _ r2
  have y2 : w3.cell? ⟨w.heap.size + 1 + 1, 2, none⟩ = some (.slice none 0 0) := cell_of_row w3 _ 2 _ _ _ r2
  have z0 := frozen_of_row w3 _ 0 _ _ r1
  have z1 := frozen_of_row w3 _ 1 _ _ r1
  have z2 := frozen_of_row w3 _ 2 _ _ r1
  have f2 := frozen_of_row w3 _ 2 _ _ r2
  obtain ⟨a', n', c', rfl, _⟩ := ho.rd.slice
  clear hb ho r1 r2 HX HQ1 HQ2 HS1 HT
  go_wp2_with fail
  have hK : ∀ k, w.heap.size + 1 + 1 + 1 ≤ k → ((((w3.setCell ⟨w.heap.size + 1 + 1, 2, none⟩ (.slice a' n' c')).setCell ⟨w.heap.size + 1, 0, none⟩ (.int .i64 b)).setCell ⟨w.heap.size + 1, 1, none⟩ (.string d)).setCell ⟨w.heap.size + 1, 2, none⟩ (.slice a' n' c')).heap[k]? = w3.heap[k]? := fun k hk => by
    rw [heap_setCell_other _ _ _ _ (by show k ≠ w.heap.size + 1; omega), heap_setCell_other _ _ _ _ (by show k ≠ w.heap.size + 1; omega), heap_setCell_other _ _ _ _ (by show k ≠ w.heap.size + 1; omega), heap_setCell_other _ _ _ _ (by show k ≠ w.heap.size + 1 + 1; omega)]
  refine bodyPost_ret (results_cell_row rfl _ _ (w.heap.size + 1) 54 #[.int .i64 b, .string d, .slice a' n' c'] (0, 0) _ rfl ?_ Try.underlying54 rfl (by kernel_rfl)) rfl ⟨⟨_, rfl, (HO.out.keep fun k hk _ => hK k hk).base (by omega)⟩, (((HB.out.setCell (p := ⟨w.heap.size + 1 + 1, 2, none⟩) (by show _ ≤ w.heap.size + 1 + 1; omega) _).setCell (p := ⟨w.heap.size + 1, 0, none⟩) (by show _ ≤ w.heap.size + 1; omega) _).setCell (p := ⟨w.heap.size + 1, 1, none⟩) (by show _ ≤ w.heap.size + 1; omega) _).setCell (p := ⟨w.heap.size + 1, 2, none⟩) (by show _ ≤ w.heap.size + 1; omega) _⟩
  exact heap_setCell_same _ _ _ #[.int .i64 b, .string d, .slice none 0 0] _ _ (heap_setCell_same _ _ _ #[.int .i64 b, .string ⟨#[]⟩, .slice none 0 0] _ _ (heap_setCell_same _ _ _ #[.int .i64 0, .string ⟨#[]⟩, .slice none 0 0] _ _ ((heap_setCell_other w3 ⟨w.heap.size + 1 + 1, 2, none⟩ (w.heap.size + 1) (.slice a' n' c') (by show w.heap.size + 1 ≠ w.heap.size + 1 + 1; omega)).trans R1.out)))
end Go.Proofs.Ytpeddaljgmkomaa
