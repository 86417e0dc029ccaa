/-
  A token that is drawn.
-/
import Derived.Test.YtnkahdidelhdaacUnTk
import Derived.Test.YtnkahdidelhdaacOff
import Derived.Laws.Rows
namespace Go.Proofs.Ytnkahdidelhdaac
open Go.RowKit
set_option linter.unusedVariables false
set_option linter.unusedSimpArgs false
/-- a token at w's own new block, and nothing else of w turned -/
def putT (w : World) (g : Nat) (t : TkI) : World := (((w.setCell ⟨g, 0, none⟩ (.int .i64 t.k)).setCell ⟨g, 1, none⟩ (.int .i64 t.b)).setCell ⟨g, 2, none⟩ (.int .i64 t.d)).setCell ⟨g, 3, none⟩ (.int .i64 t.l)
theorem putT_row {w : World} {g : Nat} {x0 x1 x2 x3 : Value} {ty : TypeId} (h : w.heap[g]? = some (.cells #[x0, x1, x2, x3] ty (0, 0))) (t : TkI) : (putT w g t).heap[g]? = some (.cells #[.int .i64 t.k, .int .i64 t.b, .int .i64 t.d, .int .i64 t.l] ty (0, 0)) :=
  heap_setCell_same _ _ _ _ _ _ (heap_setCell_same _ _ _ _ _ _ (heap_setCell_same _ _ _ _ _ _ (heap_setCell_same _ _ _ _ _ _ h)))
theorem putT_below {B : Nat} {w0 w : World} (h : Below B w0 w) {g : Nat} (hg : B ≤ g) (t : TkI) : Below B w0 (putT w g t) :=
  (((h.setCell (p := ⟨g, 0, none⟩) hg _).setCell (p := ⟨g, 1, none⟩) hg _).setCell (p := ⟨g, 2, none⟩) hg _).setCell (p := ⟨g, 3, none⟩) hg _
theorem putT_other {w : World} {g k : Nat} (h : k ≠ g) (t : TkI) : (putT w g t).heap[k]? = w.heap[k]? := by
  unfold putT
  rw [heap_setCell_other _ _ _ _ h, heap_setCell_other _ _ _ _ h, heap_setCell_other _ _ _ _ h, heap_setCell_other _ _ _ _ h]
theorem putT_size (w : World) (g : Nat) (t : TkI) : (putT w g t).heap.size = w.heap.size := by unfold putT; simp
theorem Rd3.put {w0 : World} {a : Option Addr} {len cap g : Nat} {W w1 : World} (h : Rd3 w0 a len cap g W w1) {b : Nat} (hb : W.heap.size ≤ b) (hg : g < W.heap.size) (t : TkI) : Rd3 w0 a len cap g W (putT w1 b t) := by
  obtain ⟨⟨h1, h2, p, h3, h4⟩, hg1⟩ := h
  have hne : g ≠ b := by omega
  refine ⟨⟨?_, h2, p, h3, ?_⟩, ?_⟩
  · exact putT_below h1 (by omega) t
  · rw [putT_other hne]; exact h4
  · have hb2 := putT_below (B := b) (Below.refl b w1) (Nat.le_refl _) t
    exact ⟨hb2.os.trans hg1.os, hb2.tape.trans hg1.tape, hb2.output.trans hg1.output, by rw [putT_size]; exact hg1.size, fun k hk hne => by rw [putT_other (by omega)]; exact hg1.block k hk hne⟩
set_option maxRecDepth 100000 in
set_option maxHeartbeats 1000000 in
theorem token_any {w0 : World} {a : Option Addr} {len cap g : Nat} {W : World} (hS : Src w0 a len) (h : RD w0 a len cap g W) :
    Calls Try.prog 48 #[.pointer (some ⟨g, 0, none⟩)] W fun e w' => (∃ t : TkI, e = .returned (tokV t.k t.b t.d t.l)) ∧ Rd3 w0 a len cap g W w' := by
  have HGL : Hid (g < W.heap.size) := h.lt
  have HR0 : Hid (Rd3 w0 a len cap g W (W.alloc (.cells #[.int .i64 0, .int .i64 0, .int .i64 0, .int .i64 0] 44))) := (Rd3.refl h).alloc _
  have HROW : Hid ((W.alloc (.cells #[.int .i64 0, .int .i64 0, .int .i64 0, .int .i64 0] 44)).heap[W.heap.size]? = some (.cells #[.int .i64 0, .int .i64 0, .int .i64 0, .int .i64 0] 44 (0, 0))) := heap_alloc_new W _
  have hsz : (W.alloc (.cells #[.int .i64 0, .int .i64 0, .int .i64 0, .int .i64 0] 44)).heap.size = W.heap.size + 1 := by simp
  have HSZ : Hid _ := hsz
  clear hsz
  go_enter Try.func48, Try.ntmps48
  go_wp2_with fail
  generalize W.alloc (.cells #[.int .i64 0, .int .i64 0, .int .i64 0, .int .i64 0] 44) = W1 at HR0 HROW HSZ ⊢
  refine (once_any hS HR0.out.rd 2 (by omega) (by omega)).mono ?_
  rintro e w1 ⟨⟨x, rfl⟩, hr⟩
  have hne : some W.heap.size ≠ some g := by intro c; injection c with c; have := HGL.out; omega
  have HROW1 : Hid (w1.heap[W.heap.size]? = some (.cells #[.int .i64 0, .int .i64 0, .int .i64 0, .int .i64 0] 44 (0, 0))) := (hr.grown.block _ (by rw [HSZ.out]; omega) hne).trans HROW.out
  have HS1 : Hid (W.heap.size < w1.heap.size) := by have := hr.grown.size; have := HSZ.out; show _ < _; omega
  have HR1 : Hid (Rd3 w0 a len cap g W w1) := HR0.out.trans hr
  clear hr HR0 HROW HSZ
  cases x with
  | true =>
    go_wp2_with fail
    refine (off_any hS HR1.out.rd 0 255 (by omega) (by omega) (by omega)).mono ?_
    rintro e w2 ⟨⟨x, _, _, rfl⟩, hr2⟩
    have hrow := (hr2.grown.block _ HS1.out hne).trans HROW1.out
    have HROW2 : Hid _ := hrow
    have y0 : w2.cell? ⟨W.heap.size, 0, none⟩ = some (.int .i64 0) := cell_of_row w2 _ 0 _ _ _ hrow
    have y1 : w2.cell? ⟨W.heap.size, 1, none⟩ = some (.int .i64 0) := cell_of_row w2 _ 1 _ _ _ hrow
    have y2 : w2.cell? ⟨W.heap.size, 2, none⟩ = some (.int .i64 0) := cell_of_row w2 _ 2 _ _ _ hrow
    have y3 : w2.cell? ⟨W.heap.size, 3, none⟩ = some (.int .i64 0) := cell_of_row w2 _ 3 _ _ _ hrow
    have z0 := frozen_of_row w2 _ 0 _ _ hrow
    have z1 := frozen_of_row w2 _ 1 _ _ hrow
    have z2 := frozen_of_row w2 _ 2 _ _ hrow
    have z3 := frozen_of_row w2 _ 3 _ _ hrow
    have HR2 : Hid (Rd3 w0 a len cap g W w2) := HR1.out.trans hr2
    clear hr2 hrow HR1 HROW1
    go_wp2_with fail
    refine bodyPost_ret (results_cell_row rfl _ _ W.heap.size 44 #[.int .i64 0, .int .i64 x, .int .i64 0, .int .i64 0] (0, 0) _ rfl (putT_row HROW2.out ⟨0, x, 0, 0⟩) Try.underlying44 rfl (by kernel_rfl)) rfl ⟨⟨⟨0, x, 0, 0⟩, rfl⟩, HR2.out.put (Nat.le_refl _) HGL.out ⟨0, x, 0, 0⟩⟩
  | false =>
    go_wp2_with fail
    refine (below_any hS HR1.out.rd 6 (by omega) (by omega)).mono ?_
    rintro e w2 ⟨⟨x, hx1, hx2, rfl⟩, hr2⟩
    have HROW2 : Hid (w2.heap[W.heap.size]? = some (.cells #[.int .i64 0, .int .i64 0, .int .i64 0, .int .i64 0] 44 (0, 0))) := (hr2.grown.block _ HS1.out hne).trans HROW1.out
    have HS2 : Hid (W.heap.size < w2.heap.size) := Nat.lt_of_lt_of_le HS1.out hr2.grown.size
    have HR2 : Hid (Rd3 w0 a len cap g W w2) := HR1.out.trans hr2
    have hwx : IntKind.i64.wrap (1 + x) = 1 + x := by rw [IntKind.wrap_i64]; omega
    clear hr2 HR1 HROW1 HS1
    go_wp2_with fail
    refine (below_any hS HR2.out.rd 9 (by omega) (by omega)).mono ?_
    rintro e w3 ⟨⟨y, hy1, hy2, rfl⟩, hr3⟩
    have hrow := (hr3.grown.block _ HS2.out hne).trans HROW2.out
    have HROW3 : Hid _ := hrow
    have hwy : IntKind.i64.wrap (3 + y) = 3 + y := by rw [IntKind.wrap_i64]; omega
    have y0 : w3.cell? ⟨W.heap.size, 0, none⟩ = some (.int .i64 0) := cell_of_row w3 _ 0 _ _ _ hrow
    have y1 : w3.cell? ⟨W.heap.size, 1, none⟩ = some (.int .i64 0) := cell_of_row w3 _ 1 _ _ _ hrow
    have y2 : w3.cell? ⟨W.heap.size, 2, none⟩ = some (.int .i64 0) := cell_of_row w3 _ 2 _ _ _ hrow
    have y3 : w3.cell? ⟨W.heap.size, 3, none⟩ = some (.int .i64 0) := cell_of_row w3 _ 3 _ _ _ hrow
    have z0 := frozen_of_row w3 _ 0 _ _ hrow
    have z1 := frozen_of_row w3 _ 1 _ _ hrow
    have z2 := frozen_of_row w3 _ 2 _ _ hrow
    have z3 := frozen_of_row w3 _ 3 _ _ hrow
    have HR3 : Hid (Rd3 w0 a len cap g W w3) := HR2.out.trans hr3
    clear hr3 hrow HR2 HROW2
    go_wp2_with fail
    refine bodyPost_ret (results_cell_row rfl _ _ W.heap.size 44 #[.int .i64 1, .int .i64 0, .int .i64 (1 + x), .int .i64 (3 + y)] (0, 0) _ rfl (putT_row HROW3.out ⟨1, 0, 1 + x, 3 + y⟩) Try.underlying44 rfl (by kernel_rfl)) rfl ⟨⟨⟨1, 0, 1 + x, 3 + y⟩, rfl⟩, HR3.out.put (Nat.le_refl _) HGL.out ⟨1, 0, 1 + x, 3 + y⟩⟩
end Go.Proofs.Ytnkahdidelhdaac
