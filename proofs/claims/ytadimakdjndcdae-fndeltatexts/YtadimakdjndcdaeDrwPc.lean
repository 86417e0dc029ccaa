/-
  Pieces that are drawn.
-/
import Derived.Test.YtadimakdjndcdaeOff
import Derived.Test.YtadimakdjndcdaeRdL
import Derived.Test.YtadimakdjndcdaeHeld
import Derived.Laws.Rows
namespace Go.Proofs.Ytadimakdjndcdae
open Go.RowKit
set_option linter.unusedVariables false
set_option linter.unusedSimpArgs false
theorem row_ltP {w : World} {b : Nat} {o : Obj} (h : w.heap[b]? = some o) : b < w.heap.size := (Array.getElem?_eq_some_iff.1 h).1
theorem Rd3.setP {w0 : World} {a : Option Addr} {len cap g : Nat} {W w1 : World} (h : Rd3 w0 a len cap g W w1) {b : Nat} (hb : W.heap.size ≤ b) (hg : g < W.heap.size) (hw : w0.heap.size ≤ W.heap.size) (t : Nat) (v : Value) : Rd3 w0 a len cap g W (w1.setCell ⟨b, t, none⟩ v) := by
  obtain ⟨⟨h1, h2, p, h3, h4⟩, hg1⟩ := h
  have hne : g ≠ b := by omega
  refine ⟨⟨?_, h2, p, h3, ?_⟩, ?_⟩
  · exact h1.setCell (p := ⟨b, t, none⟩) (by show w0.heap.size ≤ b; omega) v
  · rw [heap_setCell_other _ _ _ _ hne]; exact h4
  · exact ⟨hg1.os, hg1.tape, hg1.output, by simpa using hg1.size, fun k hk hne => by rw [heap_setCell_other _ _ _ _ (by show k ≠ b; omega)]; exact hg1.block k hk hne⟩
/-- a piece laid at block b -/
def putP (w : World) (b : Nat) (p : PcI) : World := ((w.setCell ⟨b, 0, none⟩ (.int .i64 p.f)).setCell ⟨b, 1, none⟩ (.int .i64 p.l)).setCell ⟨b, 2, none⟩ (.string p.d)
theorem putP_row {w : World} {b : Nat} {x0 x1 x2 : Value} {t : TypeId} (h : w.heap[b]? = some (.cells #[x0, x1, x2] t (0, 0))) (p : PcI) : (putP w b p).heap[b]? = some (.cells #[.int .i64 p.f, .int .i64 p.l, .string p.d] t (0, 0)) :=
  heap_setCell_same _ _ _ _ _ _ (heap_setCell_same _ _ _ _ _ _ (heap_setCell_same _ _ _ _ _ _ h))
theorem Rd3.putP {w0 : World} {a : Option Addr} {len cap g : Nat} {W w1 : World} (h : Rd3 w0 a len cap g W w1) {b : Nat} (hb : W.heap.size ≤ b) (hg : g < W.heap.size) (hw : w0.heap.size ≤ W.heap.size) (p : PcI) : Rd3 w0 a len cap g W (putP w1 b p) :=
  ((h.setP hb hg hw 0 _).setP hb hg hw 1 _).setP hb hg hw 2 _
theorem x_size (l : List UInt8) (h : (l.length : Int) ≤ 4) : ((⟨#[120]⟩ : ByteArray) ++ ⟨l.toArray⟩).size ≤ 5 := by
  rw [ByteArray.size_append]
  have h2 : (⟨l.toArray⟩ : ByteArray).size = l.length := by simp [ByteArray.size]
  rw [h2]
  show 1 + l.length ≤ 5
  omega
set_option maxRecDepth 100000 in
set_option maxHeartbeats 2000000 in
theorem piece_drawn {w0 : World} {a : Option Addr} {len cap g : Nat} {W : World} (hS : Src w0 a len) (h : RD w0 a len cap g W) (old : Int) (h0 : 0 ≤ old) (h1 : old ≤ 4000) :
    Calls Try.prog 40 #[.pointer (some ⟨g, 0, none⟩), .int .i64 old] W fun e w' => (∃ p : PcI, p.d.size ≤ 5 ∧ e = .returned (pcV p.f p.l p.d)) ∧ Rd3 w0 a len cap g W w' := by
  have HGL : Hid (g < W.heap.size) := h.lt
  have HW0 : Hid (w0.heap.size ≤ W.heap.size) := h.below.size
  have HR0 : Hid (Rd3 w0 a len cap g W (W.alloc (.cells #[.int .i64 0, .int .i64 0, .string ⟨#[]⟩] 43))) := (Rd3.refl h).alloc _
  have HOUT0 : Hid ((W.alloc (.cells #[.int .i64 0, .int .i64 0, .string ⟨#[]⟩] 43)).heap[W.heap.size]? = some (.cells #[.int .i64 0, .int .i64 0, .string ⟨#[]⟩] 43 (0, 0))) := heap_alloc_new W _
  have hng : some W.heap.size ≠ some g := by intro c; injection c with c; have := HGL.out; omega
  have HNG : Hid _ := hng
  clear hng h
  unfold pcV
  have HX : Hid (∀ w1 w2 : World, Rd3 w0 a len cap g W w1 → Rd3 w0 a len cap g w1 w2 → w1.heap[W.heap.size]? = some (.cells #[.int .i64 0, .int .i64 0, .string ⟨#[]⟩] 43 (0, 0)) → Rd3 w0 a len cap g W w2 ∧ w2.heap[W.heap.size]? = some (.cells #[.int .i64 0, .int .i64 0, .string ⟨#[]⟩] 43 (0, 0))) := fun w1 w2 k1 k2 k3 => ⟨k1.trans k2, (k2.grown.block _ (row_ltP k3) HNG.out).trans k3⟩
  by_cases hz : old < 1
  · go_enter Try.func40, Try.ntmps40
    go_wp2_with fail
    generalize W.alloc (.cells #[.int .i64 0, .int .i64 0, .string ⟨#[]⟩] 43) = W1 at HR0 HOUT0 ⊢
    refine (bytes_any hS HR0.out.rd 4 (by omega) (by omega)).mono ?_
    rintro e w2 ⟨⟨l, hl, rfl⟩, hr2⟩
    obtain ⟨k1, k2⟩ := HX.out _ _ HR0.out hr2 HOUT0.out
    have HR2 : Hid _ := k1
    have HOUT2 : Hid _ := k2
    have hsz := x_size l hl
    generalize (⟨l.toArray⟩ : ByteArray) = d0 at hsz ⊢
    have hmx : ¬ 9223372036854775807 < 1 + d0.size := by
        rw [ByteArray.size_append] at hsz
        have h5 : 1 + d0.size ≤ 5 := hsz
        omega
    have y0 : w2.cell? ⟨W.heap.size, 0, none⟩ = some (.int .i64 0) := cell_of_row w2 _ 0 _ _ _ k2
    have y1 : w2.cell? ⟨W.heap.size, 1, none⟩ = some (.int .i64 0) := cell_of_row w2 _ 1 _ _ _ k2
    have y2 : w2.cell? ⟨W.heap.size, 2, none⟩ = some (.string ⟨#[]⟩) := cell_of_row w2 _ 2 _ _ _ k2
    have z0 := frozen_of_row w2 _ 0 _ _ k2
    have z1 := frozen_of_row w2 _ 1 _ _ k2
    have z2 := frozen_of_row w2 _ 2 _ _ k2
    clear hr2 k1 k2 HR0 HOUT0 hl
    go_wp2_with fail
    refine bodyPost_ret (results_cell_row rfl _ _ W.heap.size 43 #[.int .i64 0, .int .i64 0, .string ((⟨#[120]⟩ : ByteArray) ++ d0)] (0, 0) _ rfl (putP_row HOUT2.out ⟨0, 0, (⟨#[120]⟩ : ByteArray) ++ d0⟩) Try.underlying43 rfl (by kernel_rfl)) rfl ⟨⟨⟨0, 0, (⟨#[120]⟩ : ByteArray) ++ d0⟩, hsz, rfl⟩, HR2.out.putP (Nat.le_refl _) HGL.out HW0.out ⟨0, 0, (⟨#[120]⟩ : ByteArray) ++ d0⟩⟩
  · go_enter Try.func40, Try.ntmps40
    go_wp2_with fail
    generalize W.alloc (.cells #[.int .i64 0, .int .i64 0, .string ⟨#[]⟩] 43) = W1 at HR0 HOUT0 ⊢
    refine (once_any hS HR0.out.rd 3 (by omega) (by omega)).mono ?_
    rintro e w1 ⟨⟨x, rfl⟩, hr1⟩
    obtain ⟨k1, k2⟩ := HX.out _ _ HR0.out hr1 HOUT0.out
    have HR1 : Hid _ := k1
    have HOUT1 : Hid _ := k2
    clear hr1 k1 k2 HR0 HOUT0
    cases x with
    | true =>
      go_wp2_with fail
      refine (bytes_any hS HR1.out.rd 4 (by omega) (by omega)).mono ?_
      rintro e w2 ⟨⟨l, hl, rfl⟩, hr2⟩
      obtain ⟨k1, k2⟩ := HX.out _ _ HR1.out hr2 HOUT1.out
      have HR2 : Hid _ := k1
      have HOUT2 : Hid _ := k2
      have hsz := x_size l hl
      generalize (⟨l.toArray⟩ : ByteArray) = d0 at hsz ⊢
      have hmx : ¬ 9223372036854775807 < 1 + d0.size := by
        rw [ByteArray.size_append] at hsz
        have h5 : 1 + d0.size ≤ 5 := hsz
        omega
      have y0 : w2.cell? ⟨W.heap.size, 0, none⟩ = some (.int .i64 0) := cell_of_row w2 _ 0 _ _ _ k2
      have y1 : w2.cell? ⟨W.heap.size, 1, none⟩ = some (.int .i64 0) := cell_of_row w2 _ 1 _ _ _ k2
      have y2 : w2.cell? ⟨W.heap.size, 2, none⟩ = some (.string ⟨#[]⟩) := cell_of_row w2 _ 2 _ _ _ k2
      have z0 := frozen_of_row w2 _ 0 _ _ k2
      have z1 := frozen_of_row w2 _ 1 _ _ k2
      have z2 := frozen_of_row w2 _ 2 _ _ k2
      clear hr2 k1 k2 HR1 HOUT1 hl
      go_wp2_with fail
      refine bodyPost_ret (results_cell_row rfl _ _ W.heap.size 43 #[.int .i64 0, .int .i64 0, .string ((⟨#[120]⟩ : ByteArray) ++ d0)] (0, 0) _ rfl (putP_row HOUT2.out ⟨0, 0, (⟨#[120]⟩ : ByteArray) ++ d0⟩) Try.underlying43 rfl (by kernel_rfl)) rfl ⟨⟨⟨0, 0, (⟨#[120]⟩ : ByteArray) ++ d0⟩, hsz, rfl⟩, HR2.out.putP (Nat.le_refl _) HGL.out HW0.out ⟨0, 0, (⟨#[120]⟩ : ByteArray) ++ d0⟩⟩
    | false =>
      go_wp2_with fail
      refine (below_any hS HR1.out.rd old (by omega) (by omega)).mono ?_
      rintro e w2 ⟨⟨x, hx1, hx2, rfl⟩, hr2⟩
      obtain ⟨k1, k2⟩ := HX.out _ _ HR1.out hr2 HOUT1.out
      have HR2 : Hid _ := k1
      have HOUT2 : Hid _ := k2
      have hw1 : IntKind.i64.wrap (old - x) = old - x := by rw [IntKind.wrap_i64]; omega
      clear hr2 k1 k2 HR1 HOUT1
      go_wp2_with fail
      refine (below_any hS HR2.out.rd (old - x) (by omega) (by omega)).mono ?_
      rintro e w3 ⟨⟨y, hy1, hy2, rfl⟩, hr3⟩
      obtain ⟨k1, k2⟩ := HX.out _ _ HR2.out hr3 HOUT2.out
      have HR3 : Hid _ := k1
      have HOUT3 : Hid _ := k2
      have hw2 : IntKind.i64.wrap (1 + y) = 1 + y := by rw [IntKind.wrap_i64]; omega
      have y0 : w3.cell? ⟨W.heap.size, 0, none⟩ = some (.int .i64 0) := cell_of_row w3 _ 0 _ _ _ k2
      have y1 : w3.cell? ⟨W.heap.size, 1, none⟩ = some (.int .i64 0) := cell_of_row w3 _ 1 _ _ _ k2
      have y2 : w3.cell? ⟨W.heap.size, 2, none⟩ = some (.string ⟨#[]⟩) := cell_of_row w3 _ 2 _ _ _ k2
      have z0 := frozen_of_row w3 _ 0 _ _ k2
      have z1 := frozen_of_row w3 _ 1 _ _ k2
      have z2 := frozen_of_row w3 _ 2 _ _ k2
      clear hr3 k1 k2 HR2 HOUT2
      go_wp2_with fail
      refine bodyPost_ret (results_cell_row rfl _ _ W.heap.size 43 #[.int .i64 x, .int .i64 (1 + y), .string ⟨#[]⟩] (0, 0) _ rfl (putP_row HOUT3.out ⟨x, 1 + y, ⟨#[]⟩⟩) Try.underlying43 rfl (by kernel_rfl)) rfl ⟨⟨⟨x, 1 + y, ⟨#[]⟩⟩, by show 0 ≤ 5; omega, rfl⟩, HR3.out.putP (Nat.le_refl _) HGL.out HW0.out ⟨x, 1 + y, ⟨#[]⟩⟩⟩
end Go.Proofs.Ytadimakdjndcdae
