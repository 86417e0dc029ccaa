/-
  Several texts of this seat as one: Off, DrwPc, DrwPcs.
-/
import Derived.Test.YtpeddaljgmkomaaPk26
import Derived.OwnWalk
import Derived.Test.YtpeddaljgmkomaaPk07
import Derived.Test.YtpeddaljgmkomaaPk03
import Derived.Laws.Rows
import Derived.Test.YtpeddaljgmkomaaPk10
import Derived.Laws.AppendOwnNone

/-!   The reader of drawn bytes: what 'near' and 'off' answer: some number. -/
namespace Go.Proofs.Ytpeddaljgmkomaa
open Go.RowKit

set_option maxRecDepth 100000 in
set_option maxHeartbeats 1000000 in
theorem near_any {w0 : World} {a : Option Addr} {len cap g : Nat} {W : World} (hS : Src w0 a len) (h : RD w0 a len cap g W) (lo hi : Int) (h1 : 0 ≤ lo) (h2 : lo ≤ hi) (h3 : hi ≤ 5000) :
    Calls Try.prog 91 #[.pointer (some ⟨g, 0, none⟩), .int .i64 lo, .int .i64 hi] W fun e w' => (∃ x : Int, 0 ≤ x ∧ x ≤ 10000 ∧ e = .returned (.int .i64 x)) ∧ Rd3 w0 a len cap g W w' := by
  have hlt : ¬ hi < lo := by omega
  go_enter Try.func91, Try.ntmps91
  go_wp2_with fail
  refine (below_any hS h 8 (by omega) (by omega)).mono ?_
  rintro e w1 ⟨⟨x, hx1, hx2, rfl⟩, hr⟩
  clear h
  by_cases h0 : x = 0
  · subst h0
    go_wp2_with fail
    go_ret
    exact ⟨⟨lo, h1, by omega, rfl⟩, hr⟩
  · by_cases h10 : x = 1
    · subst h10
      go_wp2_with fail
      go_ret
      exact ⟨⟨hi, by omega, by omega, rfl⟩, hr⟩
    · have hne0 : (x == 0) = false := beq_eq_false_iff_ne.2 h0
      have hne1 : (x == 1) = false := beq_eq_false_iff_ne.2 h10
      go_wp2_with fail
      refine (rword_any hS hr.rd).mono ?_
      rintro e w2 ⟨⟨y, hy1, hy2, rfl⟩, hr2⟩
      have hm1 := Int.emod_nonneg (y / 2) (by omega : hi - lo + 1 ≠ 0)
      have hm2 := Int.emod_lt_of_pos (y / 2) (by omega : 0 < hi - lo + 1)
      have hnz : ¬ hi - lo + 1 = 0 := by omega
      go_wp2_with fail
      go_ret
      exact ⟨⟨lo + y / 2 % (hi - lo + 1), by omega, by omega, rfl⟩, hr.trans hr2⟩
theorem four (lo hi : Int) (n : Nat) (h : n < 4) (h1 : 0 ≤ lo) (h2 : lo ≤ hi) (h3 : hi ≤ 5000) : ∃ v : Int, -9223372036854775808 ≤ v ∧ v ≤ 9223372036854775807 ∧
    (#[Value.int .i64 (lo - 1), .int .i64 (hi + 1), .int .i64 (-9223372036854775808), .int .i64 9223372036854775807] : Array Value)[n]? = some (.int .i64 v) := by
  match n, h with
  | 0, _ => exact ⟨_, by omega, by omega, rfl⟩
  | 1, _ => exact ⟨_, by omega, by omega, rfl⟩
  | 2, _ => exact ⟨_, by decide, by decide, rfl⟩
  | 3, _ => exact ⟨_, by decide, by decide, rfl⟩

set_option maxRecDepth 100000 in
set_option maxHeartbeats 1000000 in
theorem off_any {w0 : World} {a : Option Addr} {len cap g : Nat} {W : World} (hS : Src w0 a len) (h : RD w0 a len cap g W) (lo hi : Int) (h1 : 0 ≤ lo) (h2 : lo ≤ hi) (h3 : hi ≤ 5000) :
    Calls Try.prog 63 #[.pointer (some ⟨g, 0, none⟩), .int .i64 lo, .int .i64 hi] W fun e w' => (∃ x : Int, -9223372036854775808 ≤ x ∧ x ≤ 9223372036854775807 ∧ e = .returned (.int .i64 x)) ∧ Rd3 w0 a len cap g W w' := by
  go_enter Try.func63, Try.ntmps63
  go_wp2_with fail
  refine (once_any hS h 24 (by omega) (by omega)).mono ?_
  rintro e w1 ⟨⟨b, rfl⟩, hr⟩
  clear h
  cases b with
  | true =>
    have hne : w1.heap.size ≠ g := by have := hr.rd.lt; omega
    go_wp2_with fail
    refine (below_any hS (hr.rd.alloc _) 4 (by omega) (by omega)).mono ?_
    rintro e w2 ⟨⟨x, hx1, hx2, rfl⟩, hr2⟩
    obtain ⟨n, rfl⟩ := Int.eq_ofNat_of_zero_le hx1
    obtain ⟨v, hv1, hv2, hv⟩ := four lo hi n (by omega) h1 h2 h3
    have hc := six hr2.grown hne n _ hv
    have hr3 : Rd3 w0 a len cap g W w2 := (hr.alloc _).trans hr2
    clear hr hr2
    go_wp2_with fail
    go_ret
    exact ⟨⟨v, hv1, hv2, rfl⟩, hr3⟩
  | false =>
    go_wp2_with fail
    refine (near_any hS hr.rd lo hi h1 h2 h3).mono ?_
    rintro e w2 ⟨⟨x, hx1, hx2, rfl⟩, hr2⟩
    go_wp2_with fail
    go_ret
    exact ⟨⟨x, by omega, by omega, rfl⟩, hr.trans hr2⟩
end Go.Proofs.Ytpeddaljgmkomaa

/-!   Pieces that are drawn. -/
namespace Go.Proofs.Ytpeddaljgmkomaa
open Go.RowKit
set_option linter.unusedVariables false
set_option linter.unusedSimpArgs false
theorem row_ltP {w : World} {b : Nat} {o : Obj} (h : w.heap[b]? = some o) : b < w.heap.size := (Array.getElem?_eq_some_iff.1 h).1
theorem Rd3.setP {w0 : World} {a : Option Addr} {len cap g : Nat} {W w1 : World} (h : Rd3 w0 a len cap g W w1) {b : Nat} (hb : W.heap.size ≤ b) (hg : g < W.heap.size) (hw : w0.heap.size ≤ W.heap.size) (t : Nat) (v : Value) : Rd3 w0 a len cap g W (w1.setCell ⟨b, t, none⟩ v) := by
  obtain ⟨⟨h1, h2, p, h3, h4⟩, hg1⟩ := h
  have hne : g ≠ b := by omega
  refine ⟨⟨?_, h2, p, h3, ?_⟩, ?_⟩
  · exact h1.setCell (p := ⟨b, t, none⟩) (by show w0.heap.size ≤ b; omega) v
  · rw [heap_setCell_other _ _ _ _ hne]; exact h4
  · exact ⟨hg1.os, hg1.tape, hg1.output, by simpa using hg1.size, fun k hk hne => by rw [heap_setCell_other _ _ _ _ (by show k ≠ b; omega)]; exact hg1.block k hk hne⟩
/-- a piece laid at block b -/
def putP (w : World) (b : Nat) (p : PcI) : World := ((w.setCell ⟨b, 0, none⟩ (.int .i64 p.f)).setCell ⟨b, 1, none⟩ (.int .i64 p.l)).setCell ⟨b, 2, none⟩ (.string p.d)
theorem putP_row {w : World} {b : Nat} {x0 x1 x2 : Value} {t : TypeId} (h : w.heap[b]? = some (.cells #[x0, x1, x2] t (0, 0))) (p : PcI) : (putP w b p).heap[b]? = some (.cells #[.int .i64 p.f, .int .i64 p.l, .string p.d] t (0, 0)) :=
  heap_setCell_same _ _ _ _ _ _ (heap_setCell_same _ _ _ _ _ _ (heap_setCell_same _ _ _ _ _ _ h))
theorem Rd3.putP {w0 : World} {a : Option Addr} {len cap g : Nat} {W w1 : World} (h : Rd3 w0 a len cap g W w1) {b : Nat} (hb : W.heap.size ≤ b) (hg : g < W.heap.size) (hw : w0.heap.size ≤ W.heap.size) (p : PcI) : Rd3 w0 a len cap g W (putP w1 b p) :=
  ((h.setP hb hg hw 0 _).setP hb hg hw 1 _).setP hb hg hw 2 _
theorem x_size (l : List UInt8) (h : (l.length : Int) ≤ 4) : ((⟨#[120]⟩ : ByteArray) ++ ⟨l.toArray⟩).size ≤ 5 := by
  rw [ByteArray.size_append]
  have h2 : (⟨l.toArray⟩ : ByteArray).size = l.length := by simp [ByteArray.size]
  rw [h2]
  show 1 + l.length ≤ 5
  omega
set_option maxRecDepth 100000 in
set_option maxHeartbeats 2000000 in
theorem piece_drawn {w0 : World} {a : Option Addr} {len cap g : Nat} {W : World} (hS : Src w0 a len) (h : RD w0 a len cap g W) (old : Int) (h0 : 0 ≤ old) (h1 : old ≤ 4000) :
    Calls Try.prog 103 #[.pointer (some ⟨g, 0, none⟩), .int .i64 old] W fun e w' => (∃ p : PcI, p.d.size ≤ 5 ∧ e = .returned (pcV p.f p.l p.d)) ∧ Rd3 w0 a len cap g W w' := by
  have HGL : Hid (g < W.heap.size) := h.lt
  have HW0 : Hid (w0.heap.size ≤ W.heap.size) := h.below.size
  have HR0 : Hid (Rd3 w0 a len cap g W (W.alloc (.cells #[.int .i64 0, .int .i64 0, .string ⟨#[]⟩] 89))) := (Rd3.refl h).alloc _
  have HOUT0 : Hid ((W.alloc (.cells #[.int .i64 0, .int .i64 0, .string ⟨#[]⟩] 89)).heap[W.heap.size]? = some (.cells #[.int .i64 0, .int .i64 0, .string ⟨#[]⟩] 89 (0, 0))) := heap_alloc_new W _
  have hng : some W.heap.size ≠ some g := by intro c; injection c with c; have := HGL.out; omega
  have HNG : Hid _ := hng
  clear hng h
  unfold pcV
  have HX : Hid (∀ w1 w2 : World, Rd3 w0 a len cap g W w1 → Rd3 w0 a len cap g w1 w2 → w1.heap[W.heap.size]? = some (.cells #[.int .i64 0, .int .i64 0, .string ⟨#[]⟩] 89 (0, 0)) → Rd3 w0 a len cap g W w2 ∧ w2.heap[W.heap.size]? = some (.cells #[.int .i64 0, .int .i64 0, .string ⟨#[]⟩] 89 (0, 0))) := fun w1 w2 k1 k2 k3 => ⟨k1.trans k2, (k2.grown.block _ (row_ltP k3) HNG.out).trans k3⟩
  by_cases hz : old < 1
  · go_enter Try.func103, Try.ntmps103
    go_wp2_with fail
    generalize W.alloc (.cells #[.int .i64 0, .int .i64 0, .string ⟨#[]⟩] 89) = W1 at HR0 HOUT0 ⊢
    refine (bytes_any hS HR0.out.rd 4 (by omega) (by omega)).mono ?_
    rintro e w2 ⟨⟨l, hl, rfl⟩, hr2⟩
    obtain ⟨k1, k2⟩ := HX.out _ _ HR0.out hr2 HOUT0.out
    have HR2 : Hid _ := k1
    have HOUT2 : Hid _ := k2
    have hsz := x_size l hl
    generalize (⟨l.toArray⟩ : ByteArray) = d0 at hsz ⊢
    have hmx : ¬ 9223372036854775807 < 1 + d0.size := by
        rw [ByteArray.size_append] at hsz
        have h5 : 1 + d0.size ≤ 5 := hsz
        omega
    have y0 : w2.cell? ⟨W.heap.size, 0, none⟩ = some (.int .i64 0) := cell_of_row w2 _ 0 _ _ _ k2
    have y1 : w2.cell? ⟨W.heap.size, 1, none⟩ = some (.int .i64 0) := cell_of_row w2 _ 1 _ _ _ k2
    have y2 : w2.cell? ⟨W.heap.size, 2, none⟩ = some (.string ⟨#[]⟩) := cell_of_row w2 _ 2 _ _ _ k2
    have z0 := frozen_of_row w2 _ 0 _ _ k2
    have z1 := frozen_of_row w2 _ 1 _ _ k2
    have z2 := frozen_of_row w2 _ 2 _ _ k2
    clear hr2 k1 k2 HR0 HOUT0 hl
    go_wp2_with fail
    refine bodyPost_ret (results_cell_row rfl _ _ W.heap.size 89 #[.int .i64 0, .int .i64 0, .string ((⟨#[120]⟩ : ByteArray) ++ d0)] (0, 0) _ rfl (putP_row HOUT2.out ⟨0, 0, (⟨#[120]⟩ : ByteArray) ++ d0⟩) Try.underlying89 rfl (by kernel_rfl)) rfl ⟨⟨⟨0, 0, (⟨#[120]⟩ : ByteArray) ++ d0⟩, hsz, rfl⟩, HR2.out.putP (Nat.le_refl _) HGL.out HW0.out ⟨0, 0, (⟨#[120]⟩ : ByteArray) ++ d0⟩⟩
  · go_enter Try.func103, Try.ntmps103
    go_wp2_with fail
    generalize W.alloc (.cells #[.int .i64 0, .int .i64 0, .string ⟨#[]⟩] 89) = W1 at HR0 HOUT0 ⊢
    refine (once_any hS HR0.out.rd 3 (by omega) (by omega)).mono ?_
    rintro e w1 ⟨⟨x, rfl⟩, hr1⟩
    obtain ⟨k1, k2⟩ := HX.out _ _ HR0.out hr1 HOUT0.out
    have HR1 : Hid _ := k1
    have HOUT1 : Hid _ := k2
    clear hr1 k1 k2 HR0 HOUT0
    cases x with
    | true =>
      go_wp2_with fail
      refine (bytes_any hS HR1.out.rd 4 (by omega) (by omega)).mono ?_
      rintro e w2 ⟨⟨l, hl, rfl⟩, hr2⟩
      obtain ⟨k1, k2⟩ := HX.out _ _ HR1.out hr2 HOUT1.out
      have HR2 : Hid _ := k1
      have HOUT2 : Hid _ := k2
      have hsz := x_size l hl
      generalize (⟨l.toArray⟩ : ByteArray) = d0 at hsz ⊢
      have hmx : ¬ 9223372036854775807 < 1 + d0.size := by
        rw [ByteArray.size_append] at hsz
        have h5 : 1 + d0.size ≤ 5 := hsz
        omega
      have y0 : w2.cell? ⟨W.heap.size, 0, none⟩ = some (.int .i64 0) := cell_of_row w2 _ 0 _ _ _ k2
      have y1 : w2.cell? ⟨W.heap.size, 1, none⟩ = some (.int .i64 0) := cell_of_row w2 _ 1 _ _ _ k2
      have y2 : w2.cell? ⟨W.heap.size, 2, none⟩ = some (.string ⟨#[]⟩) := cell_of_row w2 _ 2 _ _ _ k2
      have z0 := frozen_of_row w2 _ 0 _ _ k2
      have z1 := frozen_of_row w2 _ 1 _ _ k2
      have z2 := frozen_of_row w2 _ 2 _ _ k2
      clear hr2 k1 k2 HR1 HOUT1 hl
      go_wp2_with fail
      refine bodyPost_ret (results_cell_row rfl _ _ W.heap.size 89 #[.int .i64 0, .int .i64 0, .string ((⟨#[120]⟩ : ByteArray) ++ d0)] (0, 0) _ rfl (putP_row HOUT2.out ⟨0, 0, (⟨#[120]⟩ : ByteArray) ++ d0⟩) Try.underlying89 rfl (by kernel_rfl)) rfl ⟨⟨⟨0, 0, (⟨#[120]⟩ : ByteArray) ++ d0⟩, hsz, rfl⟩, HR2.out.putP (Nat.le_refl _) HGL.out HW0.out ⟨0, 0, (⟨#[120]⟩ : ByteArray) ++ d0⟩⟩
    | false =>
      go_wp2_with fail
      refine (below_any hS HR1.out.rd old (by omega) (by omega)).mono ?_
      rintro e w2 ⟨⟨x, hx1, hx2, rfl⟩, hr2⟩
      obtain ⟨k1, k2⟩ := HX.out _ _ HR1.out hr2 HOUT1.out
      have HR2 : Hid _ := k1
      have HOUT2 : Hid _ := k2
      have hw1 : IntKind.i64.wrap (old - x) = old - x := by rw [IntKind.wrap_i64]; omega
      clear hr2 k1 k2 HR1 HOUT1
      go_wp2_with fail
      refine (below_any hS HR2.out.rd (old - x) (by omega) (by omega)).mono ?_
      rintro e w3 ⟨⟨y, hy1, hy2, rfl⟩, hr3⟩
      obtain ⟨k1, k2⟩ := HX.out _ _ HR2.out hr3 HOUT2.out
      have HR3 : Hid _ := k1
      have HOUT3 : Hid _ := k2
      have hw2 : IntKind.i64.wrap (1 + y) = 1 + y := by rw [IntKind.wrap_i64]; omega
      have y0 : w3.cell? ⟨W.heap.size, 0, none⟩ = some (.int .i64 0) := cell_of_row w3 _ 0 _ _ _ k2
      have y1 : w3.cell? ⟨W.heap.size, 1, none⟩ = some (.int .i64 0) := cell_of_row w3 _ 1 _ _ _ k2
      have y2 : w3.cell? ⟨W.heap.size, 2, none⟩ = some (.string ⟨#[]⟩) := cell_of_row w3 _ 2 _ _ _ k2
      have z0 := frozen_of_row w3 _ 0 _ _ k2
      have z1 := frozen_of_row w3 _ 1 _ _ k2
      have z2 := frozen_of_row w3 _ 2 _ _ k2
      clear hr3 k1 k2 HR2 HOUT2
      go_wp2_with fail
      refine bodyPost_ret (results_cell_row rfl _ _ W.heap.size 89 #[.int .i64 x, .int .i64 (1 + y), .string ⟨#[]⟩] (0, 0) _ rfl (putP_row HOUT3.out ⟨x, 1 + y, ⟨#[]⟩⟩) Try.underlying89 rfl (by kernel_rfl)) rfl ⟨⟨⟨x, 1 + y, ⟨#[]⟩⟩, by show 0 ≤ 5; omega, rfl⟩, HR3.out.putP (Nat.le_refl _) HGL.out HW0.out ⟨x, 1 + y, ⟨#[]⟩⟩⟩
end Go.Proofs.Ytpeddaljgmkomaa

/-!   A list of pieces that is drawn, and what a law of patches is drawn of. -/
namespace Go.Proofs.Ytpeddaljgmkomaa
open Go.RowKit
set_option linter.unusedVariables false
set_option linter.unusedSimpArgs false
/-- a drawn list, and the reader -/
structure DP (w0 : World) (a : Option Addr) (len cap g : Nat) (W : World) (v : Value) (L : List PcI) : Prop where
  rd : RD w0 a len cap g W
  own : W.ownsRow w0.heap.size 89 3 v L.length (pcC L)
  sz : ∀ p ∈ L, p.d.size ≤ 5
theorem DP.apart {w0 : World} {a : Option Addr} {len cap g : Nat} {W : World} {v : Value} {L : List PcI} (h : DP w0 a len cap g W v L) : v.ownBlock ≠ some g := by
  obtain ⟨_, _, p, _, hh⟩ := h.rd
  obtain ⟨hl, ⟨h0, hn⟩ | ⟨k, c, cur, h1, h2, h3, _⟩⟩ := h.own
  · subst h0; intro c; cases c
  · subst h1
    intro c
    have c : some k = some g := c
    injection c with c
    subst c
    rw [h3] at hh
    injection hh with hh
    injection hh with _ hh _
    exact absurd hh (by decide)
theorem own3_keep {w w' : World} {B n : Nat} {e : TypeId} {v : Value} {xs : List Value} (h : w.ownsRow B e 3 v n xs) (hb : ∀ k, v.ownBlock = some k → w'.heap[k]? = w.heap[k]?) : w'.ownsRow B e 3 v n xs := by
  obtain ⟨h0, h1 | ⟨g, cap, cur, h1, h2, h3, h4, h5, h6, h7⟩⟩ := h
  · exact ⟨h0, Or.inl h1⟩
  · exact ⟨h0, Or.inr ⟨g, cap, cur, h1, h2, (hb g (by rw [h1]; rfl)).trans h3, h4, h5, h6, h7⟩⟩
theorem DP.rd3 {w0 : World} {a : Option Addr} {len cap g : Nat} {W W' : World} {v : Value} {L : List PcI} (h : DP w0 a len cap g W v L) (hr : Rd3 w0 a len cap g W W') : DP w0 a len cap g W' v L :=
  ⟨hr.rd, own3_keep h.own fun k hk => hr.grown.block k (h.own.lt k hk).2 (fun c => h.apart (hk.trans c)), h.sz⟩
theorem DP.alloc {w0 : World} {a : Option Addr} {len cap g : Nat} {W : World} {v : Value} {L : List PcI} (h : DP w0 a len cap g W v L) (o : Obj) : DP w0 a len cap g (W.alloc o) v L := ⟨h.rd.alloc o, h.own.alloc o, h.sz⟩
theorem RD.grownP {w0 : World} {a : Option Addr} {len cap g : Nat} {W W' : World} {row : Option Nat} (h : RD w0 a len cap g W) (hg : W.grownBy W' row) (hne : row ≠ some g) (hr : ∀ k, row = some k → w0.heap.size ≤ k) : RD w0 a len cap g W' := by
  have hl := h.lt
  obtain ⟨h1, h2, p, hp, hh⟩ := h
  exact ⟨h1.grown hg h1.size hr, h2, p, hp, by rw [hg.block g hl (fun c => hne c.symm)]; exact hh⟩
theorem DP.grown {w0 : World} {a : Option Addr} {len cap g : Nat} {W W' : World} {v v' : Value} {L : List PcI} {p : PcI} (h : DP w0 a len cap g W v L) (hp : p.d.size ≤ 5) (hg : W.grownBy W' v.ownBlock) (ho : W'.ownsRow w0.heap.size 89 3 v' (L ++ [p]).length (pcC (L ++ [p]))) : DP w0 a len cap g W' v' (L ++ [p]) :=
  ⟨h.rd.grownP hg h.apart (fun k hk => (h.own.lt k hk).1), ho, fun x hx => by
    rcases List.mem_append.1 hx with h1 | h1
    · exact h.sz x h1
    · obtain rfl : x = p := by simpa using h1
      exact hp⟩
set_option maxRecDepth 100000 in
set_option maxHeartbeats 2000000 in
theorem pieces_drawn {w0 : World} {a : Option Addr} {len cap g : Nat} {W : World} (hS : Src w0 a len) (h : RD w0 a len cap g W) (old : Int) (h0 : 0 ≤ old) (h1 : old ≤ 4000) :
    Calls Try.prog 89 #[.pointer (some ⟨g, 0, none⟩), .int .i64 old] W fun e w' => ∃ (v : Value) (L : List PcI), L.length ≤ 7 ∧ e = .returned v ∧ DP w0 a len cap g w' v L := by
  obtain ⟨i0, hi, hz0, hz1, hz2⟩ := info_parts Try.infP
  have HPC : Hid (∀ w, RD w0 a len cap g w → Calls Try.prog 103 #[.pointer (some ⟨g, 0, none⟩), .int .i64 old] w fun e w' => (∃ p : PcI, p.d.size ≤ 5 ∧ e = .returned (.agg #[.int .i64 p.f, .int .i64 p.l, .string p.d])) ∧ Rd3 w0 a len cap g w w') := fun w h => piece_drawn hS h old h0 h1
  have hown0 := World.ownsRow_made (e := 89) (size := 3) W #[] 0 h.below.size (by unfold maxLen; omega) rfl
  have HD0 : Hid (DP w0 a len cap g (W.alloc (.cells #[] 89)) (.slice (some ⟨W.heap.size, 0, none⟩) 0 0) []) := ⟨h.alloc _, hown0, fun p hp => by cases hp⟩
  clear hown0
  go_enter Try.func89, Try.ntmps89
  go_wp2_with fail
  refine (below_any hS HD0.out.rd 6 (by omega) (by omega)).mono ?_
  rintro e w1 ⟨⟨x, hx1, hx2, rfl⟩, hr1⟩
  have HD1 := hid (HD0.out.rd3 hr1)
  clear hr1 HD0 h
  go_wp2_with fail
  go_loopw [5, 6] (fun v t wr => ∃ (L : List PcI) (m : Nat), L.length + m ≤ 6 ∧ t = .int .i64 (m : Int) ∧ Hid (DP w0 a len cap g wr v L)) (fun _ t _ => (intN t).toNat)
  case atStart => exact ⟨[], x.toNat, by simp; omega, by rw [Int.toNat_of_nonneg hx1], HD1⟩
  case round =>
    rename_i v0 t0
    clear HD1 hx1 hx2
    obtain ⟨L, m, hm, rfl, HD⟩ := hrel
    by_cases hp : 0 < m
    · have hpI : (0 : Int) < (m : Int) := by omega
      have hwm : IntKind.i64.wrap ((m : Int) - 1) = ((m - 1 : Nat) : Int) := by rw [IntKind.wrap_i64]; omega
      go_wp2_with fail
      refine (HPC.out _ HD.out.rd).mono ?_
      rintro e w2 ⟨⟨p, hps, rfl⟩, hr2⟩
      have HD2 := hid ((HD.out.rd3 hr2).alloc (.cells #[.int .i64 p.f, .int .i64 p.l, .string p.d] 89))
      have HTS := hid (own3_made1 w2 0 p (Nat.zero_le _))
      clear hr2 HD
      go_wp2_with (at_builtin; (refine wpList_append_pcs rfl _ _ 52 rfl w0.heap.size i0 _ 32 Try.underlying52 hi hz0 hz1 hz2 rfl _ (.slice (some ⟨w2.heap.size, 0, none⟩) 1 1) L [p] 0 rfl HD2.out.own rfl HTS.out ?c3 ?c4 ?c5 ?_))
      case c3 => show L.length + 1 ≤ _; unfold maxLen; omega
      case c4 => show (L.length + 1) * 32 ≤ _; omega
      case c5 => exact HD2.out.rd.below.size
      intro v' w6 ho6 hg6
      have HD6 := hid (HD2.out.grown hps hg6 (by rw [List.length_append]; exact ho6))
      clear ho6 hg6 HD2 HTS
      go_wp2_with fail
      go_roundw
      case rel => exact ⟨L ++ [p], m - 1, by simp; omega, rfl, HD6⟩
      case measure => simp [intN]; omega
    · obtain rfl : m = 0 := by omega
      have hL6 : L.length ≤ 6 := by omega
      go_wp2_with fail
      refine (once_any hS HD.out.rd 20 (by omega) (by omega)).mono ?_
      rintro e w2 ⟨⟨x, rfl⟩, hr2⟩
      have HD2 := hid (HD.out.rd3 hr2)
      clear hr2 HD
      cases x with
      | false =>
        go_wp2_with fail
        go_ret
        exact ⟨_, L, by omega, rfl, HD2.out⟩
      | true =>
        go_wp2_with fail
        refine (off_any hS HD2.out.rd 0 old (by omega) (by omega) (by omega)).mono ?_
        rintro e w3 ⟨⟨x1, _, _, rfl⟩, hr3⟩
        have HD3 := hid (HD2.out.rd3 hr3)
        clear hr3 HD2
        go_wp2_with fail
        refine (off_any hS HD3.out.rd 0 old (by omega) (by omega) (by omega)).mono ?_
        rintro e w4 ⟨⟨x2, _, _, rfl⟩, hr4⟩
        have HD4 := hid (HD3.out.rd3 hr4)
        clear hr4 HD3
        go_wp2_with fail
        refine (bytes_any hS HD4.out.rd 1 (by omega) (by omega)).mono ?_
        rintro e w5 ⟨⟨l, hl, rfl⟩, hr5⟩
        have hsz : (⟨l.toArray⟩ : ByteArray).size ≤ 5 := by
          have : (⟨l.toArray⟩ : ByteArray).size = l.length := by simp [ByteArray.size]
          omega
        generalize (⟨l.toArray⟩ : ByteArray) = d at hsz ⊢
        have HD5 := hid ((HD4.out.rd3 hr5).alloc (.cells #[.int .i64 x1, .int .i64 x2, .string d] 89))
        have HTS := hid (own3_made1 w5 0 ⟨x1, x2, d⟩ (Nat.zero_le _))
        clear hr5 HD4
        go_wp2_with (at_builtin; (refine wpList_append_pcs rfl _ _ 52 rfl w0.heap.size i0 _ 32 Try.underlying52 hi hz0 hz1 hz2 rfl _ (.slice (some ⟨w5.heap.size, 0, none⟩) 1 1) L [⟨x1, x2, d⟩] 0 rfl HD5.out.own rfl HTS.out ?c3 ?c4 ?c5 ?_))
        case c3 => show L.length + 1 ≤ _; unfold maxLen; omega
        case c4 => show (L.length + 1) * 32 ≤ _; omega
        case c5 => exact HD5.out.rd.below.size
        intro v' w6 ho6 hg6
        have HD6 := hid (HD5.out.grown (p := ⟨x1, x2, d⟩) hsz hg6 (by rw [List.length_append]; exact ho6))
        clear ho6 hg6 HD5 HTS
        go_wp2_with fail
        go_ret
        exact ⟨v', L ++ [⟨x1, x2, d⟩], by simp; omega, rfl, HD6.out⟩
end Go.Proofs.Ytpeddaljgmkomaa
