/-
  A shape that is drawn, and what the laws of chunks are drawn of.
-/
import Derived.Test.YtneeledgokccgadOff
import Derived.Test.YtneeledgokccgadShp
import Derived.Test.YtneeledgokccgadHeld
import Derived.Laws.Rows
namespace Go.Proofs.Ytneeledgokccgad
open Go.RowKit
set_option linter.unusedVariables false
set_option linter.unusedSimpArgs false
theorem results_tmp_cell {P : Program} {fn : Func} {t p : Tmp} {ty : TypeId} (h : fn.results = #[.tmp t, .cell p ty]) (tmps : Array Value) (w : World) (g : Nat) (t2 : TypeId) (cs : Array Value) (fr : Nat × Nat) (d : TypeDesc)
    (hp : tmps.getD p undef = .pointer (some ⟨g, 0, none⟩)) (hg : w.heap[g]? = some (.cells cs t2 fr))
    (hu : P.underlying ty = some d) (hd : (match d with | .struct _ | .array _ _ => true | _ => false) = true) (hi : (P.info? ty).map (·.size) = some cs.size) :
    (results fn tmps).run P w = .ok (.tuple #[tmps.getD t undef, .agg cs]) w := by
  have hp' : tmps[p]?.getD undef = .pointer (some ⟨g, 0, none⟩) := by simpa using hp
  simp [results, h, hp', asAddr, run_loadVar_row w g t2 ty cs fr d hg hu hd hi]
theorem Rd3.setc {w0 : World} {a : Option Addr} {len cap g : Nat} {W w1 : World} (h : Rd3 w0 a len cap g W w1) {b : Nat} (hb : W.heap.size ≤ b) (hg : g < W.heap.size) (hw : w0.heap.size ≤ W.heap.size) (t : Nat) (v : Value) : Rd3 w0 a len cap g W (w1.setCell ⟨b, t, none⟩ v) := by
  obtain ⟨⟨h1, h2, p, h3, h4⟩, hg1⟩ := h
  have hne : g ≠ b := by omega
  refine ⟨⟨?_, h2, p, h3, ?_⟩, ?_⟩
  · exact h1.setCell (p := ⟨b, t, none⟩) (by show w0.heap.size ≤ b; omega) v
  · rw [heap_setCell_other _ _ _ _ hne]; exact h4
  · exact ⟨hg1.os, hg1.tape, hg1.output, by simpa using hg1.size, fun k hk hne => by rw [heap_setCell_other _ _ _ _ (by show k ≠ b; omega)]; exact hg1.block k hk hne⟩
theorem Rd3.drewN {w0 : World} {a : Option Addr} {len cap g : Nat} {W w1 : World} (h : Rd3 w0 a len cap g W w1) : Rd3 w0 a len cap g W w1.drew := by
  obtain ⟨⟨h1, h2, p, h3, h4⟩, hg1⟩ := h
  exact ⟨⟨h1.drew, h2, p, h3, h4⟩, ⟨hg1.os, hg1.tape, hg1.output, hg1.size, hg1.block⟩⟩
theorem row_ltS {w : World} {b : Nat} {o : Obj} (h : w.heap[b]? = some o) : b < w.heap.size := (Array.getElem?_eq_some_iff.1 h).1
/-- three numbers laid at block b -/
def putS (w : World) (b : Nat) (x y z : Int) : World := ((w.setCell ⟨b, 0, none⟩ (.int .i64 x)).setCell ⟨b, 1, none⟩ (.int .i64 y)).setCell ⟨b, 2, none⟩ (.int .i64 z)
theorem putS_row {w : World} {b : Nat} {x0 x1 x2 : Value} {t : TypeId} (h : w.heap[b]? = some (.cells #[x0, x1, x2] t (0, 0))) (x y z : Int) : (putS w b x y z).heap[b]? = some (.cells #[.int .i64 x, .int .i64 y, .int .i64 z] t (0, 0)) :=
  heap_setCell_same _ _ _ _ _ _ (heap_setCell_same _ _ _ _ _ _ (heap_setCell_same _ _ _ _ _ _ h))
theorem putS_other {w : World} {b k : Nat} (h : k ≠ b) (x y z : Int) : (putS w b x y z).heap[k]? = w.heap[k]? := by
  unfold putS; rw [heap_setCell_other _ _ _ _ h, heap_setCell_other _ _ _ _ h, heap_setCell_other _ _ _ _ h]
theorem Rd3.putS {w0 : World} {a : Option Addr} {len cap g : Nat} {W w1 : World} (h : Rd3 w0 a len cap g W w1) {b : Nat} (hb : W.heap.size ≤ b) (hg : g < W.heap.size) (hw : w0.heap.size ≤ W.heap.size) (x y z : Int) : Rd3 w0 a len cap g W (putS w1 b x y z) :=
  ((h.setc hb hg hw 0 _).setc hb hg hw 1 _).setc hb hg hw 2 _
set_option maxRecDepth 100000 in
set_option maxHeartbeats 2000000 in
theorem shape_drawn {w0 : World} {a : Option Addr} {len cap g : Nat} {W : World} (hS : Src w0 a len) (h : RD w0 a len cap g W) :
    Calls Try.prog 49 #[.pointer (some ⟨g, 0, none⟩)] W fun e w' => (∃ l b m : Int, e = .returned (shpV l b m)) ∧ Rd3 w0 a len cap g W w' := by
  have HGL : Hid (g < W.heap.size) := h.lt
  have HW0 : Hid (w0.heap.size ≤ W.heap.size) := h.below.size
  have HR0 : Hid (Rd3 w0 a len cap g W (W.alloc (.cells #[.int .i64 0, .int .i64 0, .int .i64 0] 34))) := (Rd3.refl h).alloc _
  have HOUT0 : Hid ((W.alloc (.cells #[.int .i64 0, .int .i64 0, .int .i64 0] 34)).heap[W.heap.size]? = some (.cells #[.int .i64 0, .int .i64 0, .int .i64 0] 34 (0, 0))) := heap_alloc_new W _
  have hng : some W.heap.size ≠ some g := by intro c; injection c with c; have := HGL.out; omega
  have HNG : Hid _ := hng
  clear hng h
  unfold shpV
  go_enter Try.func49, Try.ntmps49
  go_wp2_with fail
  generalize W.alloc (.cells #[.int .i64 0, .int .i64 0, .int .i64 0] 34) = W1 at HR0 HOUT0 ⊢
  refine (below_any hS HR0.out.rd 6 (by omega) (by omega)).mono ?_
  rintro e w1 ⟨⟨x, hx1, hx2, rfl⟩, hr1⟩
  have HR1 : Hid (Rd3 w0 a len cap g W w1) := HR0.out.trans hr1
  have HOUT1 : Hid (w1.heap[W.heap.size]? = some (.cells #[.int .i64 0, .int .i64 0, .int .i64 0] 34 (0, 0))) := (hr1.grown.block _ (row_ltS HOUT0.out) HNG.out).trans HOUT0.out
  have hwx : IntKind.i64.wrap (1 + x) = 1 + x := by rw [IntKind.wrap_i64]; omega
  clear hr1 HR0 HOUT0
  go_wp2_with fail
  refine (below_any hS HR1.out.rd 4 (by omega) (by omega)).mono ?_
  rintro e w2 ⟨⟨y, hy1, hy2, rfl⟩, hr2⟩
  have HR2 : Hid (Rd3 w0 a len cap g W w2) := HR1.out.trans hr2
  have HOUT2 : Hid (w2.heap[W.heap.size]? = some (.cells #[.int .i64 0, .int .i64 0, .int .i64 0] 34 (0, 0))) := (hr2.grown.block _ (row_ltS HOUT1.out) HNG.out).trans HOUT1.out
  have hwy : IntKind.i64.wrap (1 + y) = 1 + y := by rw [IntKind.wrap_i64]; omega
  clear hr2 HR1 HOUT1
  have hXb : 0 ≤ 1 + x ∧ 1 + x ≤ 100 := by omega
  go_wp2_with fail
  generalize 1 + x = X at hXb ⊢
  generalize 1 + y = Y at ⊢
  obtain ⟨b, hb⟩ : ∃ b, b = w2.heap.size := ⟨_, rfl⟩
  obtain ⟨W3, hW3⟩ : ∃ W3, W3 = w2.alloc (.cells #[.int .i64 X, .int .i64 Y, .int .i64 0] 34) := ⟨_, rfl⟩
  have HR3 : Hid (Rd3 w0 a len cap g W W3) := by rw [hW3]; exact HR2.out.alloc _
  have HROW3 : Hid (W3.heap[b]? = some (.cells #[.int .i64 X, .int .i64 Y, .int .i64 0] 34 (0, 0))) := by rw [hW3, hb]; exact heap_alloc_new _ _
  have HOUT3 : Hid (W3.heap[W.heap.size]? = some (.cells #[.int .i64 0, .int .i64 0, .int .i64 0] 34 (0, 0))) := by rw [hW3]; exact (Below.heap_alloc _ _ _ (row_ltS HOUT2.out)).trans HOUT2.out
  have HB3 : Hid (b < W3.heap.size) := row_ltS HROW3.out
  have HBW : Hid (W.heap.size ≤ b) := by show _ ≤ _; rw [hb]; have := row_ltS HOUT2.out; omega
  have HNE : Hid (W.heap.size ≠ b) := by have h1 := row_ltS HOUT2.out; show _ ≠ _; omega
  rw [← hW3, ← hb]
  clear hW3 hb HR2 HOUT2 hwx hwy hx1 hx2 hy1 hy2
  obtain ⟨S, hSS⟩ : ∃ S : World → Prop, S = fun w' => w'.cell? ⟨b, 0, none⟩ = some (.int .i64 X) := ⟨_, rfl⟩
  have hSd : S W3.drew := by rw [hSS]; exact cell_of_row W3 b 0 _ _ _ HROW3.out
  have HXS : Hid (∀ w', S w' → w'.cell? ⟨b, 0, none⟩ = some (.int .i64 X)) := fun w' h => by rw [hSS] at h; exact h
  have HS : Hid (S = fun w' => w'.cell? ⟨b, 0, none⟩ = some (.int .i64 X)) := hSS
  clear hSS
  refine wp_region_held (S := S) (by kernel_rfl) ?_
  change wpAnyH _ _ _ _ _ _ _ _ (World.drew _)
  refine wpAnyH_take (i := 0) (v := .pointer (some ⟨b, 0, none⟩)) rfl (by kernel_rfl) (by kernel_rfl) (by kernel_rfl) (fun _ _ _ h => h) (Or.inl ⟨by rfl, by intro w' hS'; go_simp <;> (first | omega | (rw [IntKind.wrap_i64]; omega) | (rw [IntKind.wrap_u64]; omega) | (rw [IntKind.wrap_u32]; omega) | (rw [Int.tmod_eq_emod_of_nonneg (by omega)]))⟩) hSd ?_
  (try simp only [List.getElem_toArray, List.getElem_cons_succ, List.getElem_cons_zero, Act.put, List.setIfInBounds_toArray, List.set_cons_zero, List.set_cons_succ])
  refine wpAnyH_take (i := 1) (v := .int .i64 X) rfl (by kernel_rfl) (by kernel_rfl) (by kernel_rfl) (fun _ _ _ h => h) (Or.inl ⟨by rfl, by intro w' hS'; have hxx := HXS.out w' hS'; go_simp <;> (first | omega | (rw [IntKind.wrap_i64]; omega) | (rw [IntKind.wrap_u64]; omega) | (rw [IntKind.wrap_u32]; omega) | (rw [Int.tmod_eq_emod_of_nonneg (by omega)]))⟩) hSd ?_
  (try simp only [List.getElem_toArray, List.getElem_cons_succ, List.getElem_cons_zero, Act.put, List.setIfInBounds_toArray, List.set_cons_zero, List.set_cons_succ])
  refine wpAnyH_take (i := 2) (v := .pointer (some ⟨g, 0, none⟩)) rfl (by kernel_rfl) (by kernel_rfl) (by kernel_rfl) (fun _ _ _ h => h) (Or.inl ⟨by rfl, by intro w' hS'; go_simp <;> (first | omega | (rw [IntKind.wrap_i64]; omega) | (rw [IntKind.wrap_u64]; omega) | (rw [IntKind.wrap_u32]; omega) | (rw [Int.tmod_eq_emod_of_nonneg (by omega)]))⟩) hSd ?_
  (try simp only [List.getElem_toArray, List.getElem_cons_succ, List.getElem_cons_zero, Act.put, List.setIfInBounds_toArray, List.set_cons_zero, List.set_cons_succ])
  refine held_stepS (i := 3) (by kernel_rfl) rfl (by rfl) ?_
  go_simp
  refine (below_any hS HR3.out.drew.rd 30 (by omega) (by omega)).mono ?_
  rintro e w4 ⟨⟨z, hz1, hz2, rfl⟩, hr4⟩
  have hrow4 : w4.heap[b]? = some (.cells #[.int .i64 X, .int .i64 Y, .int .i64 0] 34 (0, 0)) := (hr4.grown.block b HB3.out (by intro c; injection c with c; have := HGL.out; have := HBW.out; omega)).trans HROW3.out
  have hS4 : S w4 := by rw [HS.out]; exact cell_of_row w4 b 0 _ _ _ hrow4
  have HROW4 : Hid _ := hrow4
  have HR4 : Hid (Rd3 w0 a len cap g W w4) := HR3.out.drew.trans hr4
  have HOUT4 : Hid (w4.heap[W.heap.size]? = some (.cells #[.int .i64 0, .int .i64 0, .int .i64 0] 34 (0, 0))) := (hr4.grown.block _ (row_ltS HOUT3.out) HNG.out).trans HOUT3.out
  have HB4 : Hid (b < w4.heap.size) := Nat.lt_of_lt_of_le HB3.out hr4.grown.size
  have hwz : IntKind.i64.wrap (X + z) = X + z := by rw [IntKind.wrap_i64]; omega
  have y2 : w4.cell? ⟨b, 2, none⟩ = some (.int .i64 0) := cell_of_row w4 b 2 _ _ _ hrow4
  have z2 := frozen_of_row w4 b 2 _ _ hrow4
  clear hrow4 hr4 HR3 HROW3 HB3 HOUT3
  refine ⟨hS4, ?_⟩
  (try simp only [List.getElem_toArray, List.getElem_cons_succ, List.getElem_cons_zero, Act.put, List.setIfInBounds_toArray, List.set_cons_zero, List.set_cons_succ])
  refine wpAnyH_take (i := 4) (v := .int .i64 (X + z)) rfl (by kernel_rfl) (by kernel_rfl) (by kernel_rfl) (fun _ _ _ h => h) (Or.inl ⟨by rfl, by intro w' hS'; go_simp <;> (first | omega | (rw [IntKind.wrap_i64]; omega) | (rw [IntKind.wrap_u64]; omega) | (rw [IntKind.wrap_u32]; omega) | (rw [Int.tmod_eq_emod_of_nonneg (by omega)]))⟩) hS4 ?_
  (try simp only [List.getElem_toArray, List.getElem_cons_succ, List.getElem_cons_zero, Act.put, List.setIfInBounds_toArray, List.set_cons_zero, List.set_cons_succ])
  refine wpAnyH_take (i := 5) (v := .pointer (some ⟨b, 2, none⟩)) rfl (by kernel_rfl) (by kernel_rfl) (by kernel_rfl) (fun _ _ _ h => h) (Or.inl ⟨by rfl, by intro w' hS'; go_simp <;> (first | omega | (rw [IntKind.wrap_i64]; omega) | (rw [IntKind.wrap_u64]; omega) | (rw [IntKind.wrap_u32]; omega) | (rw [Int.tmod_eq_emod_of_nonneg (by omega)]))⟩) hS4 ?_
  (try simp only [List.getElem_toArray, List.getElem_cons_succ, List.getElem_cons_zero, Act.put, List.setIfInBounds_toArray, List.set_cons_zero, List.set_cons_succ])
  refine held_stepS (i := 6) (by kernel_rfl) rfl (by rfl) ?_
  go_simp
  have hrow5 : (w4.setCell ⟨b, 2, none⟩ (.int .i64 (X + z))).heap[b]? = some (.cells #[.int .i64 X, .int .i64 Y, .int .i64 (X + z)] 34 (0, 0)) := heap_setCell_same _ _ _ _ _ _ HROW4.out
  refine ⟨by rw [HS.out]; exact cell_of_row _ b 0 _ _ _ hrow5, ?_⟩
  (try simp only [List.getElem_toArray, List.getElem_cons_succ, List.getElem_cons_zero, Act.put, List.setIfInBounds_toArray, List.set_cons_zero, List.set_cons_succ])
  refine wpAnyH_done (by kernel_rfl) ?_ _
  have HR5 : Hid (Rd3 w0 a len cap g W (w4.setCell ⟨b, 2, none⟩ (.int .i64 (X + z)))) := HR4.out.setc HBW.out HGL.out HW0.out 2 _
  have HROW5 : Hid _ := hrow5
  have HB5 : Hid (b < (w4.setCell ⟨b, 2, none⟩ (.int .i64 (X + z))).heap.size) := row_ltS hrow5
  have hro5 : (w4.setCell ⟨b, 2, none⟩ (.int .i64 (X + z))).heap[W.heap.size]? = some (.cells #[.int .i64 0, .int .i64 0, .int .i64 0] 34 (0, 0)) := by rw [heap_setCell_other _ _ _ _ HNE.out]; exact HOUT4.out
  have HOUT5 : Hid _ := hro5
  generalize w4.setCell ⟨b, 2, none⟩ (.int .i64 (X + z)) = w5 at HR5 HROW5 HB5 HOUT5 ⊢
  clear hrow5 hro5 y2 z2 HROW4 HR4 HB4 HS hSd HXS hS4
  generalize X + z = Z at *
  go_wp2_with fail
  refine (once_any hS HR5.out.rd 30 (by omega) (by omega)).mono ?_
  rintro e w6 ⟨⟨q, rfl⟩, hr6⟩
  have hnb : some b ≠ some g := by intro c; injection c with c; have := HGL.out; have := HBW.out; omega
  have HR6 : Hid (Rd3 w0 a len cap g W w6) := HR5.out.trans hr6
  have HROW6 : Hid (w6.heap[b]? = some (.cells #[.int .i64 X, .int .i64 Y, .int .i64 Z] 34 (0, 0))) := (hr6.grown.block _ HB5.out hnb).trans HROW5.out
  have HOUT6 : Hid (w6.heap[W.heap.size]? = some (.cells #[.int .i64 0, .int .i64 0, .int .i64 0] 34 (0, 0))) := (hr6.grown.block _ (row_ltS HOUT5.out) HNG.out).trans HOUT5.out
  have HNB : Hid _ := hnb
  clear hr6 hnb HR5 HROW5 HOUT5 HB5
  cases q with
  | false =>
    have y0 : w6.cell? ⟨b, 0, none⟩ = some (.int .i64 X) := cell_of_row _ _ 0 _ _ _ HROW6.out
    have yz0 := frozen_of_row w6 b 0 _ _ HROW6.out
    have y1 : w6.cell? ⟨b, 1, none⟩ = some (.int .i64 Y) := cell_of_row _ _ 1 _ _ _ HROW6.out
    have yz1 := frozen_of_row w6 b 1 _ _ HROW6.out
    have y2 : w6.cell? ⟨b, 2, none⟩ = some (.int .i64 Z) := cell_of_row _ _ 2 _ _ _ HROW6.out
    have yz2 := frozen_of_row w6 b 2 _ _ HROW6.out
    have o0 : w6.cell? ⟨W.heap.size, 0, none⟩ = some (.int .i64 0) := cell_of_row _ _ 0 _ _ _ HOUT6.out
    have oz0 := frozen_of_row w6 W.heap.size 0 _ _ HOUT6.out
    have o1 : w6.cell? ⟨W.heap.size, 1, none⟩ = some (.int .i64 0) := cell_of_row _ _ 1 _ _ _ HOUT6.out
    have oz1 := frozen_of_row w6 W.heap.size 1 _ _ HOUT6.out
    have o2 : w6.cell? ⟨W.heap.size, 2, none⟩ = some (.int .i64 0) := cell_of_row _ _ 2 _ _ _ HOUT6.out
    have oz2 := frozen_of_row w6 W.heap.size 2 _ _ HOUT6.out
    go_wp2_with fail
    refine bodyPost_ret (results_cell_row rfl _ _ W.heap.size 34 #[.int .i64 X, .int .i64 Y, .int .i64 Z] (0, 0) _ rfl (putS_row HOUT6.out X Y Z) Try.underlying34 rfl (by kernel_rfl)) rfl ⟨⟨X, Y, Z, rfl⟩, HR6.out.putS (Nat.le_refl _) HGL.out HW0.out X Y Z⟩
  | true =>
    go_wp2_with fail
    refine (off_any hS HR6.out.rd 1 1000 (by omega) (by omega) (by omega)).mono ?_
    rintro e w7 ⟨⟨x1, _, _, rfl⟩, hr7⟩
    have HR7 : Hid (Rd3 w0 a len cap g W w7) := HR6.out.trans hr7
    have HROW7 : Hid (w7.heap[b]? = some (.cells #[.int .i64 X, .int .i64 Y, .int .i64 Z] 34 (0, 0))) := (hr7.grown.block _ (row_ltS HROW6.out) HNB.out).trans HROW6.out
    have HOUT7 : Hid (w7.heap[W.heap.size]? = some (.cells #[.int .i64 0, .int .i64 0, .int .i64 0] 34 (0, 0))) := (hr7.grown.block _ (row_ltS HOUT6.out) HNG.out).trans HOUT6.out
    clear hr7 HR6 HROW6 HOUT6
    go_wp2_with fail
    refine (off_any hS HR7.out.rd 1 12 (by omega) (by omega) (by omega)).mono ?_
    rintro e w8 ⟨⟨x2, _, _, rfl⟩, hr8⟩
    have HR8 : Hid (Rd3 w0 a len cap g W w8) := HR7.out.trans hr8
    have HROW8 : Hid (w8.heap[b]? = some (.cells #[.int .i64 X, .int .i64 Y, .int .i64 Z] 34 (0, 0))) := (hr8.grown.block _ (row_ltS HROW7.out) HNB.out).trans HROW7.out
    have HOUT8 : Hid (w8.heap[W.heap.size]? = some (.cells #[.int .i64 0, .int .i64 0, .int .i64 0] 34 (0, 0))) := (hr8.grown.block _ (row_ltS HOUT7.out) HNG.out).trans HOUT7.out
    clear hr8 HR7 HROW7 HOUT7
    go_wp2_with fail
    refine (off_any hS HR8.out.rd 1 4000 (by omega) (by omega) (by omega)).mono ?_
    rintro e w9 ⟨⟨x3, _, _, rfl⟩, hr9⟩
    have HR9 : Hid (Rd3 w0 a len cap g W w9) := HR8.out.trans hr9
    have HROW9 : Hid (w9.heap[b]? = some (.cells #[.int .i64 X, .int .i64 Y, .int .i64 Z] 34 (0, 0))) := (hr9.grown.block _ (row_ltS HROW8.out) HNB.out).trans HROW8.out
    have HOUT9 : Hid (w9.heap[W.heap.size]? = some (.cells #[.int .i64 0, .int .i64 0, .int .i64 0] 34 (0, 0))) := (hr9.grown.block _ (row_ltS HOUT8.out) HNG.out).trans HOUT8.out
    clear hr9 HR8 HROW8 HOUT8
    have y0 : w9.cell? ⟨b, 0, none⟩ = some (.int .i64 X) := cell_of_row _ _ 0 _ _ _ HROW9.out
    have yz0 := frozen_of_row w9 b 0 _ _ HROW9.out
    have y1 : w9.cell? ⟨b, 1, none⟩ = some (.int .i64 Y) := cell_of_row _ _ 1 _ _ _ HROW9.out
    have yz1 := frozen_of_row w9 b 1 _ _ HROW9.out
    have y2 : w9.cell? ⟨b, 2, none⟩ = some (.int .i64 Z) := cell_of_row _ _ 2 _ _ _ HROW9.out
    have yz2 := frozen_of_row w9 b 2 _ _ HROW9.out
    have o0 : w9.cell? ⟨W.heap.size, 0, none⟩ = some (.int .i64 0) := cell_of_row _ _ 0 _ _ _ HOUT9.out
    have oz0 := frozen_of_row w9 W.heap.size 0 _ _ HOUT9.out
    have o1 : w9.cell? ⟨W.heap.size, 1, none⟩ = some (.int .i64 0) := cell_of_row _ _ 1 _ _ _ HOUT9.out
    have oz1 := frozen_of_row w9 W.heap.size 1 _ _ HOUT9.out
    have o2 : w9.cell? ⟨W.heap.size, 2, none⟩ = some (.int .i64 0) := cell_of_row _ _ 2 _ _ _ HOUT9.out
    have oz2 := frozen_of_row w9 W.heap.size 2 _ _ HOUT9.out
    have hne := HNE.out
    go_wp2_with fail
    refine bodyPost_ret (results_cell_row rfl _ _ W.heap.size 34 #[.int .i64 x1, .int .i64 x2, .int .i64 x3] (0, 0) _ rfl (putS_row ((putS_other HNE.out _ _ _).trans HOUT9.out) x1 x2 x3) Try.underlying34 rfl (by kernel_rfl)) rfl ⟨⟨x1, x2, x3, rfl⟩, (HR9.out.putS HBW.out HGL.out HW0.out x1 x2 x3).putS (Nat.le_refl _) HGL.out HW0.out x1 x2 x3⟩
end Go.Proofs.Ytneeledgokccgad
