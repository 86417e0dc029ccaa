/-
  A text and a shape that are drawn.
-/
import Derived.Test.YtneeledgokccgadDrwShp
import Derived.Test.YtneeledgokccgadDrw
import Derived.Test.YtneeledgokccgadBig
namespace Go.Proofs.Ytneeledgokccgad
open Go.RowKit
set_option linter.unusedVariables false
theorem src_below {w0 W : World} {a : Option Addr} {len : Nat} (h : Src w0 a len) (hb : Below w0.heap.size w0 W) : Src W a len := by
  refine ⟨h.1, h.2.imp id ?_⟩
  rintro ⟨b, o, ha, hlt, hc⟩
  refine ⟨b, o, ha, Nat.lt_of_lt_of_le hlt hb.size, fun i hi => ?_⟩
  obtain ⟨c, h1, h2⟩ := hc i hi
  exact ⟨c, h1, (hb.cell (p := ⟨b, o + i, none⟩) hlt).trans h2⟩
theorem putS_below {B : Nat} {w0 w : World} (h : Below B w0 w) {b : Nat} (hb : B ≤ b) (x y z : Int) : Below B w0 (putS w b x y z) :=
  ((h.setCell (p := ⟨b, 0, none⟩) hb _).setCell (p := ⟨b, 1, none⟩) hb _).setCell (p := ⟨b, 2, none⟩) hb _
set_option maxRecDepth 100000 in
set_option maxHeartbeats 1000000 in
theorem drawCuts {w0 : World} {a : Option Addr} {len cap : Nat} {W : World} (hS : Src w0 a len) (hb : Below w0.heap.size w0 W) :
    Calls Try.prog 22 #[.slice a len cap] W fun e w' => (∃ (s : ByteArray) (l b m : Int), s.size ≤ 600 ∧ e = .returned (.tuple #[.string s, shpV l b m])) ∧ Below w0.heap.size w0 w' := by
  have HOUT0 : Hid ((W.alloc (.cells #[.int .i64 0, .int .i64 0, .int .i64 0] 34)).heap[W.heap.size]? = some (.cells #[.int .i64 0, .int .i64 0, .int .i64 0] 34 (0, 0))) := heap_alloc_new W _
  have HB0 : Hid (Below w0.heap.size w0 (W.alloc (.cells #[.int .i64 0, .int .i64 0, .int .i64 0] 34))) := hb.alloc hb.size _
  have HW : Hid (w0.heap.size ≤ W.heap.size) := hb.size
  clear hb
  unfold shpV
  go_enter Try.func22, Try.ntmps22
  go_wp2_with fail
  generalize W.alloc (.cells #[.int .i64 0, .int .i64 0, .int .i64 0] 34) = W1 at HOUT0 HB0 ⊢
  refine (open_any HB0.out).mono ?_
  rintro e w1 ⟨rfl, hr1, hg1⟩
  have HG : Hid (W.heap.size ≠ W1.heap.size) := by have := row_ltS HOUT0.out; show _ ≠ _; omega
  have HOUT1 : Hid (w1.heap[W.heap.size]? = some (.cells #[.int .i64 0, .int .i64 0, .int .i64 0] 34 (0, 0))) := (hg1.block _ (row_ltS HOUT0.out) (by simp)).trans HOUT0.out
  have HR1 : Hid (RD w0 a len cap W1.heap.size w1) := hr1
  clear hr1 hg1 HOUT0 HB0
  go_wp2_with fail
  refine (data_any hS HR1.out 9 (by omega) (by omega)).mono ?_
  rintro e w2 ⟨⟨s, hs, rfl⟩, hr2⟩
  have HNG : Hid (some W.heap.size ≠ some W1.heap.size) := by intro c; exact HG.out (Option.some.inj c)
  have HOUT2 : Hid (w2.heap[W.heap.size]? = some (.cells #[.int .i64 0, .int .i64 0, .int .i64 0] 34 (0, 0))) := (hr2.grown.block _ (row_ltS HOUT1.out) HNG.out).trans HOUT1.out
  have HR2 : Hid (RD w0 a len cap W1.heap.size w2) := hr2.rd
  clear hr2 HOUT1 HR1
  go_wp2_with fail
  refine (shape_drawn hS HR2.out).mono ?_
  rintro e w3 ⟨⟨l, b, m, rfl⟩, hr3⟩
  have HOUT3 : Hid (w3.heap[W.heap.size]? = some (.cells #[.int .i64 0, .int .i64 0, .int .i64 0] 34 (0, 0))) := (hr3.grown.block _ (row_ltS HOUT2.out) HNG.out).trans HOUT2.out
  have HR3 : Hid (RD w0 a len cap W1.heap.size w3) := hr3.rd
  clear hr3 HOUT2 HR2
  have y0 : w3.cell? ⟨W.heap.size, 0, none⟩ = some (.int .i64 0) := cell_of_row _ _ 0 _ _ _ HOUT3.out
  have y1 : w3.cell? ⟨W.heap.size, 1, none⟩ = some (.int .i64 0) := cell_of_row _ _ 1 _ _ _ HOUT3.out
  have y2 : w3.cell? ⟨W.heap.size, 2, none⟩ = some (.int .i64 0) := cell_of_row _ _ 2 _ _ _ HOUT3.out
  have z0 := frozen_of_row w3 W.heap.size 0 _ _ HOUT3.out
  have z1 := frozen_of_row w3 W.heap.size 1 _ _ HOUT3.out
  have z2 := frozen_of_row w3 W.heap.size 2 _ _ HOUT3.out
  unfold shpV
  go_wp2_with fail
  refine bodyPost_ret (results_tmp_cell rfl _ _ W.heap.size 34 #[.int .i64 l, .int .i64 b, .int .i64 m] (0, 0) _ rfl (putS_row HOUT3.out l b m) Try.underlying34 rfl (by kernel_rfl)) rfl ⟨⟨s, l, b, m, hs, rfl⟩, putS_below HR3.out.below HW.out l b m⟩
set_option maxRecDepth 100000 in
set_option maxHeartbeats 1000000 in
theorem drawChunks {w0 : World} {a : Option Addr} {len cap : Nat} {W : World} (hS : Src w0 a len) (hb : Below w0.heap.size w0 W) :
    Calls Try.prog 17 #[.slice a len cap] W fun e w' => (∃ (s : ByteArray) (l b m : Int), s.size ≤ 600 ∧ e = .returned (.tuple #[.string s, shpV l b m])) ∧ Below w0.heap.size w0 w' := by
  have HB0 : Hid (Below w0.heap.size w0 (W.alloc (.cells #[.int .i64 0, .int .i64 0, .int .i64 0] 34))) := hb.alloc hb.size _
  have HW : Hid (w0.heap.size ≤ W.heap.size) := hb.size
  have HD : Hid (∀ W1, Below W1.heap.size W1 W1 → True) := fun _ _ => trivial
  have HOUT0 : Hid ((W.alloc (.cells #[.int .i64 0, .int .i64 0, .int .i64 0] 34)).heap[W.heap.size]? = some (.cells #[.int .i64 0, .int .i64 0, .int .i64 0] 34 (0, 0))) := heap_alloc_new W _
  clear hb
  unfold shpV
  go_enter Try.func17, Try.ntmps17
  go_wp2_with fail
  generalize W.alloc (.cells #[.int .i64 0, .int .i64 0, .int .i64 0] 34) = W1 at HOUT0 HB0 ⊢
  refine (drawCuts (w0 := W1) (src_below hS HB0.out) (Below.refl _ _)).mono ?_
  rintro e w3 ⟨⟨s, l, b, m, hs, rfl⟩, hb3⟩
  have HOUT3 : Hid (w3.heap[W.heap.size]? = some (.cells #[.int .i64 0, .int .i64 0, .int .i64 0] 34 (0, 0))) := (hb3.block _ (row_ltS HOUT0.out)).trans HOUT0.out
  have HB3 : Hid (Below w0.heap.size w0 w3) := HB0.out.trans (hb3.mono HB0.out.size)
  clear hb3 HOUT0 HB0
  have y0 : w3.cell? ⟨W.heap.size, 0, none⟩ = some (.int .i64 0) := cell_of_row _ _ 0 _ _ _ HOUT3.out
  have y1 : w3.cell? ⟨W.heap.size, 1, none⟩ = some (.int .i64 0) := cell_of_row _ _ 1 _ _ _ HOUT3.out
  have y2 : w3.cell? ⟨W.heap.size, 2, none⟩ = some (.int .i64 0) := cell_of_row _ _ 2 _ _ _ HOUT3.out
  have z0 := frozen_of_row w3 W.heap.size 0 _ _ HOUT3.out
  have z1 := frozen_of_row w3 W.heap.size 1 _ _ HOUT3.out
  have z2 := frozen_of_row w3 W.heap.size 2 _ _ HOUT3.out
  unfold shpV
  go_wp2_with fail
  refine bodyPost_ret (results_tmp_cell rfl _ _ W.heap.size 34 #[.int .i64 l, .int .i64 b, .int .i64 m] (0, 0) _ rfl (putS_row HOUT3.out l b m) Try.underlying34 rfl (by kernel_rfl)) rfl ⟨⟨s, l, b, m, hs, rfl⟩, putS_below HB3.out HW.out l b m⟩
end Go.Proofs.Ytneeledgokccgad
