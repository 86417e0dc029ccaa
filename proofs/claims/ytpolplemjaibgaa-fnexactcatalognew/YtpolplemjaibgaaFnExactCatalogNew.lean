/-
  CatalogNew of the code answers as the model does: at every shape.
-/
import Derived.Test.YtpolplemjaibgaaRows
import Derived.Test.YtpolplemjaibgaaCnw
import Derived.WalkKit
import Derived.ProofKit
import Derived.OpenShut
import Derived.ShutString
import Derived.ChangeOld
import Derived.Below
import Derived.Lib.SmallJoins
import Derived.Deep.Strs
namespace Go.Proofs.Ytpolplemjaibgaa.fnExactCatalogNew
open Go.ChangeShapes Go.WideShapes Go.ChangeAt Go.RowKit
open Go.ChangeMaps (open_string shut_string)
set_option linter.unusedVariables false

theorem own : ownKnob Try.prog.godebug = none := by kernel_rfl
theorem laidOut : laidOutB Try.prog = true := by kernel_rfl

theorem bl_trans2 {B C : Nat} {a b c : World} (h : Below B a b) (k : Below C b c) (hBC : B ≤ C) : Below B a c :=
  ⟨k.os.trans h.os, k.tape.trans h.tape, k.output.trans h.output, Nat.le_trans h.size k.size, fun i hi => (k.block i (Nat.lt_of_lt_of_le hi hBC)).trans (h.block i hi)⟩
set_option maxRecDepth 100000 in
set_option maxHeartbeats 2000000 in
theorem walkOf (l b m x y z n : Int) (ok : Bool) (w : World)
    (HS : Hid (∀ w, Calls Try.prog 24 #[shpV l b m] w fun e w' => e = .returned (.tuple #[.agg #[.int .i64 x, .int .i64 y, .int .i64 z, .int .i64 n, .slice none 0 0, .slice none 0 0], .bool ok]) ∧ Below w.heap.size w w'))
    (HC : Hid (∀ w, Calls Try.prog 26 #[shpV l b m] w fun e w' => e = .returned (.tuple #[.agg #[.int .i64 x, .int .i64 y, .int .i64 z, .int .i64 n, .slice none 0 0, .slice none 0 0], .bool ok]) ∧ Below w.heap.size w w')) :
    Calls Try.prog 8 #[shpV l b m] w fun e w' => e = .returned (.bool true) ∧ Below w.heap.size w w' := by
  have HT : Hid (∀ w, Calls Try.prog 25 #[shpV l b m] w fun e w' => e = .returned (shpV l b m) ∧ Below w.heap.size w w') := fun w => toShp_any l b m w
  have HE : Hid (∀ w, Calls Try.prog 27 #[.agg #[.int .i64 x, .int .i64 y, .int .i64 z, .int .i64 n, .slice none 0 0, .slice none 0 0], .agg #[.int .i64 x, .int .i64 y, .int .i64 z, .int .i64 n, .slice none 0 0, .slice none 0 0]] w fun e w' => e = .returned (.bool true) ∧ Below w.heap.size w w') := fun w => eqCn_same x y z n w
  have HM : Hid (∀ w, Calls Try.prog 28 #[.agg #[.int .i64 x, .int .i64 y, .int .i64 z, .int .i64 n, .slice none 0 0, .slice none 0 0], .int .i64 1] w fun e w' => e = .returned (.int .i64 1) ∧ Below w.heap.size w w') := fun w => mkCn_any x y z n w
  have HH : Hid (∀ w, Calls Try.prog 29 #[.agg #[.int .i64 x, .int .i64 y, .int .i64 z, .int .i64 n, .slice none 0 0, .slice none 0 0], .int .i64 1] w fun e w' => e = .returned (.int .i64 1) ∧ Below w.heap.size w w') := fun w => hdCn_any x y z n w
  have hiS : Option.map (·.size) (Try.prog.info? 43) = some 3 := by kernel_rfl
  have hiC : Option.map (·.size) (Try.prog.info? 48) = some 6 := by kernel_rfl
  unfold shpV at HS HC HT ⊢
  go_enter Try.func8, Try.ntmps8
  go_wp2_with fail
  refine (HT.out _).mono ?_
  rintro e w1 ⟨rfl, hb1⟩
  have q1 := (hb1.block _ (by simp)).trans (heap_alloc_new w (.cells #[.int .i64 l, .int .i64 b, .int .i64 m] 43))
  have R1 : Hid (w1.heap[w.heap.size]? = some (.cells #[.int .i64 l, .int .i64 b, .int .i64 m] 43 (0, 0))) := q1
  have B1 : Hid (Below w.heap.size w w1) := blCn ((Below.refl _ _).alloc (Nat.le_refl _) _) hb1 (by simp)
  clear hb1 q1
  go_wp2_with fail
  refine (HS.out _).mono ?_
  rintro e w2 ⟨rfl, hb2⟩
  have qR : w2.heap[w.heap.size]? = some (.cells #[.int .i64 l, .int .i64 b, .int .i64 m] 43 (0, 0)) := (hb2.block _ (Array.getElem?_eq_some_iff.1 R1.out).1).trans R1.out
  have R2 := hidC qR
  have B2 : Hid (Below w.heap.size w w2) := blCn B1.out hb2 B1.out.size
  clear hb2 qR
  obtain ⟨w3, hW3⟩ : ∃ w3, w3 = w2.alloc (.cells #[.int .i64 x, .int .i64 y, .int .i64 z, .int .i64 n, .slice none 0 0, .slice none 0 0] 48) := ⟨_, rfl⟩
  have qR : w3.heap[w.heap.size]? = some (.cells #[.int .i64 l, .int .i64 b, .int .i64 m] 43 (0, 0)) := by rw [hW3, Below.heap_alloc _ _ _ (Array.getElem?_eq_some_iff.1 R2.out).1]; exact R2.out
  have R3 := hidC qR
  have qE : w3.heap[w2.heap.size]? = some (.cells #[.int .i64 x, .int .i64 y, .int .i64 z, .int .i64 n, .slice none 0 0, .slice none 0 0] 48 (0, 0)) := by rw [hW3]; exact heap_alloc_new w2 _
  have E3 := hidC qE
  have qb : Below w.heap.size w w3 := by rw [hW3]; exact B2.out.alloc B2.out.size _
  have B3 := hidC qb
  clear qb qR qE
  go_wp2_with (first | (rw [← hW3]; refine wpList_load_row rfl 43 _ rfl (w.heap.size) rfl 43 #[.int .i64 l, .int .i64 b, .int .i64 m] (0, 0) _ R3.out Try.underlying43 rfl hiS ?_) | fail)
  refine (HT.out _).mono ?_
  rintro e w4 ⟨rfl, hb4⟩
  try rw [← hW3] at hb4
  clear hW3
  have qR : w4.heap[w.heap.size]? = some (.cells #[.int .i64 l, .int .i64 b, .int .i64 m] 43 (0, 0)) := (hb4.block _ (Array.getElem?_eq_some_iff.1 R3.out).1).trans R3.out
  have R4 := hidC qR
  have qE : w4.heap[w2.heap.size]? = some (.cells #[.int .i64 x, .int .i64 y, .int .i64 z, .int .i64 n, .slice none 0 0, .slice none 0 0] 48 (0, 0)) := (hb4.block _ (Array.getElem?_eq_some_iff.1 E3.out).1).trans E3.out
  have E4 := hidC qE
  have B4 : Hid (Below w.heap.size w w4) := blCn B3.out hb4 B3.out.size
  clear hb4 qR qE
  go_wp2_with fail
  refine (HC.out _).mono ?_
  rintro e w5 ⟨rfl, hb5⟩
  have qR : w5.heap[w.heap.size]? = some (.cells #[.int .i64 l, .int .i64 b, .int .i64 m] 43 (0, 0)) := (hb5.block _ (Array.getElem?_eq_some_iff.1 R4.out).1).trans R4.out
  have R5 := hidC qR
  have qE : w5.heap[w2.heap.size]? = some (.cells #[.int .i64 x, .int .i64 y, .int .i64 z, .int .i64 n, .slice none 0 0, .slice none 0 0] 48 (0, 0)) := (hb5.block _ (Array.getElem?_eq_some_iff.1 E4.out).1).trans E4.out
  have E5 := hidC qE
  have B5 : Hid (Below w.heap.size w w5) := blCn B4.out hb5 B4.out.size
  clear hb5 qR qE
  obtain ⟨w6, hW6⟩ : ∃ w6, w6 = w5.alloc (.cells #[.int .i64 x, .int .i64 y, .int .i64 z, .int .i64 n, .slice none 0 0, .slice none 0 0] 48) := ⟨_, rfl⟩
  have qR : w6.heap[w.heap.size]? = some (.cells #[.int .i64 l, .int .i64 b, .int .i64 m] 43 (0, 0)) := by rw [hW6, Below.heap_alloc _ _ _ (Array.getElem?_eq_some_iff.1 R5.out).1]; exact R5.out
  have R6 := hidC qR
  have qE : w6.heap[w2.heap.size]? = some (.cells #[.int .i64 x, .int .i64 y, .int .i64 z, .int .i64 n, .slice none 0 0, .slice none 0 0] 48 (0, 0)) := by rw [hW6, Below.heap_alloc _ _ _ (Array.getElem?_eq_some_iff.1 E5.out).1]; exact E5.out
  have E6 := hidC qE
  have qG : w6.heap[w5.heap.size]? = some (.cells #[.int .i64 x, .int .i64 y, .int .i64 z, .int .i64 n, .slice none 0 0, .slice none 0 0] 48 (0, 0)) := by rw [hW6]; exact heap_alloc_new w5 _
  have G6 := hidC qG
  have qb : Below w.heap.size w w6 := by rw [hW6]; exact B5.out.alloc B5.out.size _
  have B6 := hidC qb
  clear qb qR qE qG
  cases ok with
  | true =>
    go_wp2_with (first | (rw [← hW6]; (first | (refine wpList_load_row rfl 48 _ rfl (w5.heap.size) rfl 48 #[.int .i64 x, .int .i64 y, .int .i64 z, .int .i64 n, .slice none 0 0, .slice none 0 0] (0, 0) _ G6.out Try.underlying48 rfl hiC ?_) | (refine wpList_load_row rfl 48 _ rfl (w2.heap.size) rfl 48 #[.int .i64 x, .int .i64 y, .int .i64 z, .int .i64 n, .slice none 0 0, .slice none 0 0] (0, 0) _ E6.out Try.underlying48 rfl hiC ?_))) | (first | (refine wpList_load_row rfl 48 _ rfl (w5.heap.size) rfl 48 #[.int .i64 x, .int .i64 y, .int .i64 z, .int .i64 n, .slice none 0 0, .slice none 0 0] (0, 0) _ G6.out Try.underlying48 rfl hiC ?_) | (refine wpList_load_row rfl 48 _ rfl (w2.heap.size) rfl 48 #[.int .i64 x, .int .i64 y, .int .i64 z, .int .i64 n, .slice none 0 0, .slice none 0 0] (0, 0) _ E6.out Try.underlying48 rfl hiC ?_)))
    refine (HE.out _).mono ?_
    rintro e w7 ⟨rfl, hb7⟩
    try rw [← hW6] at hb7
    clear hW6
    have qR : w7.heap[w.heap.size]? = some (.cells #[.int .i64 l, .int .i64 b, .int .i64 m] 43 (0, 0)) := (hb7.block _ (Array.getElem?_eq_some_iff.1 R6.out).1).trans R6.out
    have R7 := hidC qR
    have qE : w7.heap[w2.heap.size]? = some (.cells #[.int .i64 x, .int .i64 y, .int .i64 z, .int .i64 n, .slice none 0 0, .slice none 0 0] 48 (0, 0)) := (hb7.block _ (Array.getElem?_eq_some_iff.1 E6.out).1).trans E6.out
    have E7 := hidC qE
    have qG : w7.heap[w5.heap.size]? = some (.cells #[.int .i64 x, .int .i64 y, .int .i64 z, .int .i64 n, .slice none 0 0, .slice none 0 0] 48 (0, 0)) := (hb7.block _ (Array.getElem?_eq_some_iff.1 G6.out).1).trans G6.out
    have G7 := hidC qG
    have B7 : Hid (Below w.heap.size w w7) := blCn B6.out hb7 B6.out.size
    clear hb7 qR qE qG
    go_wp2_with (first | (refine wpList_load_row rfl 48 _ rfl (w5.heap.size) rfl 48 #[.int .i64 x, .int .i64 y, .int .i64 z, .int .i64 n, .slice none 0 0, .slice none 0 0] (0, 0) _ G7.out Try.underlying48 rfl hiC ?_))
    refine (HM.out _).mono ?_
    rintro e w8 ⟨rfl, hb8⟩
    have qR : w8.heap[w.heap.size]? = some (.cells #[.int .i64 l, .int .i64 b, .int .i64 m] 43 (0, 0)) := (hb8.block _ (Array.getElem?_eq_some_iff.1 R7.out).1).trans R7.out
    have R8 := hidC qR
    have qE : w8.heap[w2.heap.size]? = some (.cells #[.int .i64 x, .int .i64 y, .int .i64 z, .int .i64 n, .slice none 0 0, .slice none 0 0] 48 (0, 0)) := (hb8.block _ (Array.getElem?_eq_some_iff.1 E7.out).1).trans E7.out
    have E8 := hidC qE
    have qG : w8.heap[w5.heap.size]? = some (.cells #[.int .i64 x, .int .i64 y, .int .i64 z, .int .i64 n, .slice none 0 0, .slice none 0 0] 48 (0, 0)) := (hb8.block _ (Array.getElem?_eq_some_iff.1 G7.out).1).trans G7.out
    have G8 := hidC qG
    have B8 : Hid (Below w.heap.size w w8) := blCn B7.out hb8 B7.out.size
    clear hb8 qR qE qG
    go_wp2_with (first | (refine wpList_load_row rfl 48 _ rfl (w5.heap.size) rfl 48 #[.int .i64 x, .int .i64 y, .int .i64 z, .int .i64 n, .slice none 0 0, .slice none 0 0] (0, 0) _ G8.out Try.underlying48 rfl hiC ?_))
    refine (HH.out _).mono ?_
    rintro e w9 ⟨rfl, hb9⟩
    have qR : w9.heap[w.heap.size]? = some (.cells #[.int .i64 l, .int .i64 b, .int .i64 m] 43 (0, 0)) := (hb9.block _ (Array.getElem?_eq_some_iff.1 R8.out).1).trans R8.out
    have R9 := hidC qR
    have qE : w9.heap[w2.heap.size]? = some (.cells #[.int .i64 x, .int .i64 y, .int .i64 z, .int .i64 n, .slice none 0 0, .slice none 0 0] 48 (0, 0)) := (hb9.block _ (Array.getElem?_eq_some_iff.1 E8.out).1).trans E8.out
    have E9 := hidC qE
    have qG : w9.heap[w5.heap.size]? = some (.cells #[.int .i64 x, .int .i64 y, .int .i64 z, .int .i64 n, .slice none 0 0, .slice none 0 0] 48 (0, 0)) := (hb9.block _ (Array.getElem?_eq_some_iff.1 G8.out).1).trans G8.out
    have G9 := hidC qG
    have B9 : Hid (Below w.heap.size w w9) := blCn B8.out hb9 B8.out.size
    clear hb9 qR qE qG
    go_wp2_with (first | (refine wpList_load_row rfl 43 _ rfl (w.heap.size) rfl 43 #[.int .i64 l, .int .i64 b, .int .i64 m] (0, 0) _ R9.out Try.underlying43 rfl hiS ?_))
    refine (HT.out _).mono ?_
    rintro e w10 ⟨rfl, hb10⟩
    have qR : w10.heap[w.heap.size]? = some (.cells #[.int .i64 l, .int .i64 b, .int .i64 m] 43 (0, 0)) := (hb10.block _ (Array.getElem?_eq_some_iff.1 R9.out).1).trans R9.out
    have R10 := hidC qR
    have qE : w10.heap[w2.heap.size]? = some (.cells #[.int .i64 x, .int .i64 y, .int .i64 z, .int .i64 n, .slice none 0 0, .slice none 0 0] 48 (0, 0)) := (hb10.block _ (Array.getElem?_eq_some_iff.1 E9.out).1).trans E9.out
    have E10 := hidC qE
    have qG : w10.heap[w5.heap.size]? = some (.cells #[.int .i64 x, .int .i64 y, .int .i64 z, .int .i64 n, .slice none 0 0, .slice none 0 0] 48 (0, 0)) := (hb10.block _ (Array.getElem?_eq_some_iff.1 G9.out).1).trans G9.out
    have G10 := hidC qG
    have B10 : Hid (Below w.heap.size w w10) := blCn B9.out hb10 B9.out.size
    clear hb10 qR qE qG
    go_wp2_with fail
    refine (HC.out _).mono ?_
    rintro e w11 ⟨rfl, hb11⟩
    have qR : w11.heap[w.heap.size]? = some (.cells #[.int .i64 l, .int .i64 b, .int .i64 m] 43 (0, 0)) := (hb11.block _ (Array.getElem?_eq_some_iff.1 R10.out).1).trans R10.out
    have R11 := hidC qR
    have qE : w11.heap[w2.heap.size]? = some (.cells #[.int .i64 x, .int .i64 y, .int .i64 z, .int .i64 n, .slice none 0 0, .slice none 0 0] 48 (0, 0)) := (hb11.block _ (Array.getElem?_eq_some_iff.1 E10.out).1).trans E10.out
    have E11 := hidC qE
    have qG : w11.heap[w5.heap.size]? = some (.cells #[.int .i64 x, .int .i64 y, .int .i64 z, .int .i64 n, .slice none 0 0, .slice none 0 0] 48 (0, 0)) := (hb11.block _ (Array.getElem?_eq_some_iff.1 G10.out).1).trans G10.out
    have G11 := hidC qG
    have B11 : Hid (Below w.heap.size w w11) := blCn B10.out hb11 B10.out.size
    clear hb11 qR qE qG
    obtain ⟨w12, hW12⟩ : ∃ w12, w12 = w11.alloc (.cells #[.int .i64 x, .int .i64 y, .int .i64 z, .int .i64 n, .slice none 0 0, .slice none 0 0] 48) := ⟨_, rfl⟩
    have qE : w12.heap[w2.heap.size]? = some (.cells #[.int .i64 x, .int .i64 y, .int .i64 z, .int .i64 n, .slice none 0 0, .slice none 0 0] 48 (0, 0)) := by rw [hW12, Below.heap_alloc _ _ _ (Array.getElem?_eq_some_iff.1 E11.out).1]; exact E11.out
    have E12 := hidC qE
    have qG : w12.heap[w5.heap.size]? = some (.cells #[.int .i64 x, .int .i64 y, .int .i64 z, .int .i64 n, .slice none 0 0, .slice none 0 0] 48 (0, 0)) := by rw [hW12, Below.heap_alloc _ _ _ (Array.getElem?_eq_some_iff.1 G11.out).1]; exact G11.out
    have G12 := hidC qG
    have qK : w12.heap[w11.heap.size]? = some (.cells #[.int .i64 x, .int .i64 y, .int .i64 z, .int .i64 n, .slice none 0 0, .slice none 0 0] 48 (0, 0)) := by rw [hW12]; exact heap_alloc_new w11 _
    have K12 := hidC qK
    have qb : Below w.heap.size w w12 := by rw [hW12]; exact B11.out.alloc B11.out.size _
    have B12 := hidC qb
    clear qb qE qG qK
    go_wp2_with (first | (rw [← hW12]; (first | (refine wpList_load_row rfl 48 _ rfl (w11.heap.size) rfl 48 #[.int .i64 x, .int .i64 y, .int .i64 z, .int .i64 n, .slice none 0 0, .slice none 0 0] (0, 0) _ K12.out Try.underlying48 rfl hiC ?_) | (refine wpList_load_row rfl 48 _ rfl (w2.heap.size) rfl 48 #[.int .i64 x, .int .i64 y, .int .i64 z, .int .i64 n, .slice none 0 0, .slice none 0 0] (0, 0) _ E12.out Try.underlying48 rfl hiC ?_))) | (first | (refine wpList_load_row rfl 48 _ rfl (w11.heap.size) rfl 48 #[.int .i64 x, .int .i64 y, .int .i64 z, .int .i64 n, .slice none 0 0, .slice none 0 0] (0, 0) _ K12.out Try.underlying48 rfl hiC ?_) | (refine wpList_load_row rfl 48 _ rfl (w2.heap.size) rfl 48 #[.int .i64 x, .int .i64 y, .int .i64 z, .int .i64 n, .slice none 0 0, .slice none 0 0] (0, 0) _ E12.out Try.underlying48 rfl hiC ?_)))
    refine (HE.out _).mono ?_
    rintro e w13 ⟨rfl, hb13⟩
    try rw [← hW12] at hb13
    clear hW12
    have qG : w13.heap[w5.heap.size]? = some (.cells #[.int .i64 x, .int .i64 y, .int .i64 z, .int .i64 n, .slice none 0 0, .slice none 0 0] 48 (0, 0)) := (hb13.block _ (Array.getElem?_eq_some_iff.1 G12.out).1).trans G12.out
    have G13 := hidC qG
    have B13 : Hid (Below w.heap.size w w13) := blCn B12.out hb13 B12.out.size
    clear hb13 qG
    go_wp2_with (first | (refine wpList_load_row rfl 48 _ rfl (w5.heap.size) rfl 48 #[.int .i64 x, .int .i64 y, .int .i64 z, .int .i64 n, .slice none 0 0, .slice none 0 0] (0, 0) _ G13.out Try.underlying48 rfl hiC ?_))
    refine (HH.out _).mono ?_
    rintro e w14 ⟨rfl, hb14⟩
    have qG : w14.heap[w5.heap.size]? = some (.cells #[.int .i64 x, .int .i64 y, .int .i64 z, .int .i64 n, .slice none 0 0, .slice none 0 0] 48 (0, 0)) := (hb14.block _ (Array.getElem?_eq_some_iff.1 G13.out).1).trans G13.out
    have G14 := hidC qG
    have B14 : Hid (Below w.heap.size w w14) := blCn B13.out hb14 B13.out.size
    clear hb14 qG
    go_wp2_with fail
    go_ret
    exact ⟨rfl, B14.out⟩
  | false =>
    go_wp2_with (first | (rw [← hW6]; (first | (refine wpList_load_row rfl 48 _ rfl (w5.heap.size) rfl 48 #[.int .i64 x, .int .i64 y, .int .i64 z, .int .i64 n, .slice none 0 0, .slice none 0 0] (0, 0) _ G6.out Try.underlying48 rfl hiC ?_) | (refine wpList_load_row rfl 48 _ rfl (w2.heap.size) rfl 48 #[.int .i64 x, .int .i64 y, .int .i64 z, .int .i64 n, .slice none 0 0, .slice none 0 0] (0, 0) _ E6.out Try.underlying48 rfl hiC ?_))) | (first | (refine wpList_load_row rfl 48 _ rfl (w5.heap.size) rfl 48 #[.int .i64 x, .int .i64 y, .int .i64 z, .int .i64 n, .slice none 0 0, .slice none 0 0] (0, 0) _ G6.out Try.underlying48 rfl hiC ?_) | (refine wpList_load_row rfl 48 _ rfl (w2.heap.size) rfl 48 #[.int .i64 x, .int .i64 y, .int .i64 z, .int .i64 n, .slice none 0 0, .slice none 0 0] (0, 0) _ E6.out Try.underlying48 rfl hiC ?_)))
    refine (HE.out _).mono ?_
    rintro e w7 ⟨rfl, hb7⟩
    try rw [← hW6] at hb7
    clear hW6
    have qR : w7.heap[w.heap.size]? = some (.cells #[.int .i64 l, .int .i64 b, .int .i64 m] 43 (0, 0)) := (hb7.block _ (Array.getElem?_eq_some_iff.1 R6.out).1).trans R6.out
    have R7 := hidC qR
    have qE : w7.heap[w2.heap.size]? = some (.cells #[.int .i64 x, .int .i64 y, .int .i64 z, .int .i64 n, .slice none 0 0, .slice none 0 0] 48 (0, 0)) := (hb7.block _ (Array.getElem?_eq_some_iff.1 E6.out).1).trans E6.out
    have E7 := hidC qE
    have qG : w7.heap[w5.heap.size]? = some (.cells #[.int .i64 x, .int .i64 y, .int .i64 z, .int .i64 n, .slice none 0 0, .slice none 0 0] 48 (0, 0)) := (hb7.block _ (Array.getElem?_eq_some_iff.1 G6.out).1).trans G6.out
    have G7 := hidC qG
    have B7 : Hid (Below w.heap.size w w7) := blCn B6.out hb7 B6.out.size
    clear hb7 qR qE qG
    go_wp2_with (first | (refine wpList_load_row rfl 48 _ rfl (w5.heap.size) rfl 48 #[.int .i64 x, .int .i64 y, .int .i64 z, .int .i64 n, .slice none 0 0, .slice none 0 0] (0, 0) _ G7.out Try.underlying48 rfl hiC ?_))
    refine (HM.out _).mono ?_
    rintro e w8 ⟨rfl, hb8⟩
    have qR : w8.heap[w.heap.size]? = some (.cells #[.int .i64 l, .int .i64 b, .int .i64 m] 43 (0, 0)) := (hb8.block _ (Array.getElem?_eq_some_iff.1 R7.out).1).trans R7.out
    have R8 := hidC qR
    have qE : w8.heap[w2.heap.size]? = some (.cells #[.int .i64 x, .int .i64 y, .int .i64 z, .int .i64 n, .slice none 0 0, .slice none 0 0] 48 (0, 0)) := (hb8.block _ (Array.getElem?_eq_some_iff.1 E7.out).1).trans E7.out
    have E8 := hidC qE
    have qG : w8.heap[w5.heap.size]? = some (.cells #[.int .i64 x, .int .i64 y, .int .i64 z, .int .i64 n, .slice none 0 0, .slice none 0 0] 48 (0, 0)) := (hb8.block _ (Array.getElem?_eq_some_iff.1 G7.out).1).trans G7.out
    have G8 := hidC qG
    have B8 : Hid (Below w.heap.size w w8) := blCn B7.out hb8 B7.out.size
    clear hb8 qR qE qG
    go_wp2_with (first | (refine wpList_load_row rfl 48 _ rfl (w5.heap.size) rfl 48 #[.int .i64 x, .int .i64 y, .int .i64 z, .int .i64 n, .slice none 0 0, .slice none 0 0] (0, 0) _ G8.out Try.underlying48 rfl hiC ?_))
    refine (HH.out _).mono ?_
    rintro e w9 ⟨rfl, hb9⟩
    have qR : w9.heap[w.heap.size]? = some (.cells #[.int .i64 l, .int .i64 b, .int .i64 m] 43 (0, 0)) := (hb9.block _ (Array.getElem?_eq_some_iff.1 R8.out).1).trans R8.out
    have R9 := hidC qR
    have qE : w9.heap[w2.heap.size]? = some (.cells #[.int .i64 x, .int .i64 y, .int .i64 z, .int .i64 n, .slice none 0 0, .slice none 0 0] 48 (0, 0)) := (hb9.block _ (Array.getElem?_eq_some_iff.1 E8.out).1).trans E8.out
    have E9 := hidC qE
    have qG : w9.heap[w5.heap.size]? = some (.cells #[.int .i64 x, .int .i64 y, .int .i64 z, .int .i64 n, .slice none 0 0, .slice none 0 0] 48 (0, 0)) := (hb9.block _ (Array.getElem?_eq_some_iff.1 G8.out).1).trans G8.out
    have G9 := hidC qG
    have B9 : Hid (Below w.heap.size w w9) := blCn B8.out hb9 B8.out.size
    clear hb9 qR qE qG
    go_wp2_with (first | (refine wpList_load_row rfl 43 _ rfl (w.heap.size) rfl 43 #[.int .i64 l, .int .i64 b, .int .i64 m] (0, 0) _ R9.out Try.underlying43 rfl hiS ?_))
    refine (HT.out _).mono ?_
    rintro e w10 ⟨rfl, hb10⟩
    have qR : w10.heap[w.heap.size]? = some (.cells #[.int .i64 l, .int .i64 b, .int .i64 m] 43 (0, 0)) := (hb10.block _ (Array.getElem?_eq_some_iff.1 R9.out).1).trans R9.out
    have R10 := hidC qR
    have qE : w10.heap[w2.heap.size]? = some (.cells #[.int .i64 x, .int .i64 y, .int .i64 z, .int .i64 n, .slice none 0 0, .slice none 0 0] 48 (0, 0)) := (hb10.block _ (Array.getElem?_eq_some_iff.1 E9.out).1).trans E9.out
    have E10 := hidC qE
    have qG : w10.heap[w5.heap.size]? = some (.cells #[.int .i64 x, .int .i64 y, .int .i64 z, .int .i64 n, .slice none 0 0, .slice none 0 0] 48 (0, 0)) := (hb10.block _ (Array.getElem?_eq_some_iff.1 G9.out).1).trans G9.out
    have G10 := hidC qG
    have B10 : Hid (Below w.heap.size w w10) := blCn B9.out hb10 B9.out.size
    clear hb10 qR qE qG
    go_wp2_with fail
    refine (HC.out _).mono ?_
    rintro e w11 ⟨rfl, hb11⟩
    have qR : w11.heap[w.heap.size]? = some (.cells #[.int .i64 l, .int .i64 b, .int .i64 m] 43 (0, 0)) := (hb11.block _ (Array.getElem?_eq_some_iff.1 R10.out).1).trans R10.out
    have R11 := hidC qR
    have qE : w11.heap[w2.heap.size]? = some (.cells #[.int .i64 x, .int .i64 y, .int .i64 z, .int .i64 n, .slice none 0 0, .slice none 0 0] 48 (0, 0)) := (hb11.block _ (Array.getElem?_eq_some_iff.1 E10.out).1).trans E10.out
    have E11 := hidC qE
    have qG : w11.heap[w5.heap.size]? = some (.cells #[.int .i64 x, .int .i64 y, .int .i64 z, .int .i64 n, .slice none 0 0, .slice none 0 0] 48 (0, 0)) := (hb11.block _ (Array.getElem?_eq_some_iff.1 G10.out).1).trans G10.out
    have G11 := hidC qG
    have B11 : Hid (Below w.heap.size w w11) := blCn B10.out hb11 B10.out.size
    clear hb11 qR qE qG
    obtain ⟨w12, hW12⟩ : ∃ w12, w12 = w11.alloc (.cells #[.int .i64 x, .int .i64 y, .int .i64 z, .int .i64 n, .slice none 0 0, .slice none 0 0] 48) := ⟨_, rfl⟩
    have qE : w12.heap[w2.heap.size]? = some (.cells #[.int .i64 x, .int .i64 y, .int .i64 z, .int .i64 n, .slice none 0 0, .slice none 0 0] 48 (0, 0)) := by rw [hW12, Below.heap_alloc _ _ _ (Array.getElem?_eq_some_iff.1 E11.out).1]; exact E11.out
    have E12 := hidC qE
    have qG : w12.heap[w5.heap.size]? = some (.cells #[.int .i64 x, .int .i64 y, .int .i64 z, .int .i64 n, .slice none 0 0, .slice none 0 0] 48 (0, 0)) := by rw [hW12, Below.heap_alloc _ _ _ (Array.getElem?_eq_some_iff.1 G11.out).1]; exact G11.out
    have G12 := hidC qG
    have qK : w12.heap[w11.heap.size]? = some (.cells #[.int .i64 x, .int .i64 y, .int .i64 z, .int .i64 n, .slice none 0 0, .slice none 0 0] 48 (0, 0)) := by rw [hW12]; exact heap_alloc_new w11 _
    have K12 := hidC qK
    have qb : Below w.heap.size w w12 := by rw [hW12]; exact B11.out.alloc B11.out.size _
    have B12 := hidC qb
    clear qb qE qG qK
    go_wp2_with (first | (rw [← hW12]; (first | (refine wpList_load_row rfl 48 _ rfl (w11.heap.size) rfl 48 #[.int .i64 x, .int .i64 y, .int .i64 z, .int .i64 n, .slice none 0 0, .slice none 0 0] (0, 0) _ K12.out Try.underlying48 rfl hiC ?_) | (refine wpList_load_row rfl 48 _ rfl (w2.heap.size) rfl 48 #[.int .i64 x, .int .i64 y, .int .i64 z, .int .i64 n, .slice none 0 0, .slice none 0 0] (0, 0) _ E12.out Try.underlying48 rfl hiC ?_))) | (first | (refine wpList_load_row rfl 48 _ rfl (w11.heap.size) rfl 48 #[.int .i64 x, .int .i64 y, .int .i64 z, .int .i64 n, .slice none 0 0, .slice none 0 0] (0, 0) _ K12.out Try.underlying48 rfl hiC ?_) | (refine wpList_load_row rfl 48 _ rfl (w2.heap.size) rfl 48 #[.int .i64 x, .int .i64 y, .int .i64 z, .int .i64 n, .slice none 0 0, .slice none 0 0] (0, 0) _ E12.out Try.underlying48 rfl hiC ?_)))
    refine (HE.out _).mono ?_
    rintro e w13 ⟨rfl, hb13⟩
    try rw [← hW12] at hb13
    clear hW12
    have qG : w13.heap[w5.heap.size]? = some (.cells #[.int .i64 x, .int .i64 y, .int .i64 z, .int .i64 n, .slice none 0 0, .slice none 0 0] 48 (0, 0)) := (hb13.block _ (Array.getElem?_eq_some_iff.1 G12.out).1).trans G12.out
    have G13 := hidC qG
    have B13 : Hid (Below w.heap.size w w13) := blCn B12.out hb13 B12.out.size
    clear hb13 qG
    go_wp2_with (first | (refine wpList_load_row rfl 48 _ rfl (w5.heap.size) rfl 48 #[.int .i64 x, .int .i64 y, .int .i64 z, .int .i64 n, .slice none 0 0, .slice none 0 0] (0, 0) _ G13.out Try.underlying48 rfl hiC ?_))
    refine (HH.out _).mono ?_
    rintro e w14 ⟨rfl, hb14⟩
    have qG : w14.heap[w5.heap.size]? = some (.cells #[.int .i64 x, .int .i64 y, .int .i64 z, .int .i64 n, .slice none 0 0, .slice none 0 0] 48 (0, 0)) := (hb14.block _ (Array.getElem?_eq_some_iff.1 G13.out).1).trans G13.out
    have G14 := hidC qG
    have B14 : Hid (Below w.heap.size w w14) := blCn B13.out hb14 B13.out.size
    clear hb14 qG
    go_wp2_with fail
    go_ret
    exact ⟨rfl, B14.out⟩
theorem walk (l b m : Int) (w : World) :
    Calls Try.prog 8 #[shpV l b m] w fun e w' => e = .returned (.bool true) ∧ Below w.heap.size w w' := by
  by_cases hp : shpP l b m
  · exact walkOf l b m l b m 1 true w (fun w => cnew_spec l b m w true (fun w => sshp_yes l b m w hp)) (fun w => cnew_impl l b m w true (fun w => shp_yes l b m w hp))
  · exact walkOf l b m 0 0 0 0 false w (fun w => cnew_spec l b m w false (fun w => sshp_no l b m w hp)) (fun w => cnew_impl l b m w false (fun w => shp_no l b m w hp))
theorem array3x {α : Type} {cs : Array α} (h : cs.size = 3) : ∃ c0 c1 c2, cs = #[c0, c1, c2] := by
  obtain ⟨l⟩ := cs
  match l, h with
  | [c0, c1, c2], _ => exact ⟨c0, c1, c2, rfl⟩
set_option maxRecDepth 100000 in
theorem read3 {H : Type} {enc : TypeId × Value → H} {W : World} {v : Value} {d : DataW H} {ps : List MemPlace} (h0 : DataW.Trod enc Try.prog W 0 (fun _ => true) true 43 v d ps) (ho : Value.okWide Try.prog W .any 0 43 v) :
    ∃ l b m : Int, v = shpV l b m := by
  obtain ⟨cs, rfl, hsz⟩ := okWide_struct Try.underlying43 ho
  have hsz3 : cs.size = 3 := hsz.trans (by kernel_rfl)
  obtain ⟨c0, c1, c2, rfl⟩ := array3x hsz3
  obtain ⟨fuel, hf⟩ := h0
  obtain ⟨y0, y1, y2, n, _, _, t0, t1, t2⟩ := Go.Deep.trod_struct3 Try.underlying43 hf
  have cI : Try.prog.cellsOf 2 = 1 := by kernel_rfl
  obtain ⟨l, e0, _⟩ := DataW.trod_int Try.underlying2 t0
  obtain ⟨b, e1, _⟩ := DataW.trod_int Try.underlying2 t1
  obtain ⟨m, e2, _⟩ := DataW.trod_int Try.underlying2 t2
  rw [cI] at e0 e1 e2
  refine ⟨l, b, m, ?_⟩
  simp [Value.cells] at e0 e1 e2
  rw [e0, e1, e2]; rfl
set_option maxRecDepth 100000 in
theorem lifted (os : Os) (started : os.Started) (H : Type) (enc : TypeId × Value → H) :
    ReturnsInHanded {} Try.checked os 8 .any (Rows.fnExactCatalogNewSpec.pre6 enc Try.prog Try.f8 Rows.fnExactCatalogNewRow.domain false) (Rows.fnExactCatalogNewSpec.post enc Try.prog Try.f8 false true false false) := by
  refine returnsInHanded_of_change (C := Try.checked) own started (by kernel_rfl) Try.func8
    (ChangeSpec.witness6 (enc := enc) (C := Try.checked) false ⟨#[], #[.agg #[.int .i64 0, .int .i64 0, .int .i64 0]], []⟩ 8 (by kernel_rfl) (by kernel_rfl) (by kernel_rfl) (by kernel_rfl)) ?_
  intro W base args ds gs before hval0 hW hcnd _
  have hval : ∀ (j : Nat) t v, Try.f8.params[j]? = some t → args[j]? = some v → Value.okWide Try.prog W .any base t v := hval0
  have hW' := hW
  obtain ⟨p, q, hA0, hV, rfl, hfz, hnd⟩ := hW
  have hA : DataW.TrodAll enc Try.prog W 0 (fun _ => true) true Try.f8.params.toList args.toList ds p := hA0
  rw [Try.params8] at hA hval
  obtain ⟨v0, vs0, d0, ds0, p0, q0, hargs, rfl, rfl, h0, r0⟩ := trodAll_cons hA
  obtain ⟨rfl, rfl, rfl⟩ := trodAll_nil r0
  obtain rfl : args = #[v0] := by cases args; simp_all
  obtain ⟨rfl, rfl⟩ := trodVars_none hV
  obtain ⟨l, b, m, rfl⟩ := read3 h0 (Value.okWide_any_base (hval 0 _ v0 rfl rfl))
  have k0 := h0
  have lt0 : ∀ x ∈ p0, x.block < W.heap.size := by obtain ⟨m, hm⟩ := k0; exact DataW.trod_lt m _ _ _ hm
  clear hA0 hval0
  refine (walk l b m W).mono fun e W' ⟨he, bel⟩ => ?_
  subst he
  exact ⟨_, rfl, _, _, _, [], _, [], hW', trodAll_mk1 (shut_bool Try.underlying4 _), (trodAll_cons_mk (Below.trod laidOut (by kernel_rfl) (of_decide_eq_true (by kernel_rfl)) k0 bel lt0) trodAll_mk0), rfl, bel.frame _, fun h => by cases h⟩

theorem over : Rows.fnExactCatalogNewRow.holds Try.pinned (OpenSpec.ofChange Rows.fnExactCatalogNewSpec) :=
  OpenClaim.holds_of_wide 8 Try.f8 rfl rfl rfl rfl rfl rfl rfl ⟨rfl, rfl, rfl, rfl, rfl⟩ rfl rfl rfl rfl rfl (by kernel_rfl) Try.func8 (by kernel_rfl)
    (of_decide_eq_true (by kernel_rfl)) (by unfold Func.isWrapper; first | (rw [if_pos (by decide +kernel)]; kernel_rfl) | (rw [if_neg (by decide +kernel)]; exact ⟨rfl, rfl⟩))
    (fun os started H enc _ => lifted os started H enc)
theorem proved : Rows.FnExactCatalogNewSaid :=
  over
#print axioms proved
end Go.Proofs.Ytpolplemjaibgaa.fnExactCatalogNew
