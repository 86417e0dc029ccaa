/-
  Choices that are marked, and whether they are held: the law's own ways.
-/
import Derived.Test.YtmckchklebohmanChE
import Derived.Laws.Rows
namespace Go.Proofs.Ytmckchklebohman
open Go.RowKit
set_option linter.unusedVariables false
set_option linter.unusedSimpArgs false
/-- only block g has turned -/
structure OnlyB (g : Nat) (w w' : World) : Prop where
  os : w'.os = w.os
  tape : w'.tape = w.tape
  output : w'.output = w.output
  size : w'.heap.size = w.heap.size
  block : ∀ k, k ≠ g → w'.heap[k]? = w.heap[k]?
theorem OnlyB.refl (g : Nat) (w : World) : OnlyB g w w := ⟨rfl, rfl, rfl, rfl, fun _ _ => rfl⟩
theorem OnlyB.set {g : Nat} {w w' : World} (h : OnlyB g w w') (t : Nat) (v : Value) : OnlyB g w (w'.setCell ⟨g, t, none⟩ v) :=
  ⟨h.os, h.tape, h.output, by simpa using h.size, fun k hk => (heap_setCell_other w' ⟨g, t, none⟩ k v (by show k ≠ g; exact hk)).trans (h.block k hk)⟩
theorem OnlyB.below {g B : Nat} {w w' : World} (h : OnlyB g w w') (hB : B ≤ g) : Below B w w' := ⟨h.os, h.tape, h.output, Nat.le_of_eq h.size.symm, fun k hk => h.block k (by omega)⟩
set_option maxRecDepth 100000 in
theorem markCS_zero (a : Option Addr) (c : Nat) (w : World) :
    Calls Try.prog 21 #[.slice a 0 c, .int .i64 1] w fun e w' => e = .returned (.int .i64 1) ∧ w' = w := by
  go_enter Try.func21, Try.ntmps21
  go_wp2_with fail
  refine wp_loop_rounds 1 ?_
  rw [rounds_succ]
  go_wp2_with fail
  go_ret
  exact ⟨rfl, rfl⟩
set_option maxRecDepth 100000 in
theorem heldCS_zero (a : Option Addr) (c : Nat) (w : World) :
    Calls Try.prog 22 #[.slice a 0 c, .int .i64 1] w fun e w' => e = .returned (.int .i64 1) ∧ w' = w := by
  go_enter Try.func22, Try.ntmps22
  go_wp2_with fail
  refine wp_loop_rounds 1 ?_
  rw [rounds_succ]
  go_wp2_with fail
  go_ret
  exact ⟨rfl, rfl⟩
set_option maxRecDepth 100000 in
set_option maxHeartbeats 1000000 in
theorem heldCS_any (g c n : Nat) (w : World) (hn : n ≤ 40000) (hc : ∀ j, j < 2 * n → w.cell? ⟨g, j, none⟩ = some (.int .i64 ((j + 1 : Nat) : Int))) :
    Calls Try.prog 22 #[.slice (some ⟨g, 0, none⟩) n c, .int .i64 1] w fun e w' => e = .returned (.int .i64 ((2 * n + 1 : Nat) : Int)) ∧ w' = w := by
  have HC : Hid _ := hc
  clear hc
  go_enter Try.func22, Try.ntmps22
  go_wp2_with fail
  go_loopw [1, 5] (fun x v wr => ∃ i : Nat, i ≤ n ∧ x = .int .i64 ((2 * i + 1 : Nat) : Int) ∧ v = .int .i64 (i : Int) ∧ wr = w) (fun _ v _ => n - (cIntE v).toNat)
  case atStart => exact ⟨0, by omega, rfl, rfl, rfl⟩
  case round =>
    obtain ⟨i, hi, rfl, rfl, rfl⟩ := hrel
    by_cases hlt : i < n
    · have hltI : (i : Int) < (n : Int) := by omega
      obtain ⟨q, hq⟩ : ∃ q, q = 2 * i := ⟨_, rfl⟩
      have c0 := HC.out q (by omega)
      have c1 := HC.out (q + 1) (by omega)
      have hiq : i * 2 = q := by omega
      have hxq : ((2 * i + 1 : Nat) : Int) = ((q + 1 : Nat) : Int) := by omega
      have hql : q ≤ 80000 := by omega
      have HQ : Hid (q = 2 * i) := hq
      rw [hxq]
      clear hxq hq
      go_wp2_with fail
      go_roundw
      case rel => exact ⟨i + 1, by omega, by have := HQ.out; subst this; go_num, by go_num, by first | rfl | trivial⟩
      case measure => simp [cIntE]; omega
    · obtain rfl : i = n := by omega
      go_wp2_with fail
      go_ret
      exact ⟨rfl, rfl⟩
set_option maxRecDepth 100000 in
set_option maxHeartbeats 1000000 in
theorem markCS_any (g c n : Nat) (cur : Array Value) (w : World) (hn : n ≤ 40000) (hg : w.heap[g]? = some (.cells cur 61 (0, 0))) (hcs : 2 * n ≤ cur.size) :
    Calls Try.prog 21 #[.slice (some ⟨g, 0, none⟩) n c, .int .i64 1] w fun e w' => (e = .returned (.int .i64 ((2 * n + 1 : Nat) : Int)) ∧ ∀ j, j < 2 * n → w'.cell? ⟨g, j, none⟩ = some (.int .i64 ((j + 1 : Nat) : Int))) ∧ OnlyB g w w' := by
  have HST : Hid (OnlyB g w w ∧ w.heap[g]? = some (.cells cur 61 (0, 0)) ∧ 2 * n ≤ cur.size) := ⟨OnlyB.refl g w, hg, hcs⟩
  clear hg hcs
  go_enter Try.func21, Try.ntmps21
  go_wp2_with fail
  go_loopw [1, 5] (fun x v wr => ∃ (i : Nat) (C : Array Value), i ≤ n ∧ x = .int .i64 ((2 * i + 1 : Nat) : Int) ∧ v = .int .i64 (i : Int) ∧ Hid (OnlyB g w wr ∧ wr.heap[g]? = some (.cells C 61 (0, 0)) ∧ 2 * n ≤ C.size) ∧ Hid (∀ j, j < 2 * i → C[j]? = some (.int .i64 ((j + 1 : Nat) : Int)))) (fun _ v _ => n - (cIntE v).toNat)
  case atStart => exact ⟨0, cur, by omega, rfl, rfl, HST, fun j hj => absurd hj (by omega)⟩
  case round =>
    obtain ⟨i, C, hi, rfl, rfl, HW, HC⟩ := hrel
    by_cases hlt : i < n
    · have hltI : (i : Int) < (n : Int) := by omega
      obtain ⟨q, hq⟩ : ∃ q, q = 2 * i := ⟨_, rfl⟩
      have hsz := HW.out.2.2
      have hrow := HW.out.2.1
      have x0 : wr.cell? ⟨g, q, none⟩ = some C[q] := (cell_of_row wr _ q _ _ _ hrow).trans (Array.getElem?_eq_getElem (by omega))
      have x1 : wr.cell? ⟨g, q + 1, none⟩ = some C[q + 1] := (cell_of_row wr _ (q + 1) _ _ _ hrow).trans (Array.getElem?_eq_getElem (by omega))
      have z0 := frozen_of_row wr _ q _ _ hrow
      have z1 := frozen_of_row wr _ (q + 1) _ _ hrow
      have hiq : i * 2 = q := by omega
      have hxq : ((2 * i + 1 : Nat) : Int) = ((q + 1 : Nat) : Int) := by omega
      have hql : q ≤ 80000 := by omega
      have HQ : Hid (q = 2 * i) := hq
      rw [hxq]
      have HN : Hid (OnlyB g w ((wr.setCell ⟨g, q, none⟩ (.int .i64 ((q + 1 : Nat) : Int))).setCell ⟨g, q + 1, none⟩ (.int .i64 ((q + 2 : Nat) : Int))) ∧
          ((wr.setCell ⟨g, q, none⟩ (.int .i64 ((q + 1 : Nat) : Int))).setCell ⟨g, q + 1, none⟩ (.int .i64 ((q + 2 : Nat) : Int))).heap[g]? = some (.cells ((C.setIfInBounds q (.int .i64 ((q + 1 : Nat) : Int))).setIfInBounds (q + 1) (.int .i64 ((q + 2 : Nat) : Int))) 61 (0, 0)) ∧
          2 * n ≤ ((C.setIfInBounds q (.int .i64 ((q + 1 : Nat) : Int))).setIfInBounds (q + 1) (.int .i64 ((q + 2 : Nat) : Int))).size) :=
        ⟨(HW.out.1.set _ _).set _ _, heap_setCell_same _ _ _ _ _ _ (heap_setCell_same _ _ _ _ _ _ hrow), by simp; omega⟩
      have HC2 : Hid (∀ j, j < 2 * (i + 1) → ((C.setIfInBounds q (.int .i64 ((q + 1 : Nat) : Int))).setIfInBounds (q + 1) (.int .i64 ((q + 2 : Nat) : Int)))[j]? = some (.int .i64 ((j + 1 : Nat) : Int))) := fun j hj => by
        have h4 : j < q ∨ j = q ∨ j = q + 1 := by omega
        rcases h4 with h4 | rfl | rfl
        · rw [Array.getElem?_setIfInBounds_ne (by omega), Array.getElem?_setIfInBounds_ne (by omega)]
          exact HC.out j (by omega)
        · rw [Array.getElem?_setIfInBounds_ne (by omega), Array.getElem?_setIfInBounds_self_of_lt (by omega)]
        · rw [Array.getElem?_setIfInBounds_self_of_lt (by simp; omega)]
      generalize C[q] = y0 at x0
      generalize C[q + 1] = y1 at x1
      clear hxq hq hsz hrow
      go_wp2_with fail
      go_roundw
      case rel => exact ⟨i + 1, _, by omega, by have := HQ.out; subst this; go_num, by go_num, HN, HC2⟩
      case measure => simp [cIntE]; omega
    · obtain rfl : i = n := by omega
      go_wp2_with fail
      go_ret
      exact ⟨⟨rfl, fun j hj => (cell_of_row wr _ j _ _ _ HW.out.2.1).trans (HC.out j hj)⟩, HW.out.1⟩
end Go.Proofs.Ytmckchklebohman
