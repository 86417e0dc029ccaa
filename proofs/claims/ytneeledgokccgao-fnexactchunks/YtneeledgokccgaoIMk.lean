/-
  Lists of numbers that are held against one another, marked, and asked whether they are held: the law's own ways.
-/
import Derived.Test.YtneeledgokccgaoCutP
import Derived.BigRegion
import Derived.BigQuiet
import Derived.Laws.Rows
namespace Go.Proofs.Ytneeledgokccgao
open Go.RowKit
set_option linter.unusedVariables false
set_option linter.unusedSimpArgs false
/-- only block g has turned -/
structure OnlyI (g : Nat) (w w' : World) : Prop where
  os : w'.os = w.os
  tape : w'.tape = w.tape
  output : w'.output = w.output
  size : w'.heap.size = w.heap.size
  block : ∀ k, k ≠ g → w'.heap[k]? = w.heap[k]?
theorem OnlyI.refl (g : Nat) (w : World) : OnlyI g w w := ⟨rfl, rfl, rfl, rfl, fun _ _ => rfl⟩
theorem OnlyI.set {g : Nat} {w w' : World} (h : OnlyI g w w') (t : Nat) (v : Value) : OnlyI g w (w'.setCell ⟨g, t, none⟩ v) :=
  ⟨h.os, h.tape, h.output, by simpa using h.size, fun k hk => (heap_setCell_other w' ⟨g, t, none⟩ k v (by show k ≠ g; exact hk)).trans (h.block k hk)⟩
theorem OnlyI.below {g B : Nat} {w w' : World} (h : OnlyI g w w') (hB : B ≤ g) : Below B w w' := ⟨h.os, h.tape, h.output, Nat.le_of_eq h.size.symm, fun k hk => h.block k (by omega)⟩
set_option maxRecDepth 100000 in
theorem eqI_zero (a b : Option Addr) (c d : Nat) (w : World) :
    Calls Try.prog 11 #[.slice a 0 c, .slice b 0 d] w fun e w' => e = .returned (.bool true) ∧ Below w.heap.size w w' := by
  go_enter Try.func11, Try.ntmps11
  go_wp2_with fail
  refine wp_loop_rounds 1 ?_
  rw [rounds_succ]
  go_wp2_with fail
  go_ret
  exact ⟨rfl, Below.refl _ _⟩
set_option maxRecDepth 100000 in
theorem markI_zero (a : Option Addr) (c : Nat) (w : World) :
    Calls Try.prog 12 #[.slice a 0 c, .int .i64 1] w fun e w' => e = .returned (.int .i64 1) ∧ w' = w := by
  go_enter Try.func12, Try.ntmps12
  go_wp2_with fail
  refine wp_loop_rounds 1 ?_
  rw [rounds_succ]
  go_wp2_with fail
  go_ret
  exact ⟨rfl, rfl⟩
set_option maxRecDepth 100000 in
theorem heldI_zero (a : Option Addr) (c : Nat) (w : World) :
    Calls Try.prog 13 #[.slice a 0 c, .int .i64 1] w fun e w' => e = .returned (.int .i64 1) ∧ w' = w := by
  go_enter Try.func13, Try.ntmps13
  go_wp2_with fail
  refine wp_loop_rounds 1 ?_
  rw [rounds_succ]
  go_wp2_with fail
  go_ret
  exact ⟨rfl, rfl⟩
set_option maxRecDepth 100000 in
set_option maxHeartbeats 1000000 in
theorem heldI_any (g c n : Nat) (w : World) (hn : n ≤ 40000) (hc : ∀ j, j < n → w.cell? ⟨g, j, none⟩ = some (.int .i64 ((j + 1 : Nat) : Int))) :
    Calls Try.prog 13 #[.slice (some ⟨g, 0, none⟩) n c, .int .i64 1] w fun e w' => e = .returned (.int .i64 ((n + 1 : Nat) : Int)) ∧ w' = w := by
  have HC : Hid _ := hc
  clear hc
  go_enter Try.func13, Try.ntmps13
  go_wp2_with fail
  go_loopw [1, 5] (fun x v wr => ∃ i : Nat, i ≤ n ∧ x = .int .i64 ((i + 1 : Nat) : Int) ∧ v = .int .i64 (i : Int) ∧ wr = w) (fun _ v _ => n - natOf v)
  case atStart => exact ⟨0, by omega, rfl, rfl, rfl⟩
  case round =>
    obtain ⟨i, hi, rfl, rfl, rfl⟩ := hrel
    by_cases hlt : i < n
    · have hltI : (i : Int) < (n : Int) := by omega
      have c0 := HC.out i hlt
      go_wp2_with fail
      go_roundw
      case rel => exact ⟨i + 1, by omega, by go_num, by go_num, by first | rfl | trivial⟩
      case measure => simp [natOf]; omega
    · obtain rfl : i = n := by omega
      go_wp2_with fail
      go_ret
      exact ⟨rfl, rfl⟩
set_option maxRecDepth 100000 in
set_option maxHeartbeats 1000000 in
theorem markI_any (g c n : Nat) (cur : Array Value) (w : World) (hn : n ≤ 40000) (hg : w.heap[g]? = some (.cells cur 2 (0, 0))) (hcs : n ≤ cur.size) :
    Calls Try.prog 12 #[.slice (some ⟨g, 0, none⟩) n c, .int .i64 1] w fun e w' => (e = .returned (.int .i64 ((n + 1 : Nat) : Int)) ∧ ∀ j, j < n → w'.cell? ⟨g, j, none⟩ = some (.int .i64 ((j + 1 : Nat) : Int))) ∧ OnlyI g w w' := by
  have HST : Hid (OnlyI g w w ∧ w.heap[g]? = some (.cells cur 2 (0, 0)) ∧ n ≤ cur.size) := ⟨OnlyI.refl g w, hg, hcs⟩
  clear hg hcs
  go_enter Try.func12, Try.ntmps12
  go_wp2_with fail
  go_loopw [1, 5] (fun x v wr => ∃ (i : Nat) (C : Array Value), i ≤ n ∧ x = .int .i64 ((i + 1 : Nat) : Int) ∧ v = .int .i64 (i : Int) ∧ Hid (OnlyI g w wr ∧ wr.heap[g]? = some (.cells C 2 (0, 0)) ∧ n ≤ C.size) ∧ Hid (∀ j, j < i → C[j]? = some (.int .i64 ((j + 1 : Nat) : Int)))) (fun _ v _ => n - natOf v)
  case atStart => exact ⟨0, cur, by omega, rfl, rfl, HST, fun j hj => absurd hj (by omega)⟩
  case round =>
    obtain ⟨i, C, hi, rfl, rfl, HW, HC⟩ := hrel
    by_cases hlt : i < n
    · have hltI : (i : Int) < (n : Int) := by omega
      have hsz := HW.out.2.2
      have hrow := HW.out.2.1
      have x0 : wr.cell? ⟨g, i, none⟩ = some C[i] := (cell_of_row wr _ i _ _ _ hrow).trans (Array.getElem?_eq_getElem (by omega))
      have z0 := frozen_of_row wr _ i _ _ hrow
      have HN : Hid (OnlyI g w (wr.setCell ⟨g, i, none⟩ (.int .i64 ((i : Int) + 1))) ∧
          (wr.setCell ⟨g, i, none⟩ (.int .i64 ((i : Int) + 1))).heap[g]? = some (.cells (C.setIfInBounds i (.int .i64 ((i : Int) + 1))) 2 (0, 0)) ∧
          n ≤ (C.setIfInBounds i (.int .i64 ((i : Int) + 1))).size) :=
        ⟨HW.out.1.set _ _, heap_setCell_same _ _ _ _ _ _ hrow, by simp; omega⟩
      have HC2 : Hid (∀ j, j < i + 1 → (C.setIfInBounds i (.int .i64 ((i : Int) + 1)))[j]? = some (.int .i64 ((j + 1 : Nat) : Int))) := fun j hj => by
        have h4 : j < i ∨ j = i := by omega
        rcases h4 with h4 | rfl
        · rw [Array.getElem?_setIfInBounds_ne (by omega)]
          exact HC.out j (by omega)
        · rw [Array.getElem?_setIfInBounds_self_of_lt (by omega)]; rfl
      have hii : ((i + 1 : Nat) : Int) = (i : Int) + 1 := rfl
      rw [hii]
      generalize C[i] = y0 at x0
      clear hsz hrow hii
      go_wp2_with fail
      go_roundw
      case rel => exact ⟨i + 1, _, by omega, by go_num, by go_num, HN, HC2⟩
      case measure => simp [natOf]; omega
    · obtain rfl : i = n := by omega
      go_wp2_with fail
      go_ret
      exact ⟨⟨rfl, fun j hj => (cell_of_row wr _ j _ _ _ HW.out.2.1).trans (HC.out j hj)⟩, HW.out.1⟩
set_option maxRecDepth 100000 in
set_option maxHeartbeats 1000000 in
theorem eqI_any (g h c d n : Nat) (xs : List Nat) (w : World) (hn : n ≤ 40000) (hx : xs.length = n)
    (hg : ∀ j v, (cutC xs)[j]? = some v → w.cell? ⟨g, j, none⟩ = some v) (hh : ∀ j v, (cutC xs)[j]? = some v → w.cell? ⟨h, j, none⟩ = some v) :
    Calls Try.prog 11 #[.slice (some ⟨g, 0, none⟩) n c, .slice (some ⟨h, 0, none⟩) n d] w fun e w' => e = .returned (.bool true) ∧ Below w.heap.size w w' := by
  have HG : Hid (∀ j, j < n → ∃ x : Nat, w.cell? ⟨g, j, none⟩ = some (.int .i64 (x : Int)) ∧ w.cell? ⟨h, j, none⟩ = some (.int .i64 (x : Int))) := fun j hj => by
    have e : (cutC xs)[j]? = some (.int .i64 ((xs[j]'(by omega) : Nat) : Int)) := by simp [cutC, hx, hj]
    exact ⟨_, hg j _ e, hh j _ e⟩
  clear hg hh hx
  go_enter Try.func11, Try.ntmps11
  go_wp2_with fail
  go_loopw [5] (fun v wr => ∃ i : Nat, i ≤ n ∧ v = .int .i64 (i : Int) ∧ Below w.heap.size w wr ∧ wr.heap = w.heap) (fun v _ => n - natOf v)
  case atStart => exact ⟨0, by omega, rfl, Below.refl _ _, rfl⟩
  case round =>
    obtain ⟨i, hi, rfl, hb, hp⟩ := hrel
    by_cases hlt : i < n
    · have hltI : (i : Int) < (n : Int) := by omega
      obtain ⟨x, x0, x1⟩ := HG.out i hlt
      have e : ∀ a, wr.cell? a = w.cell? a := fun a => by simp [World.cell?, hp]
      rw [← e] at x0 x1
      have HB : Hid (Below w.heap.size w wr ∧ wr.heap = w.heap) := ⟨hb, hp⟩
      clear e hb hp
      go_wp2_with fail
      go_region
      go_wp2_with fail
      exact ⟨⟨i + 1, by omega, by go_num, HB.out.1.drew, HB.out.2⟩, by simp [natOf]; omega⟩
    · obtain rfl : i = n := by omega
      go_wp2_with fail
      go_ret
      exact ⟨rfl, hb⟩
end Go.Proofs.Ytneeledgokccgao
