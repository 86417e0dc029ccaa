/-
  Ops of a disk that are marked: the law's own way.
-/
import Derived.Test.YtanlggglbpibfaaFMk
import Derived.Test.YtanlggglbpibfaaDqA
namespace Go.Proofs.Ytanlggglbpibfaa
open Go.RowKit
set_option linter.unusedVariables false
set_option linter.unusedSimpArgs false
/-- ops that bear marks from k on -/
def QmAt (w : World) (g n k : Nat) : Prop := ∀ j, j < n → w.cell? ⟨g, 4 * j, none⟩ = some (.int .i64 ((k + 4 * j : Nat) : Int)) ∧ w.cell? ⟨g, 4 * j + 1, none⟩ = some (.string (mkT (k + 4 * j + 1))) ∧ w.cell? ⟨g, 4 * j + 2, none⟩ = some (.string (mkT (k + 4 * j + 2))) ∧ w.cell? ⟨g, 4 * j + 3, none⟩ = some (.string (mkT (k + 4 * j + 3)))
theorem QmAt.below {w w' : World} {g n k B : Nat} (h : QmAt w g n k) (hb : Below B w w') (hg : g < B) : QmAt w' g n k := fun j hj =>
  ⟨(hb.cell (p := ⟨g, 4 * j, none⟩) hg).trans (h j hj).1, (hb.cell (p := ⟨g, 4 * j + 1, none⟩) hg).trans (h j hj).2.1, (hb.cell (p := ⟨g, 4 * j + 2, none⟩) hg).trans (h j hj).2.2.1, (hb.cell (p := ⟨g, 4 * j + 3, none⟩) hg).trans (h j hj).2.2.2⟩
set_option maxRecDepth 100000 in
theorem markQ_zero (a : Option Addr) (c k : Nat) (w : World) :
    Calls Try.prog 73 #[.slice a 0 c, .int .i64 (k : Int)] w fun e w' => e = .returned (.int .i64 (k : Int)) ∧ w' = w := by
  go_enter Try.func73, Try.ntmps73
  go_wp2_with fail
  refine wp_loop_rounds 1 ?_
  rw [rounds_succ]
  go_wp2_with fail
  go_ret
  exact ⟨rfl, rfl⟩
set_option maxRecDepth 100000 in
theorem heldQ_zero (a : Option Addr) (c k : Nat) (w : World) :
    Calls Try.prog 75 #[.slice a 0 c, .int .i64 (k : Int)] w fun e w' => e = .returned (.int .i64 (k : Int)) ∧ w' = w := by
  go_enter Try.func75, Try.ntmps75
  go_wp2_with fail
  refine wp_loop_rounds 1 ?_
  rw [rounds_succ]
  go_wp2_with fail
  go_ret
  exact ⟨rfl, rfl⟩
theorem put_grown {w W W2 : World} {g : Nat} (h : w.grownBy W (some g)) (hb : Below W.heap.size W W2) (o : Nat) (v : Value) : w.grownBy (W2.setCell ⟨g, o, none⟩ v) (some g) :=
  ⟨hb.os.trans h.os, hb.tape.trans h.tape, hb.output.trans h.output, by simp; exact Nat.le_trans h.size hb.size, fun k hk hne => (heap_setCell_other _ _ _ _ (fun e => hne (by rw [e]))).trans ((hb.block k (Nat.lt_of_lt_of_le hk h.size)).trans (h.block k hk hne))⟩
set_option maxRecDepth 100000 in
set_option maxHeartbeats 4000000 in
theorem markQB_any (g c n k : Nat) (cur : Array Value) (w : World) (hn : n ≤ 1048576) (h1 : 1 ≤ k) (hk : k ≤ 4300000) (hg : w.heap[g]? = some (.cells cur 36 (0, 0))) (hcs : 4 * n ≤ cur.size) :
    Calls Try.prog 73 #[.slice (some ⟨g, 0, none⟩) n c, .int .i64 (k : Int)] w fun e w' => (e = .returned (.int .i64 ((k + 4 * n : Nat) : Int)) ∧ QmAt w' g n k) ∧ w.grownBy w' (some g) := by
  have HM : Hid (∀ (k : Nat) (w : World), 1 ≤ k → k ≤ 10000000 → Calls Try.prog 97 #[.int .i64 (k : Int)] w fun e w' => e = .returned (.string (mkT k)) ∧ Below w.heap.size w w') := fun k w h1 h2 => markT_any k w h1 h2
  have HST : Hid (w.grownBy w (some g) ∧ w.heap[g]? = some (.cells cur 36 (0, 0)) ∧ 4 * n ≤ cur.size) := ⟨⟨rfl, rfl, rfl, Nat.le_refl _, fun _ _ _ => rfl⟩, hg, hcs⟩
  clear hg hcs
  go_enter Try.func73, Try.ntmps73
  go_wp2_with fail
  go_loopw [1, 5] (fun x v wr => ∃ (i : Nat) (C : Array Value), i ≤ n ∧ x = .int .i64 ((k + 4 * i : Nat) : Int) ∧ v = .int .i64 (i : Int) ∧ Hid (w.grownBy wr (some g) ∧ wr.heap[g]? = some (.cells C 36 (0, 0)) ∧ 4 * n ≤ C.size) ∧ Hid (∀ j, j < i → C[4 * j]? = some (.int .i64 ((k + 4 * j : Nat) : Int)) ∧ C[4 * j + 1]? = some (.string (mkT (k + 4 * j + 1))) ∧ C[4 * j + 2]? = some (.string (mkT (k + 4 * j + 2))) ∧ C[4 * j + 3]? = some (.string (mkT (k + 4 * j + 3))))) (fun _ v _ => n - natP v)
  case atStart => exact ⟨0, cur, by omega, rfl, rfl, HST, fun j hj => absurd hj (by omega)⟩
  case round =>
    obtain ⟨i, C, hi, rfl, rfl, HW, HC⟩ := hrel
    by_cases hlt : i < n
    · have hltI : (i : Int) < (n : Int) := by omega
      obtain ⟨q, hq⟩ : ∃ q, q = 4 * i := ⟨_, rfl⟩
      obtain ⟨k0, hk0⟩ : ∃ k0, k0 = k + 4 * i := ⟨_, rfl⟩
      obtain ⟨k1, hk1⟩ : ∃ k1, k1 = k0 + 1 := ⟨_, rfl⟩
      obtain ⟨k2, hk2⟩ : ∃ k2, k2 = k0 + 2 := ⟨_, rfl⟩
      obtain ⟨k3, hk3⟩ : ∃ k3, k3 = k0 + 3 := ⟨_, rfl⟩
      have HMK1 : Hid (∀ w, Calls Try.prog 97 #[.int .i64 (k1 : Int)] w fun e w' => e = .returned (.string (mkT k1)) ∧ Below w.heap.size w w') := fun w => HM.out k1 w (by omega) (by omega)
      have HMK2 : Hid (∀ w, Calls Try.prog 97 #[.int .i64 (k2 : Int)] w fun e w' => e = .returned (.string (mkT k2)) ∧ Below w.heap.size w w') := fun w => HM.out k2 w (by omega) (by omega)
      have HMK3 : Hid (∀ w, Calls Try.prog 97 #[.int .i64 (k3 : Int)] w fun e w' => e = .returned (.string (mkT k3)) ∧ Below w.heap.size w w') := fun w => HM.out k3 w (by omega) (by omega)
      have hsz := HW.out.2.2
      have HT : Hid (∀ j, j < i + 1 → (setDq C q (.int .i64 (k0 : Int)) (.string (mkT k1)) (.string (mkT k2)) (.string (mkT k3)))[4 * j]? = some (.int .i64 ((k + 4 * j : Nat) : Int)) ∧ (setDq C q (.int .i64 (k0 : Int)) (.string (mkT k1)) (.string (mkT k2)) (.string (mkT k3)))[4 * j + 1]? = some (.string (mkT (k + 4 * j + 1))) ∧ (setDq C q (.int .i64 (k0 : Int)) (.string (mkT k1)) (.string (mkT k2)) (.string (mkT k3)))[4 * j + 2]? = some (.string (mkT (k + 4 * j + 2))) ∧ (setDq C q (.int .i64 (k0 : Int)) (.string (mkT k1)) (.string (mkT k2)) (.string (mkT k3)))[4 * j + 3]? = some (.string (mkT (k + 4 * j + 3)))) := fun j hj => by
        by_cases hji : j < i
        · rw [setDq_low _ _ _ _ _ _ _ (by omega), setDq_low _ _ _ _ _ _ _ (by omega), setDq_low _ _ _ _ _ _ _ (by omega), setDq_low _ _ _ _ _ _ _ (by omega)]
          exact HC.out j hji
        · obtain rfl : j = i := by omega
          rw [← hq, setDq_0 _ _ _ _ _ _ (by omega), setDq_1 _ _ _ _ _ _ (by omega), setDq_2 _ _ _ _ _ _ (by omega), setDq_3 _ _ _ _ _ _ (by omega)]
          have e1 : k + q = k0 := by omega
          rw [e1, ← hk1, ← hk2, ← hk3]
          exact ⟨rfl, rfl, rfl, rfl⟩
      have ei : ((k + 4 * i : Nat) : Int) = (k0 : Int) := by omega
      have ek1 : (k0 : Int) + 1 = (k1 : Int) := by omega
      have ek2 : (k1 : Int) + 1 = (k2 : Int) := by omega
      have ek3 : (k2 : Int) + 1 = (k3 : Int) := by omega
      have hiq : i * 4 = q := by omega
      have hk0l : k0 ≤ 8600000 := by omega
      have hk1l : k1 ≤ 8600001 := by omega
      have hk2l : k2 ≤ 8600002 := by omega
      have hk3l : k3 ≤ 8600003 := by omega
      have hqs : q + 3 < C.size := by omega
      have HQS := hidK hqs
      have HK : Hid (k0 = k + 4 * i ∧ k3 = k0 + 3) := ⟨hk0, hk3⟩
      have HSZ := hidK hsz
      generalize hT1 : mkT k1 = T1 at *
      generalize hT2 : mkT k2 = T2 at *
      generalize hT3 : mkT k3 = T3 at *
      rw [ei]
      clear hq hk0 hk1 hk2 hk3 ei hT1 hT2 hT3 hsz
      have hrow := HW.out.2.1
      have x0 : wr.cell? ⟨g, q, none⟩ = some C[q] := (cell_of_row wr _ q _ _ _ hrow).trans (Array.getElem?_eq_getElem (by omega))
      have z0 := frozen_of_row wr _ q _ _ hrow
      have HRA : Hid ((wr.setCell ⟨g, q, none⟩ (.int .i64 (k0 : Int))).heap[g]? = some (.cells (C.setIfInBounds q (.int .i64 (k0 : Int))) 36 (0, 0))) := heap_setCell_same _ _ _ _ _ _ hrow
      have HGA : Hid (w.grownBy (wr.setCell ⟨g, q, none⟩ (.int .i64 (k0 : Int))) (some g)) := put_grown HW.out.1 (Below.refl _ _) _ _
      generalize C[q] = y0 at x0
      clear hrow HW
      go_wp2_with fail
      refine (HMK1.out _).mono ?_
      rintro e w2 ⟨rfl, hb2⟩
      have hrow2 := (hb2.block g (row_ltFm HRA.out)).trans HRA.out
      have x1 : w2.cell? ⟨g, q + 1, none⟩ = some C[q + 1] := by
        rw [cell_of_row w2 _ (q + 1) _ _ _ hrow2, Array.getElem?_setIfInBounds_ne (by omega)]
        exact Array.getElem?_eq_getElem (by omega)
      have z1 := frozen_of_row w2 _ (q + 1) _ _ hrow2
      have HRB : Hid ((w2.setCell ⟨g, q + 1, none⟩ (.string T1)).heap[g]? = some (.cells ((C.setIfInBounds q (.int .i64 (k0 : Int))).setIfInBounds (q + 1) (.string T1)) 36 (0, 0))) := heap_setCell_same _ _ _ _ _ _ hrow2
      have HGB : Hid (w.grownBy (w2.setCell ⟨g, q + 1, none⟩ (.string T1)) (some g)) := put_grown HGA.out hb2 _ _
      generalize C[q + 1] = y1 at x1
      clear hrow2 hb2 HRA HGA x0 z0
      go_wp2_with fail
      refine (HMK2.out _).mono ?_
      rintro e w3 ⟨rfl, hb3⟩
      have hrow3 := (hb3.block g (row_ltFm HRB.out)).trans HRB.out
      have x2 : w3.cell? ⟨g, q + 2, none⟩ = some C[q + 2] := by
        rw [cell_of_row w3 _ (q + 2) _ _ _ hrow3, Array.getElem?_setIfInBounds_ne (by omega), Array.getElem?_setIfInBounds_ne (by omega)]
        exact Array.getElem?_eq_getElem (by omega)
      have z2 := frozen_of_row w3 _ (q + 2) _ _ hrow3
      have HRC : Hid ((w3.setCell ⟨g, q + 2, none⟩ (.string T2)).heap[g]? = some (.cells (((C.setIfInBounds q (.int .i64 (k0 : Int))).setIfInBounds (q + 1) (.string T1)).setIfInBounds (q + 2) (.string T2)) 36 (0, 0))) := heap_setCell_same _ _ _ _ _ _ hrow3
      have HGC : Hid (w.grownBy (w3.setCell ⟨g, q + 2, none⟩ (.string T2)) (some g)) := put_grown HGB.out hb3 _ _
      generalize C[q + 2] = y2 at x2
      clear hrow3 hb3 HRB HGB x1 z1
      go_wp2_with fail
      refine (HMK3.out _).mono ?_
      rintro e w4 ⟨rfl, hb4⟩
      have hrow4 := (hb4.block g (row_ltFm HRC.out)).trans HRC.out
      have x3 : w4.cell? ⟨g, q + 3, none⟩ = some C[q + 3] := by
        rw [cell_of_row w4 _ (q + 3) _ _ _ hrow4, Array.getElem?_setIfInBounds_ne (by omega), Array.getElem?_setIfInBounds_ne (by omega), Array.getElem?_setIfInBounds_ne (by omega)]
        exact Array.getElem?_eq_getElem (by omega)
      have z3 := frozen_of_row w4 _ (q + 3) _ _ hrow4
      have HN : Hid (w.grownBy (w4.setCell ⟨g, q + 3, none⟩ (.string T3)) (some g) ∧ (w4.setCell ⟨g, q + 3, none⟩ (.string T3)).heap[g]? = some (.cells (setDq C q (.int .i64 (k0 : Int)) (.string T1) (.string T2) (.string T3)) 36 (0, 0)) ∧ 4 * n ≤ (setDq C q (.int .i64 (k0 : Int)) (.string T1) (.string T2) (.string T3)).size) :=
        ⟨put_grown HGC.out hb4 _ _, heap_setCell_same _ _ _ _ _ _ hrow4, by rw [setDq_size]; exact HSZ.out⟩
      generalize C[q + 3] = y3 at x3
      clear hrow4 hb4 HRC HGC x2 z2
      go_wp2_with fail
      go_roundw
      case rel => exact ⟨i + 1, _, by omega, by have := HK.out; show Value.int .i64 _ = Value.int .i64 _; congr 1; omega, by go_num, HN, HT⟩
      case measure => simp [natP]; omega
    · obtain rfl : i = n := by omega
      go_wp2_with fail
      go_ret
      exact ⟨⟨rfl, fun j hj => ⟨(cell_of_row wr _ _ _ _ _ HW.out.2.1).trans (HC.out j hj).1, (cell_of_row wr _ _ _ _ _ HW.out.2.1).trans (HC.out j hj).2.1, (cell_of_row wr _ _ _ _ _ HW.out.2.1).trans (HC.out j hj).2.2.1, (cell_of_row wr _ _ _ _ _ HW.out.2.1).trans (HC.out j hj).2.2.2⟩⟩, HW.out.1⟩
end Go.Proofs.Ytanlggglbpibfaa
