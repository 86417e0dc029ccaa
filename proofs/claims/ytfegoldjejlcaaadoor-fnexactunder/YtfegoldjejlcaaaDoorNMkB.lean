/-
  Nodes that are marked, however many a law takes.
-/
import Derived.Test.YtfegoldjejlcaaaDoorNMk
namespace Go.Proofs.YtfegoldjejlcaaaDoor
open Go.RowKit
set_option linter.unusedVariables false
set_option linter.unusedSimpArgs false
set_option maxRecDepth 100000 in
set_option maxHeartbeats 4000000 in
theorem markNB_any (g c n k : Nat) (cur : Array Value) (w : World) (hn : n ≤ 1048576) (h1 : 1 ≤ k) (hk : k ≤ 4300000) (hg : w.heap[g]? = some (.cells cur 30 (0, 0))) (hcs : 4 * n ≤ cur.size) :
    Calls Tryd.prog 30 #[.slice (some ⟨g, 0, none⟩) n c, .int .i64 (k : Int)] w fun e w' => (e = .returned (.int .i64 ((k + 4 * n : Nat) : Int)) ∧ MnAt w' g n k) ∧ w.grownBy w' (some g) := by
  have HM : Hid (∀ (k : Nat) (w : World), 1 ≤ k → k ≤ 10000000 → Calls Tryd.prog 70 #[.int .i64 (k : Int)] w fun e w' => e = .returned (.string (mkT k)) ∧ Below w.heap.size w w') := fun k w h1 h2 => markT_any k w h1 h2
  have HST : Hid (w.grownBy w (some g) ∧ w.heap[g]? = some (.cells cur 30 (0, 0)) ∧ 4 * n ≤ cur.size) := ⟨⟨rfl, rfl, rfl, Nat.le_refl _, fun _ _ _ => rfl⟩, hg, hcs⟩
  clear hg hcs
  go_enter Tryd.func30, Tryd.ntmps30
  go_wp2_with fail
  go_loopw [1, 5] (fun x v wr => ∃ (i : Nat) (C : Array Value), i ≤ n ∧ x = .int .i64 ((k + 4 * i : Nat) : Int) ∧ v = .int .i64 (i : Int) ∧ Hid (w.grownBy wr (some g) ∧ wr.heap[g]? = some (.cells C 30 (0, 0)) ∧ 4 * n ≤ C.size) ∧ Hid (∀ j, j < i → C[4 * j]? = some (.string (mkT (k + 4 * j))) ∧ C[4 * j + 1]? = some (.bool (mkB (k + 4 * j + 1))) ∧ C[4 * j + 2]? = some (.int .i64 ((k + 4 * j + 2 : Nat) : Int)) ∧ C[4 * j + 3]? = some (.string (mkT (k + 4 * j + 3))))) (fun _ v _ => n - natP v)
  case atStart => exact ⟨0, cur, by omega, rfl, rfl, HST, fun j hj => absurd hj (by omega)⟩
  case round =>
    obtain ⟨i, C, hi, rfl, rfl, HW, HC⟩ := hrel
    by_cases hlt : i < n
    · have hltI : (i : Int) < (n : Int) := by omega
      obtain ⟨q, hq⟩ : ∃ q, q = 4 * i := ⟨_, rfl⟩
      obtain ⟨k0, hk0⟩ : ∃ k0, k0 = k + 4 * i := ⟨_, rfl⟩
      obtain ⟨k3, hk3⟩ : ∃ k3, k3 = k0 + 3 := ⟨_, rfl⟩
      obtain ⟨z, hz⟩ : ∃ z, z = (k0 + 1) % 3 := ⟨_, rfl⟩
      have htm : Int.tmod ((k0 : Int) + 1) 3 = (z : Int) := by rw [Int.tmod_eq_emod_of_nonneg (by omega)]; omega
      obtain ⟨b, hzb⟩ : ∃ b, ((z : Int) == 0) = b := ⟨_, rfl⟩
      have HB1 : Hid (mkB (k0 + 1) = b) := by
        show mkB (k0 + 1) = _
        unfold mkB
        rw [← hz, ← hzb]
        by_cases h : z = 0
        · subst h; rfl
        · rw [decide_eq_false h]; exact (beq_eq_false_iff_ne.2 (by omega)).symm
      have HMK0 : Hid (∀ w, Calls Tryd.prog 70 #[.int .i64 (k0 : Int)] w fun e w' => e = .returned (.string (mkT k0)) ∧ Below w.heap.size w w') := fun w => HM.out k0 w (by omega) (by omega)
      have HMK3 : Hid (∀ w, Calls Tryd.prog 70 #[.int .i64 (k3 : Int)] w fun e w' => e = .returned (.string (mkT k3)) ∧ Below w.heap.size w w') := fun w => HM.out k3 w (by omega) (by omega)
      have hsz := HW.out.2.2
      have HT : Hid (∀ j, j < i + 1 → (setNd C q (.string (mkT k0)) (.bool (b)) (.int .i64 ((k0 : Int) + 1 + 1)) (.string (mkT k3)))[4 * j]? = some (.string (mkT (k + 4 * j))) ∧ (setNd C q (.string (mkT k0)) (.bool (b)) (.int .i64 ((k0 : Int) + 1 + 1)) (.string (mkT k3)))[4 * j + 1]? = some (.bool (mkB (k + 4 * j + 1))) ∧ (setNd C q (.string (mkT k0)) (.bool (b)) (.int .i64 ((k0 : Int) + 1 + 1)) (.string (mkT k3)))[4 * j + 2]? = some (.int .i64 ((k + 4 * j + 2 : Nat) : Int)) ∧ (setNd C q (.string (mkT k0)) (.bool (b)) (.int .i64 ((k0 : Int) + 1 + 1)) (.string (mkT k3)))[4 * j + 3]? = some (.string (mkT (k + 4 * j + 3)))) := fun j hj => by
        by_cases hji : j < i
        · rw [setNd_low _ _ _ _ _ _ _ (by omega), setNd_low _ _ _ _ _ _ _ (by omega), setNd_low _ _ _ _ _ _ _ (by omega), setNd_low _ _ _ _ _ _ _ (by omega)]
          exact HC.out j hji
        · obtain rfl : j = i := by omega
          rw [← hq, setNd_0 _ _ _ _ _ _ (by omega), setNd_1 _ _ _ _ _ _ (by omega), setNd_2 _ _ _ _ _ _ (by omega), setNd_3 _ _ _ _ _ _ (by omega)]
          have e1 : k + q = k0 := by omega
          rw [e1, ← hk3, HB1.out]
          exact ⟨rfl, rfl, by congr 2, rfl⟩
      have ei : ((k + 4 * i : Nat) : Int) = (k0 : Int) := by omega
      have ek3 : (k0 : Int) + 1 + 1 + 1 = (k3 : Int) := by omega
      have hiq : i * 4 = q := by omega
      have hk0l : k0 ≤ 8600000 := by omega
      have hk3l : k3 ≤ 8600003 := by omega
      have hqs : q + 3 < C.size := by omega
      have HK : Hid (k0 = k + 4 * i ∧ k3 = k0 + 3) := ⟨hk0, hk3⟩
      have HSZ := hidK hsz
      generalize hT0 : mkT k0 = T0 at *
      generalize hT3 : mkT k3 = T3 at *
      rw [ei]
      clear hq hk0 hk3 ei hT0 hT3 hz HB1 hsz
      go_wp2_with fail
      refine (HMK0.out _).mono ?_
      rintro e w2 ⟨rfl, hb2⟩
      have hrow := (hb2.block g (row_ltM HW.out.2.1)).trans HW.out.2.1
      have x0 : w2.cell? ⟨g, q, none⟩ = some C[q] := (cell_of_row w2 _ q _ _ _ hrow).trans (Array.getElem?_eq_getElem (by omega))
      have x1 : w2.cell? ⟨g, q + 1, none⟩ = some C[q + 1] := (cell_of_row w2 _ (q + 1) _ _ _ hrow).trans (Array.getElem?_eq_getElem (by omega))
      have x2 : w2.cell? ⟨g, q + 2, none⟩ = some C[q + 2] := (cell_of_row w2 _ (q + 2) _ _ _ hrow).trans (Array.getElem?_eq_getElem (by omega))
      have z0 := frozen_of_row w2 _ q _ _ hrow
      have z1 := frozen_of_row w2 _ (q + 1) _ _ hrow
      have z2 := frozen_of_row w2 _ (q + 2) _ _ hrow
      have hr2 : (((w2.setCell ⟨g, q, none⟩ (.string T0)).setCell ⟨g, q + 1, none⟩ (.bool (b))).setCell ⟨g, q + 2, none⟩ (.int .i64 ((k0 : Int) + 1 + 1))).heap[g]? = some (.cells (((C.setIfInBounds q (.string T0)).setIfInBounds (q + 1) (.bool (b))).setIfInBounds (q + 2) (.int .i64 ((k0 : Int) + 1 + 1))) 30 (0, 0)) := heap_setCell_same _ _ _ _ _ _ (heap_setCell_same _ _ _ _ _ _ (heap_setCell_same _ _ _ _ _ _ hrow))
      have hg2 : w.grownBy (((w2.setCell ⟨g, q, none⟩ (.string T0)).setCell ⟨g, q + 1, none⟩ (.bool (b))).setCell ⟨g, q + 2, none⟩ (.int .i64 ((k0 : Int) + 1 + 1))) (some g) := by
        have hg := HW.out.1
        exact ⟨hb2.os.trans hg.os, hb2.tape.trans hg.tape, hb2.output.trans hg.output, by simp; exact Nat.le_trans hg.size hb2.size, fun k hk hne => (heap_setCell_other _ _ _ _ (fun e => hne (by rw [e]))).trans ((heap_setCell_other _ _ _ _ (fun e => hne (by rw [e]))).trans ((heap_setCell_other _ _ _ _ (fun e => hne (by rw [e]))).trans ((hb2.block k (Nat.lt_of_lt_of_le hk hg.size)).trans (hg.block k hk hne))))⟩
      have HR2 : Hid _ := hr2
      have HG2 : Hid _ := hg2
      generalize C[q] = y0 at x0
      generalize C[q + 1] = y1 at x1
      generalize C[q + 2] = y2 at x2
      clear hrow hr2 hg2 HW hb2
      go_wp2_with fail
      refine (HMK3.out _).mono ?_
      rintro e w3 ⟨rfl, hb3⟩
      have hrow3 := (hb3.block g (row_ltM HR2.out)).trans HR2.out
      have x3 : w3.cell? ⟨g, q + 3, none⟩ = some C[q + 3] := by
        rw [cell_of_row w3 _ (q + 3) _ _ _ hrow3, Array.getElem?_setIfInBounds_ne (by omega), Array.getElem?_setIfInBounds_ne (by omega), Array.getElem?_setIfInBounds_ne (by omega)]
        exact Array.getElem?_eq_getElem (by omega)
      have z3 := frozen_of_row w3 _ (q + 3) _ _ hrow3
      have HN : Hid (w.grownBy (w3.setCell ⟨g, q + 3, none⟩ (.string T3)) (some g) ∧ (w3.setCell ⟨g, q + 3, none⟩ (.string T3)).heap[g]? = some (.cells (setNd C q (.string T0) (.bool (b)) (.int .i64 ((k0 : Int) + 1 + 1)) (.string T3)) 30 (0, 0)) ∧ 4 * n ≤ (setNd C q (.string T0) (.bool (b)) (.int .i64 ((k0 : Int) + 1 + 1)) (.string T3)).size) := by
        refine ⟨?_, heap_setCell_same _ _ _ _ _ _ hrow3, by rw [setNd_size]; exact HSZ.out⟩
        have hg := HG2.out
        exact ⟨hb3.os.trans hg.os, hb3.tape.trans hg.tape, hb3.output.trans hg.output, by simp; exact Nat.le_trans hg.size hb3.size, fun k hk hne => (heap_setCell_other _ _ _ _ (fun e => hne (by rw [e]))).trans ((hb3.block k (Nat.lt_of_lt_of_le hk hg.size)).trans (hg.block k hk hne))⟩
      generalize C[q + 3] = y3 at x3
      clear hrow3 hb3 HR2 HG2 x0 x1 x2 z0 z1 z2
      go_wp2_with fail
      go_roundw
      case rel => exact ⟨i + 1, _, by omega, by have := HK.out; show Value.int .i64 _ = Value.int .i64 _; congr 1; omega, by go_num, HN, HT⟩
      case measure => simp [natP]; omega
    · obtain rfl : i = n := by omega
      go_wp2_with fail
      go_ret
      exact ⟨⟨rfl, fun j hj => ⟨(cell_of_row wr _ _ _ _ _ HW.out.2.1).trans (HC.out j hj).1, (cell_of_row wr _ _ _ _ _ HW.out.2.1).trans (HC.out j hj).2.1, (cell_of_row wr _ _ _ _ _ HW.out.2.1).trans (HC.out j hj).2.2.1, (cell_of_row wr _ _ _ _ _ HW.out.2.1).trans (HC.out j hj).2.2.2⟩⟩, HW.out.1⟩
end Go.Proofs.YtfegoldjejlcaaaDoor
