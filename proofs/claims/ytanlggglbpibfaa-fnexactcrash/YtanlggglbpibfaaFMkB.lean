/-
  Files that are marked, however many a law takes.
-/
import Derived.Test.YtanlggglbpibfaaFMk
namespace Go.Proofs.Ytanlggglbpibfaa
open Go.RowKit
set_option linter.unusedVariables false
set_option linter.unusedSimpArgs false
set_option maxRecDepth 100000 in
set_option maxHeartbeats 4000000 in
theorem markFB_any (g c n k : Nat) (cur : Array Value) (w : World) (hn : n ≤ 1048576) (h1 : 1 ≤ k) (hk : k ≤ 4300000) (hg : w.heap[g]? = some (.cells cur 88 (0, 0))) (hcs : 2 * n ≤ cur.size) :
    Calls Try.prog 72 #[.slice (some ⟨g, 0, none⟩) n c, .int .i64 (k : Int)] w fun e w' => (e = .returned (.int .i64 ((k + 2 * n : Nat) : Int)) ∧ FmAt w' g n k) ∧ w.grownBy w' (some g) := by
  have HM : Hid (∀ (k : Nat) (w : World), 1 ≤ k → k ≤ 10000000 → Calls Try.prog 97 #[.int .i64 (k : Int)] w fun e w' => e = .returned (.string (mkT k)) ∧ Below w.heap.size w w') := fun k w h1 h2 => markT_any k w h1 h2
  have HST : Hid (w.grownBy w (some g) ∧ w.heap[g]? = some (.cells cur 88 (0, 0)) ∧ 2 * n ≤ cur.size) := ⟨⟨rfl, rfl, rfl, Nat.le_refl _, fun _ _ _ => rfl⟩, hg, hcs⟩
  clear hg hcs
  go_enter Try.func72, Try.ntmps72
  go_wp2_with fail
  go_loopw [1, 5] (fun x v wr => ∃ (i : Nat) (C : Array Value), i ≤ n ∧ x = .int .i64 ((k + 2 * i : Nat) : Int) ∧ v = .int .i64 (i : Int) ∧ Hid (w.grownBy wr (some g) ∧ wr.heap[g]? = some (.cells C 88 (0, 0)) ∧ 2 * n ≤ C.size) ∧ Hid (∀ j, j < i → C[2 * j]? = some (.string (mkT (k + 2 * j))) ∧ C[2 * j + 1]? = some (.string (mkT (k + 2 * j + 1))))) (fun _ v _ => n - natP v)
  case atStart => exact ⟨0, cur, by omega, rfl, rfl, HST, fun j hj => absurd hj (by omega)⟩
  case round =>
    obtain ⟨i, C, hi, rfl, rfl, HW, HC⟩ := hrel
    by_cases hlt : i < n
    · have hltI : (i : Int) < (n : Int) := by omega
      obtain ⟨q, hq⟩ : ∃ q, q = 2 * i := ⟨_, rfl⟩
      obtain ⟨k0, hk0⟩ : ∃ k0, k0 = k + 2 * i := ⟨_, rfl⟩
      obtain ⟨k3, hk3⟩ : ∃ k3, k3 = k0 + 1 := ⟨_, rfl⟩
      have HMK0 : Hid (∀ w, Calls Try.prog 97 #[.int .i64 (k0 : Int)] w fun e w' => e = .returned (.string (mkT k0)) ∧ Below w.heap.size w w') := fun w => HM.out k0 w (by omega) (by omega)
      have HMK3 : Hid (∀ w, Calls Try.prog 97 #[.int .i64 (k3 : Int)] w fun e w' => e = .returned (.string (mkT k3)) ∧ Below w.heap.size w w') := fun w => HM.out k3 w (by omega) (by omega)
      have hsz := HW.out.2.2
      have HT : Hid (∀ j, j < i + 1 → (setFl C q (.string (mkT k0)) (.string (mkT k3)))[2 * j]? = some (.string (mkT (k + 2 * j))) ∧ (setFl C q (.string (mkT k0)) (.string (mkT k3)))[2 * j + 1]? = some (.string (mkT (k + 2 * j + 1)))) := fun j hj => by
        by_cases hji : j < i
        · rw [setFl_low _ _ _ _ _ (by omega), setFl_low _ _ _ _ _ (by omega)]
          exact HC.out j hji
        · obtain rfl : j = i := by omega
          rw [← hq, setFl_0 _ _ _ _ (by omega), setFl_1 _ _ _ _ (by omega)]
          have e1 : k + q = k0 := by omega
          rw [e1, ← hk3]
          exact ⟨rfl, rfl⟩
      have ei : ((k + 2 * i : Nat) : Int) = (k0 : Int) := by omega
      have ek3 : (k0 : Int) + 1 = (k3 : Int) := by omega
      have hiq : i * 2 = q := by omega
      have hk0l : k0 ≤ 8600000 := by omega
      have hk3l : k3 ≤ 8600003 := by omega
      have hqs : q + 1 < C.size := by omega
      have HK : Hid (k0 = k + 2 * i ∧ k3 = k0 + 1) := ⟨hk0, hk3⟩
      have HSZ := hidK hsz
      generalize hT0 : mkT k0 = T0 at *
      generalize hT3 : mkT k3 = T3 at *
      rw [ei]
      clear hq hk0 hk3 ei hT0 hT3 hsz
      go_wp2_with fail
      refine (HMK0.out _).mono ?_
      rintro e w2 ⟨rfl, hb2⟩
      have hrow := (hb2.block g (row_ltFm HW.out.2.1)).trans HW.out.2.1
      have x0 : w2.cell? ⟨g, q, none⟩ = some C[q] := (cell_of_row w2 _ q _ _ _ hrow).trans (Array.getElem?_eq_getElem (by omega))
      have z0 := frozen_of_row w2 _ q _ _ hrow
      have hr2 : (w2.setCell ⟨g, q, none⟩ (.string T0)).heap[g]? = some (.cells (C.setIfInBounds q (.string T0)) 88 (0, 0)) := heap_setCell_same _ _ _ _ _ _ hrow
      have hg2 : w.grownBy (w2.setCell ⟨g, q, none⟩ (.string T0)) (some g) := by
        have hg := HW.out.1
        exact ⟨hb2.os.trans hg.os, hb2.tape.trans hg.tape, hb2.output.trans hg.output, by simp; exact Nat.le_trans hg.size hb2.size, fun k hk hne => (heap_setCell_other _ _ _ _ (fun e => hne (by rw [e]))).trans ((hb2.block k (Nat.lt_of_lt_of_le hk hg.size)).trans (hg.block k hk hne))⟩
      have HR2 : Hid _ := hr2
      have HG2 : Hid _ := hg2
      generalize C[q] = y0 at x0
      clear hrow hr2 hg2 HW hb2
      go_wp2_with fail
      refine (HMK3.out _).mono ?_
      rintro e w3 ⟨rfl, hb3⟩
      have hrow3 := (hb3.block g (row_ltFm HR2.out)).trans HR2.out
      have x3 : w3.cell? ⟨g, q + 1, none⟩ = some C[q + 1] := by
        rw [cell_of_row w3 _ (q + 1) _ _ _ hrow3, Array.getElem?_setIfInBounds_ne (by omega)]
        exact Array.getElem?_eq_getElem (by omega)
      have z3 := frozen_of_row w3 _ (q + 1) _ _ hrow3
      have HN : Hid (w.grownBy (w3.setCell ⟨g, q + 1, none⟩ (.string T3)) (some g) ∧ (w3.setCell ⟨g, q + 1, none⟩ (.string T3)).heap[g]? = some (.cells (setFl C q (.string T0) (.string T3)) 88 (0, 0)) ∧ 2 * n ≤ (setFl C q (.string T0) (.string T3)).size) := by
        refine ⟨?_, heap_setCell_same _ _ _ _ _ _ hrow3, by rw [setFl_size]; exact HSZ.out⟩
        have hg := HG2.out
        exact ⟨hb3.os.trans hg.os, hb3.tape.trans hg.tape, hb3.output.trans hg.output, by simp; exact Nat.le_trans hg.size hb3.size, fun k hk hne => (heap_setCell_other _ _ _ _ (fun e => hne (by rw [e]))).trans ((hb3.block k (Nat.lt_of_lt_of_le hk hg.size)).trans (hg.block k hk hne))⟩
      generalize C[q + 1] = y3 at x3
      clear hrow3 hb3 HR2 HG2 x0 z0
      go_wp2_with fail
      go_roundw
      case rel => exact ⟨i + 1, _, by omega, by have := HK.out; show Value.int .i64 _ = Value.int .i64 _; congr 1; omega, by go_num, HN, HT⟩
      case measure => simp [natP]; omega
    · obtain rfl : i = n := by omega
      go_wp2_with fail
      go_ret
      exact ⟨⟨rfl, fun j hj => ⟨(cell_of_row wr _ _ _ _ _ HW.out.2.1).trans (HC.out j hj).1, (cell_of_row wr _ _ _ _ _ HW.out.2.1).trans (HC.out j hj).2⟩⟩, HW.out.1⟩
end Go.Proofs.Ytanlggglbpibfaa
