/-
  Pieces that are marked, with the row that they lie in.
-/
import Derived.Test.YtpeddaljgmkomaaPMk
namespace Go.Proofs.Ytpeddaljgmkomaa
open Go.RowKit
set_option linter.unusedVariables false
set_option linter.unusedSimpArgs false
set_option maxRecDepth 100000 in
set_option maxHeartbeats 2000000 in
theorem markPF (g c n k : Nat) (cur : Array Value) (w : World) (hn : n ≤ 1048576) (h1 : 1 ≤ k) (hk : k ≤ 4000000) (hg : w.heap[g]? = some (.cells cur 89 (0, 0))) (hcs : 3 * n ≤ cur.size) :
    Calls Try.prog 52 #[.slice (some ⟨g, 0, none⟩) n c, .int .i64 (k : Int)] w fun e w' => (e = .returned (.int .i64 ((k + 3 * n : Nat) : Int)) ∧ ∃ C, w'.heap[g]? = some (.cells C 89 (0, 0)) ∧ 3 * n ≤ C.size ∧ ∀ j, j < n → C[3 * j]? = some (.int .i64 ((k + 3 * j : Nat) : Int)) ∧ C[3 * j + 1]? = some (.int .i64 ((k + 3 * j + 1 : Nat) : Int)) ∧ C[3 * j + 2]? = some (.string (mkT (k + 3 * j + 2)))) ∧ w.grownBy w' (some g) := by
  have HM : Hid (∀ (k : Nat) (w : World), 1 ≤ k → k ≤ 10000000 → Calls Try.prog 51 #[.int .i64 (k : Int)] w fun e w' => e = .returned (.string (mkT k)) ∧ Below w.heap.size w w') := fun k w h1 h2 => markT_any k w h1 h2
  have HST : Hid (w.grownBy w (some g) ∧ w.heap[g]? = some (.cells cur 89 (0, 0)) ∧ 3 * n ≤ cur.size) := ⟨⟨rfl, rfl, rfl, Nat.le_refl _, fun _ _ _ => rfl⟩, hg, hcs⟩
  clear hg hcs
  go_enter Try.func52, Try.ntmps52
  go_wp2_with fail
  go_loopw [1, 5] (fun x v wr => ∃ (i : Nat) (C : Array Value), i ≤ n ∧ x = .int .i64 ((k + 3 * i : Nat) : Int) ∧ v = .int .i64 (i : Int) ∧ Hid (w.grownBy wr (some g) ∧ wr.heap[g]? = some (.cells C 89 (0, 0)) ∧ 3 * n ≤ C.size) ∧ Hid (∀ j, j < i → C[3 * j]? = some (.int .i64 ((k + 3 * j : Nat) : Int)) ∧ C[3 * j + 1]? = some (.int .i64 ((k + 3 * j + 1 : Nat) : Int)) ∧ C[3 * j + 2]? = some (.string (mkT (k + 3 * j + 2))))) (fun _ v _ => n - natP v)
  case atStart => exact ⟨0, cur, by omega, rfl, rfl, HST, fun j hj => absurd hj (by omega)⟩
  case round =>
    obtain ⟨i, C, hi, rfl, rfl, HW, HC⟩ := hrel
    by_cases hlt : i < n
    · have hltI : (i : Int) < (n : Int) := by omega
      obtain ⟨q, hq⟩ : ∃ q, q = 3 * i := ⟨_, rfl⟩
      obtain ⟨k0, hk0⟩ : ∃ k0, k0 = k + 3 * i := ⟨_, rfl⟩
      obtain ⟨k2, hk2⟩ : ∃ k2, k2 = k0 + 2 := ⟨_, rfl⟩
      have HMK : Hid (∀ w, Calls Try.prog 51 #[.int .i64 (k2 : Int)] w fun e w' => e = .returned (.string (mkT k2)) ∧ Below w.heap.size w w') := fun w => HM.out k2 w (by omega) (by omega)
      have hsz := HW.out.2.2
      have HT : Hid (∀ j, j < i + 1 → (set3 C q (.int .i64 (k0 : Int)) (.int .i64 ((k0 : Int) + 1)) (.string (mkT k2)))[3 * j]? = some (.int .i64 ((k + 3 * j : Nat) : Int)) ∧ (set3 C q (.int .i64 (k0 : Int)) (.int .i64 ((k0 : Int) + 1)) (.string (mkT k2)))[3 * j + 1]? = some (.int .i64 ((k + 3 * j + 1 : Nat) : Int)) ∧ (set3 C q (.int .i64 (k0 : Int)) (.int .i64 ((k0 : Int) + 1)) (.string (mkT k2)))[3 * j + 2]? = some (.string (mkT (k + 3 * j + 2)))) := fun j hj => by
        by_cases hji : j < i
        · rw [set3_low _ _ _ _ _ _ (by omega), set3_low _ _ _ _ _ _ (by omega), set3_low _ _ _ _ _ _ (by omega)]
          exact HC.out j hji
        · obtain rfl : j = i := by omega
          rw [← hq, set3_0 _ _ _ _ _ (by omega), set3_1 _ _ _ _ _ (by omega), set3_2 _ _ _ _ _ (by omega)]
          have e1 : k + q = k0 := by omega
          rw [e1, ← hk2]
          exact ⟨rfl, by congr 2, rfl⟩
      have ei : ((k + 3 * i : Nat) : Int) = (k0 : Int) := by omega
      have ek2 : (k0 : Int) + 1 + 1 = (k2 : Int) := by omega
      have hiq : i * 3 = q := by omega
      have hk0l : k0 ≤ 8000000 := by omega
      have hk2l : k2 ≤ 8000002 := by omega
      have hqs : q + 2 < C.size := by omega
      have HK : Hid (k0 = k + 3 * i ∧ k2 = k0 + 2) := ⟨hk0, hk2⟩
      have hrow := HW.out.2.1
      have x0 : wr.cell? ⟨g, q, none⟩ = some C[q] := (cell_of_row wr _ q _ _ _ hrow).trans (Array.getElem?_eq_getElem (by omega))
      have x1 : wr.cell? ⟨g, q + 1, none⟩ = some C[q + 1] := (cell_of_row wr _ (q + 1) _ _ _ hrow).trans (Array.getElem?_eq_getElem (by omega))
      have z0 := frozen_of_row wr _ q _ _ hrow
      have z1 := frozen_of_row wr _ (q + 1) _ _ hrow
      have hr2 : ((wr.setCell ⟨g, q, none⟩ (.int .i64 (k0 : Int))).setCell ⟨g, q + 1, none⟩ (.int .i64 ((k0 : Int) + 1))).heap[g]? = some (.cells ((C.setIfInBounds q (.int .i64 (k0 : Int))).setIfInBounds (q + 1) (.int .i64 ((k0 : Int) + 1))) 89 (0, 0)) := heap_setCell_same _ _ _ _ _ _ (heap_setCell_same _ _ _ _ _ _ hrow)
      have hg2 : w.grownBy ((wr.setCell ⟨g, q, none⟩ (.int .i64 (k0 : Int))).setCell ⟨g, q + 1, none⟩ (.int .i64 ((k0 : Int) + 1))) (some g) := by
        have hg := HW.out.1
        exact ⟨hg.os, hg.tape, hg.output, by simp; exact hg.size, fun k hk hne => (heap_setCell_other _ _ _ _ (fun e => hne (by rw [e]))).trans ((heap_setCell_other _ _ _ _ (fun e => hne (by rw [e]))).trans (hg.block k hk hne))⟩
      have HR2 : Hid _ := hr2
      have HG2 : Hid _ := hg2
      generalize hT : mkT k2 = T at *
      generalize C[q] = y0 at x0
      generalize C[q + 1] = y1 at x1
      rw [ei]
      clear hq hk0 hk2 ei hT hrow hr2 hg2 HW
      go_wp2_with fail
      refine (HMK.out _).mono ?_
      rintro e w3 ⟨rfl, hb3⟩
      have hrow3 := (hb3.block g (row_ltM HR2.out)).trans HR2.out
      have x2 : w3.cell? ⟨g, q + 2, none⟩ = some C[q + 2] := by
        rw [cell_of_row w3 _ (q + 2) _ _ _ hrow3, Array.getElem?_setIfInBounds_ne (by omega), Array.getElem?_setIfInBounds_ne (by omega)]
        exact Array.getElem?_eq_getElem (by omega)
      have z2 := frozen_of_row w3 _ (q + 2) _ _ hrow3
      have HN : Hid (w.grownBy (w3.setCell ⟨g, q + 2, none⟩ (.string T)) (some g) ∧ (w3.setCell ⟨g, q + 2, none⟩ (.string T)).heap[g]? = some (.cells (set3 C q (.int .i64 (k0 : Int)) (.int .i64 ((k0 : Int) + 1)) (.string T)) 89 (0, 0)) ∧ 3 * n ≤ (set3 C q (.int .i64 (k0 : Int)) (.int .i64 ((k0 : Int) + 1)) (.string T)).size) := by
        refine ⟨?_, heap_setCell_same _ _ _ _ _ _ hrow3, by rw [set3_size]; exact hsz⟩
        have hg := HG2.out
        exact ⟨hb3.os.trans hg.os, hb3.tape.trans hg.tape, hb3.output.trans hg.output, by simp; exact Nat.le_trans hg.size hb3.size, fun k hk hne => (heap_setCell_other _ _ _ _ (fun e => hne (by rw [e]))).trans ((hb3.block k (Nat.lt_of_lt_of_le hk hg.size)).trans (hg.block k hk hne))⟩
      generalize C[q + 2] = y2 at x2
      clear hrow3 hsz hb3 HR2 HG2 x0 x1 z0 z1
      go_wp2_with fail
      go_roundw
      case rel => exact ⟨i + 1, _, by omega, by have := HK.out; show Value.int .i64 _ = Value.int .i64 _; congr 1; omega, by go_num, HN, HT⟩
      case measure => simp [natP]; omega
    · obtain rfl : i = n := by omega
      go_wp2_with fail
      go_ret
      exact ⟨⟨rfl, C, HW.out.2.1, HW.out.2.2, HC.out⟩, HW.out.1⟩
end Go.Proofs.Ytpeddaljgmkomaa
