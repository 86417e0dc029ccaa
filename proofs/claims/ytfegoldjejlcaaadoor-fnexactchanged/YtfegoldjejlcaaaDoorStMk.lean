/-
  Lists of texts that are held against one another, marked, and asked whether they are held: the law's own ways.
-/
import Derived.Test.YtfegoldjejlcaaaDoorNMk
import Derived.BigRegion
import Derived.BigQuiet
import Derived.Laws.Rows
namespace Go.Proofs.YtfegoldjejlcaaaDoor
open Go.RowKit
set_option linter.unusedVariables false
set_option linter.unusedSimpArgs false
def stC (xs : List ByteArray) : List Value := xs.map fun x => .string x
set_option maxRecDepth 100000 in
theorem eqS_zero (a b : Option Addr) (c d : Nat) (w : World) :
    Calls Tryd.prog 32 #[.slice a 0 c, .slice b 0 d] w fun e w' => e = .returned (.bool true) ∧ Below w.heap.size w w' := by
  go_enter Tryd.func32, Tryd.ntmps32
  go_wp2_with fail
  refine wp_loop_rounds 1 ?_
  rw [rounds_succ]
  go_wp2_with fail
  go_ret
  exact ⟨rfl, Below.refl _ _⟩
set_option maxRecDepth 100000 in
theorem markS_zero (a : Option Addr) (c : Nat) (w : World) :
    Calls Tryd.prog 33 #[.slice a 0 c, .int .i64 1] w fun e w' => e = .returned (.int .i64 1) ∧ w' = w := by
  go_enter Tryd.func33, Tryd.ntmps33
  go_wp2_with fail
  refine wp_loop_rounds 1 ?_
  rw [rounds_succ]
  go_wp2_with fail
  go_ret
  exact ⟨rfl, rfl⟩
set_option maxRecDepth 100000 in
theorem heldS_zero (a : Option Addr) (c : Nat) (w : World) :
    Calls Tryd.prog 34 #[.slice a 0 c, .int .i64 1] w fun e w' => e = .returned (.int .i64 1) ∧ w' = w := by
  go_enter Tryd.func34, Tryd.ntmps34
  go_wp2_with fail
  refine wp_loop_rounds 1 ?_
  rw [rounds_succ]
  go_wp2_with fail
  go_ret
  exact ⟨rfl, rfl⟩
set_option maxRecDepth 100000 in
set_option maxHeartbeats 1000000 in
theorem eqS_any (g h c d n : Nat) (xs : List ByteArray) (w : World) (hn : n ≤ 40000) (hx : xs.length = n)
    (hg : ∀ j v, (stC xs)[j]? = some v → w.cell? ⟨g, j, none⟩ = some v) (hh : ∀ j v, (stC xs)[j]? = some v → w.cell? ⟨h, j, none⟩ = some v) :
    Calls Tryd.prog 32 #[.slice (some ⟨g, 0, none⟩) n c, .slice (some ⟨h, 0, none⟩) n d] w fun e w' => e = .returned (.bool true) ∧ Below w.heap.size w w' := by
  have HG : Hid (∀ j, j < n → ∃ x : ByteArray, w.cell? ⟨g, j, none⟩ = some (.string x) ∧ w.cell? ⟨h, j, none⟩ = some (.string x)) := fun j hj => by
    have e : (stC xs)[j]? = some (.string (xs[j]'(by omega))) := by simp [stC, hx, hj]
    exact ⟨_, hg j _ e, hh j _ e⟩
  clear hg hh hx
  go_enter Tryd.func32, Tryd.ntmps32
  go_wp2_with fail
  go_loopw [5] (fun v wr => ∃ i : Nat, i ≤ n ∧ v = .int .i64 (i : Int) ∧ Below w.heap.size w wr ∧ wr.heap = w.heap) (fun v _ => n - natP v)
  case atStart => exact ⟨0, by omega, rfl, Below.refl _ _, rfl⟩
  case round =>
    obtain ⟨i, hi, rfl, hb, hp⟩ := hrel
    by_cases hlt : i < n
    · have hltI : (i : Int) < (n : Int) := by omega
      obtain ⟨x, x0, x1⟩ := HG.out i hlt
      have e : ∀ a, wr.cell? a = w.cell? a := fun a => by simp [World.cell?, hp]
      rw [← e] at x0 x1
      have HB : Hid (Below w.heap.size w wr ∧ wr.heap = w.heap) := ⟨hb, hp⟩
      clear e hb hp
      go_wp2_with fail
      go_region
      go_wp2_with fail
      exact ⟨⟨i + 1, by omega, by go_num, HB.out.1.drew, HB.out.2⟩, by simp [natP]; omega⟩
    · obtain rfl : i = n := by omega
      go_wp2_with fail
      go_ret
      exact ⟨rfl, hb⟩
set_option maxRecDepth 100000 in
set_option maxHeartbeats 1000000 in
theorem heldS_any (g c n : Nat) (w : World) (hn : n ≤ 40000) (hg : g < w.heap.size) (hc : ∀ j, j < n → w.cell? ⟨g, j, none⟩ = some (.string (mkT (j + 1)))) :
    Calls Tryd.prog 34 #[.slice (some ⟨g, 0, none⟩) n c, .int .i64 1] w fun e w' => e = .returned (.int .i64 ((n + 1 : Nat) : Int)) ∧ Below w.heap.size w w' := by
  have HC : Hid (∀ w', Below w.heap.size w w' → ∀ j, j < n → w'.cell? ⟨g, j, none⟩ = some (.string (mkT (j + 1)))) := fun w' hb j hj => (hb.cell (p := ⟨g, j, none⟩) hg).trans (hc j hj)
  have HM : Hid (∀ (k : Nat) (w : World), 1 ≤ k → k ≤ 10000000 → Calls Tryd.prog 70 #[.int .i64 (k : Int)] w fun e w' => e = .returned (.string (mkT k)) ∧ Below w.heap.size w w') := fun k w h1 h2 => markT_any k w h1 h2
  clear hc hg
  go_enter Tryd.func34, Tryd.ntmps34
  go_wp2_with fail
  go_loopw [1, 5] (fun x v wr => ∃ i : Nat, i ≤ n ∧ x = .int .i64 ((i + 1 : Nat) : Int) ∧ v = .int .i64 (i : Int) ∧ Below w.heap.size w wr) (fun _ v _ => n - natP v)
  case atStart => exact ⟨0, by omega, rfl, rfl, Below.refl _ _⟩
  case round =>
    obtain ⟨i, hi, rfl, rfl, hb⟩ := hrel
    by_cases hlt : i < n
    · have hltI : (i : Int) < (n : Int) := by omega
      obtain ⟨k, hk⟩ : ∃ k, k = i + 1 := ⟨_, rfl⟩
      have HMK : Hid (∀ w, Calls Tryd.prog 70 #[.int .i64 (k : Int)] w fun e w' => e = .returned (.string (mkT k)) ∧ Below w.heap.size w w') := fun w => HM.out k w (by omega) (by omega)
      obtain ⟨S, hSS⟩ : ∃ S : World → Prop, S = fun w' => Below w.heap.size w w' := ⟨_, rfl⟩
      have hSd : S wr.drew := by rw [hSS]; exact hb.drew
      have hx : ∀ w', S w' → w'.cell? ⟨g, i, none⟩ = some (.string (mkT k)) := fun w' hS' => by rw [hSS] at hS'; rw [hk]; exact HC.out w' hS' i hlt
      have HX : Hid _ := hx
      have HS : Hid (S = fun w' => Below w.heap.size w w') := hSS
      have HK : Hid (k = i + 1) := hk
      have hki : ((i + 1 : Nat) : Int) = (k : Int) := by omega
      have hks : k ≤ 40001 := by omega
      generalize mkT k = T at *
      rw [hki]
      clear hSS hx hk hki
      go_wp2_with fail
      refine wp_region_held (S := S) (by kernel_rfl) ?_
      change wpAnyH _ _ _ _ _ _ _ _ (World.drew _)
      refine wpAnyH_take (i := 0) (v := .slice (some ⟨g, 0, none⟩) n c) rfl (by kernel_rfl) (by kernel_rfl) (by kernel_rfl) (fun _ _ _ h => h) (Or.inl ⟨by rfl, by intro w' hS'; go_simp <;> (first | omega | (rw [IntKind.wrap_i64]; omega) | (rw [IntKind.wrap_u64]; omega) | (rw [IntKind.wrap_u32]; omega) | (rw [Int.tmod_eq_emod_of_nonneg (by omega)]))⟩) hSd ?_
      (try simp only [List.getElem_toArray, List.getElem_cons_succ, List.getElem_cons_zero, Act.put, List.setIfInBounds_toArray, List.set_cons_zero, List.set_cons_succ])
      refine wpAnyH_take (i := 1) (v := .int .i64 (i : Int)) rfl (by kernel_rfl) (by kernel_rfl) (by kernel_rfl) (fun _ _ _ h => h) (Or.inl ⟨by rfl, by intro w' hS'; go_simp <;> (first | omega | (rw [IntKind.wrap_i64]; omega) | (rw [IntKind.wrap_u64]; omega) | (rw [IntKind.wrap_u32]; omega) | (rw [Int.tmod_eq_emod_of_nonneg (by omega)]))⟩) hSd ?_
      (try simp only [List.getElem_toArray, List.getElem_cons_succ, List.getElem_cons_zero, Act.put, List.setIfInBounds_toArray, List.set_cons_zero, List.set_cons_succ])
      refine wpAnyH_take (i := 2) (v := .pointer (some ⟨g, i, none⟩)) rfl (by kernel_rfl) (by kernel_rfl) (by kernel_rfl) (fun _ _ _ h => h) (Or.inl ⟨by rfl, by intro w' hS'; go_simp <;> (first | omega | (rw [IntKind.wrap_i64]; omega) | (rw [IntKind.wrap_u64]; omega) | (rw [IntKind.wrap_u32]; omega) | (rw [Int.tmod_eq_emod_of_nonneg (by omega)]))⟩) hSd ?_
      (try simp only [List.getElem_toArray, List.getElem_cons_succ, List.getElem_cons_zero, Act.put, List.setIfInBounds_toArray, List.set_cons_zero, List.set_cons_succ])
      refine wpAnyH_take (i := 3) (v := .string T) rfl (by kernel_rfl) (by kernel_rfl) (by kernel_rfl) (fun _ _ _ h => h) (Or.inl ⟨by rfl, by intro w' hS'; have hxx := HX.out w' hS'; go_simp <;> (first | omega | (rw [IntKind.wrap_i64]; omega) | (rw [IntKind.wrap_u64]; omega) | (rw [IntKind.wrap_u32]; omega) | (rw [Int.tmod_eq_emod_of_nonneg (by omega)]))⟩) hSd ?_
      (try simp only [List.getElem_toArray, List.getElem_cons_succ, List.getElem_cons_zero, Act.put, List.setIfInBounds_toArray, List.set_cons_zero, List.set_cons_succ])
      refine wpAnyH_take (i := 4) (v := .int .i64 (k : Int)) rfl (by kernel_rfl) (by kernel_rfl) (by kernel_rfl) (fun _ _ _ h => h) (Or.inl ⟨by rfl, by intro w' hS'; go_simp <;> (first | omega | (rw [IntKind.wrap_i64]; omega) | (rw [IntKind.wrap_u64]; omega) | (rw [IntKind.wrap_u32]; omega) | (rw [Int.tmod_eq_emod_of_nonneg (by omega)]))⟩) hSd ?_
      (try simp only [List.getElem_toArray, List.getElem_cons_succ, List.getElem_cons_zero, Act.put, List.setIfInBounds_toArray, List.set_cons_zero, List.set_cons_succ])
      refine held_stepS (i := 5) (by kernel_rfl) rfl (by rfl) ?_
      go_simp
      refine (HMK.out _).mono ?_
      rintro e w3 ⟨rfl, hb3⟩
      have hb4 : Below w.heap.size w w3 := by have hx := hSd; rw [HS.out] at hx; exact ⟨hb3.os.trans hx.os, hb3.tape.trans hx.tape, hb3.output.trans hx.output, Nat.le_trans hx.size hb3.size, fun i hi => (hb3.block i (Nat.lt_of_lt_of_le hi hx.size)).trans (hx.block i hi)⟩
      have hS3 : S w3 := by rw [HS.out]; exact hb4
      refine ⟨hS3, ?_⟩
      (try simp only [List.getElem_toArray, List.getElem_cons_succ, List.getElem_cons_zero, Act.put, List.setIfInBounds_toArray, List.set_cons_zero, List.set_cons_succ])
      refine wpAnyH_take (i := 6) (v := .bool false) rfl (by kernel_rfl) (by kernel_rfl) (by kernel_rfl) (fun _ _ _ h => h) (Or.inl ⟨by rfl, by intro w' hS'; go_simp <;> (first | omega | (rw [IntKind.wrap_i64]; omega) | (rw [IntKind.wrap_u64]; omega) | (rw [IntKind.wrap_u32]; omega) | (rw [Int.tmod_eq_emod_of_nonneg (by omega)]) | rfl)⟩) hS3 ?_
      (try simp only [List.getElem_toArray, List.getElem_cons_succ, List.getElem_cons_zero, Act.put, List.setIfInBounds_toArray, List.set_cons_zero, List.set_cons_succ])
      refine wpAnyH_done (by kernel_rfl) ?_ _
      go_wp2_with fail
      go_roundw
      case rel => exact ⟨i + 1, by omega, by rw [HK.out]; go_num, by go_num, hb4⟩
      case measure => simp [natP]; omega
    · obtain rfl : i = n := by omega
      go_wp2_with fail
      go_ret
      exact ⟨rfl, hb⟩
set_option maxRecDepth 100000 in
set_option maxHeartbeats 1000000 in
theorem markS_any (g c n B : Nat) (cur : Array Value) (w : World) (hn : n ≤ 40000) (hBg : B ≤ g) (hg : w.heap[g]? = some (.cells cur 9 (0, 0))) (hcs : n ≤ cur.size) :
    Calls Tryd.prog 33 #[.slice (some ⟨g, 0, none⟩) n c, .int .i64 1] w fun e w' => (e = .returned (.int .i64 ((n + 1 : Nat) : Int)) ∧ ∀ j, j < n → w'.cell? ⟨g, j, none⟩ = some (.string (mkT (j + 1)))) ∧ w.grownBy w' (some g) := by
  have HM : Hid (∀ (k : Nat) (w : World), 1 ≤ k → k ≤ 10000000 → Calls Tryd.prog 70 #[.int .i64 (k : Int)] w fun e w' => e = .returned (.string (mkT k)) ∧ Below w.heap.size w w') := fun k w h1 h2 => markT_any k w h1 h2
  have HST : Hid (w.grownBy w (some g) ∧ w.heap[g]? = some (.cells cur 9 (0, 0)) ∧ n ≤ cur.size) := ⟨⟨rfl, rfl, rfl, Nat.le_refl _, fun _ _ _ => rfl⟩, hg, hcs⟩
  clear hg hcs
  go_enter Tryd.func33, Tryd.ntmps33
  go_wp2_with fail
  go_loopw [1, 5] (fun x v wr => ∃ (i : Nat) (C : Array Value), i ≤ n ∧ x = .int .i64 ((i + 1 : Nat) : Int) ∧ v = .int .i64 (i : Int) ∧ Hid (w.grownBy wr (some g) ∧ wr.heap[g]? = some (.cells C 9 (0, 0)) ∧ n ≤ C.size) ∧ Hid (∀ j, j < i → C[j]? = some (.string (mkT (j + 1))))) (fun _ v _ => n - natP v)
  case atStart => exact ⟨0, cur, by omega, rfl, rfl, HST, fun j hj => absurd hj (by omega)⟩
  case round =>
    obtain ⟨i, C, hi, rfl, rfl, HW, HC⟩ := hrel
    by_cases hlt : i < n
    · have hltI : (i : Int) < (n : Int) := by omega
      obtain ⟨k, hk⟩ : ∃ k, k = i + 1 := ⟨_, rfl⟩
      have HMK : Hid (∀ w, Calls Tryd.prog 70 #[.int .i64 (k : Int)] w fun e w' => e = .returned (.string (mkT k)) ∧ Below w.heap.size w w') := fun w => HM.out k w (by omega) (by omega)
      have HT : Hid (∀ j, j < i + 1 → (C.setIfInBounds i (.string (mkT k)))[j]? = some (.string (mkT (j + 1)))) := fun j hj => by
        have h4 : j < i ∨ j = i := by omega
        rcases h4 with h4 | rfl
        · rw [Array.getElem?_setIfInBounds_ne (by omega)]
          exact HC.out j (by omega)
        · rw [Array.getElem?_setIfInBounds_self_of_lt (by have := HW.out.2.2; omega), hk]
      generalize hT : mkT k = T at *
      have HK : Hid (k = i + 1) := hk
      have hki : ((i + 1 : Nat) : Int) = (k : Int) := by omega
      have hks : k ≤ 40001 := by omega
      rw [hki]
      clear hk hki hT
      go_wp2_with fail
      refine (HMK.out _).mono ?_
      rintro e w3 ⟨rfl, hb3⟩
      have hrow3 := (hb3.block g (row_ltM HW.out.2.1)).trans HW.out.2.1
      have hsz := HW.out.2.2
      have x0 : w3.cell? ⟨g, i, none⟩ = some C[i] := (cell_of_row w3 _ i _ _ _ hrow3).trans (Array.getElem?_eq_getElem (by omega))
      have z0 := frozen_of_row w3 _ i _ _ hrow3
      have HN : Hid (w.grownBy (w3.setCell ⟨g, i, none⟩ (.string T)) (some g) ∧ (w3.setCell ⟨g, i, none⟩ (.string T)).heap[g]? = some (.cells (C.setIfInBounds i (.string T)) 9 (0, 0)) ∧ n ≤ (C.setIfInBounds i (.string T)).size) := by
        refine ⟨?_, heap_setCell_same _ _ _ _ _ _ hrow3, by simp; omega⟩
        have hg := HW.out.1
        exact ⟨hb3.os.trans hg.os, hb3.tape.trans hg.tape, hb3.output.trans hg.output, by simp; exact Nat.le_trans hg.size hb3.size, fun k hk hne => (heap_setCell_other _ _ _ _ (fun e => hne (by rw [e]))).trans ((hb3.block k (Nat.lt_of_lt_of_le hk hg.size)).trans (hg.block k hk hne))⟩
      generalize C[i] = y0 at x0
      clear hrow3 hsz hb3
      go_wp2_with fail
      go_roundw
      case rel => exact ⟨i + 1, _, by omega, by rw [HK.out]; go_num, by go_num, HN, HT⟩
      case measure => simp [natP]; omega
    · obtain rfl : i = n := by omega
      go_wp2_with fail
      go_ret
      exact ⟨⟨rfl, fun j hj => (cell_of_row wr _ j _ _ _ HW.out.2.1).trans (HC.out j hj)⟩, HW.out.1⟩
end Go.Proofs.YtfegoldjejlcaaaDoor
