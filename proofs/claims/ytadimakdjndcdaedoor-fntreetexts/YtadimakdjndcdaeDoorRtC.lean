/-
  The reader of a node: the code's.
-/
import Derived.Test.YtadimakdjndcdaeDoorRtL
namespace Go.Proofs.YtadimakdjndcdaeDoor
open Go.RowKit
set_option linter.unusedVariables false
set_option linter.unusedSimpArgs false
theorem row_ltR {w : World} {g : Nat} {o : Obj} (h : w.heap[g]? = some o) : g < w.heap.size := (Array.getElem?_eq_some_iff.1 h).1
def nodV (p : NdI) (r : ByteArray) (b : Bool) : Value := .tuple #[ndVal p, .string r, .bool b]
set_option maxRecDepth 100000 in
set_option maxHeartbeats 4000000 in
theorem nodeOf_any (s : ByteArray) (w : World) (hs : s.size ≤ 1048576) :
    Calls Tryd.prog 48 #[.string s] w fun e w' => (∃ p r b, e = .returned (nodV p r b) ∧ ((b = true ∧ nodI s = some (p, r)) ∨ (b = false ∧ nodI s = none))) ∧ Below w.heap.size w w' := by
  have HD : Hid (∀ (s : ByteArray) w, s.size ≤ 1048576 → Calls Tryd.prog 74 #[.string s] w fun e w' => e = .returned (datIV (datI s)) ∧ Below w.heap.size w w') := fun s w hs => dataOf_any s w hs
  have HN : Hid (∀ (s : ByteArray) w, s.size ≤ 1048576 → Calls Tryd.prog 47 #[.string s] w fun e w' => e = .returned (numIV (numI s)) ∧ Below w.heap.size w w') := fun s w hs => numOf_any s w hs
  have HC : Hid (∀ (p : NdI) w, p.p.size ≤ 1048576 ∧ p.d.size ≤ 1048576 → Calls Tryd.prog 58 #[ndVal p] w fun e w' => e = .returned (ndVal p) ∧ Below w.heap.size w w') := fun p w h => copied_any p w h
  have HB0 : Hid (Below w.heap.size w (w.alloc (.cells #[.string ⟨#[]⟩, .bool false, .int .i64 0, .string ⟨#[]⟩] 38)) ∧ (w.alloc (.cells #[.string ⟨#[]⟩, .bool false, .int .i64 0, .string ⟨#[]⟩] 38)).heap[w.heap.size]? = some (.cells #[.string ⟨#[]⟩, .bool false, .int .i64 0, .string ⟨#[]⟩] 38 (0, 0))) := ⟨(Below.refl _ _).alloc (Nat.le_refl _) _, heap_alloc_new w _⟩
  go_enter Tryd.func48, Tryd.ntmps48
  cases hd : datI s with
  | none =>
    have HP : Hid (nodI s = none) := nodI_no1 hd
    go_wp2_with fail
    refine (HD.out s _ hs).mono ?_
    rintro e w1 ⟨rfl, hb1⟩
    have hr1 := (hb1.block _ (row_ltR HB0.out.2)).trans HB0.out.2
    have HB1 := hid (blNd HB0.out.1 hb1 HB0.out.1.size)
    rw [hd]
    clear hb1 HB0 hd
    unfold datIV
    have b0 := cell_of_row _ _ 0 _ _ _ hr1
    have b1 := cell_of_row _ _ 1 _ _ _ hr1
    have b2 := cell_of_row _ _ 2 _ _ _ hr1
    have b3 := cell_of_row _ _ 3 _ _ _ hr1
    simp only [List.getElem?_toArray, List.getElem?_cons_zero, List.getElem?_cons_succ] at b0 b1 b2 b3
    have z0 := frozen_of_row w1 (w.heap.size) 0 _ _ hr1
    have z1 := frozen_of_row w1 (w.heap.size) 1 _ _ hr1
    have z2 := frozen_of_row w1 (w.heap.size) 2 _ _ hr1
    have z3 := frozen_of_row w1 (w.heap.size) 3 _ _ hr1
    have HR := hid (box4_row hr1 (.string ⟨#[]⟩) (.bool false) (.int .i64 0) (.string ⟨#[]⟩))
    have HBF := hid (box4_below HB1.out (Nat.le_refl _) (.string ⟨#[]⟩) (.bool false) (.int .i64 0) (.string ⟨#[]⟩))
    clear hr1 HB1
    go_wp2_with fail
    refine bodyPost_ret (results_cell_2 rfl _ _ w.heap.size 38 #[.string ⟨#[]⟩, .bool false, .int .i64 0, .string ⟨#[]⟩] (0, 0) _ rfl HR.out Tryd.underlying38 rfl (by kernel_rfl)) rfl ⟨⟨nd0, ⟨#[]⟩, false, rfl, Or.inr ⟨rfl, HP.out⟩⟩, HBF.out⟩
  | some q =>
    obtain ⟨a, r0⟩ := q
    have hsz := datI_sum hd
    have HDD := hid hd
    go_wp2_with fail
    refine (HD.out s _ hs).mono ?_
    rintro e w1 ⟨rfl, hb1⟩
    have hr1 := (hb1.block _ (row_ltR HB0.out.2)).trans HB0.out.2
    have HB1 := hid (blNd HB0.out.1 hb1 HB0.out.1.size)
    have HR1 := hid hr1
    rw [hd]
    clear hb1 HB0 hd hr1
    unfold datIV
    go_wp2_with fail
    refine (HN.out r0 _ (by omega)).mono ?_
    rintro e w2 ⟨rfl, hb2⟩
    have hr2 := (hb2.block _ (row_ltR HR1.out)).trans HR1.out
    have HB2 := hid (blNd HB1.out hb2 HB1.out.size)
    have HR2 := hid hr2
    clear hb2 HB1 HR1
    cases hn : numI r0 with
    | none =>
      have HP : Hid (nodI s = none) := nodI_no2 HDD.out hn
      unfold numIV
      have b0 := cell_of_row _ _ 0 _ _ _ hr2
      have b1 := cell_of_row _ _ 1 _ _ _ hr2
      have b2 := cell_of_row _ _ 2 _ _ _ hr2
      have b3 := cell_of_row _ _ 3 _ _ _ hr2
      simp only [List.getElem?_toArray, List.getElem?_cons_zero, List.getElem?_cons_succ] at b0 b1 b2 b3
      have z0 := frozen_of_row w2 (w.heap.size) 0 _ _ hr2
      have z1 := frozen_of_row w2 (w.heap.size) 1 _ _ hr2
      have z2 := frozen_of_row w2 (w.heap.size) 2 _ _ hr2
      have z3 := frozen_of_row w2 (w.heap.size) 3 _ _ hr2
      have HR := hid (box4_row hr2 (.string ⟨#[]⟩) (.bool false) (.int .i64 0) (.string ⟨#[]⟩))
      have HBF := hid (box4_below HB2.out (Nat.le_refl _) (.string ⟨#[]⟩) (.bool false) (.int .i64 0) (.string ⟨#[]⟩))
      clear hr2 HB2 hn
      go_wp2_with fail
      refine bodyPost_ret (results_cell_2 rfl _ _ w.heap.size 38 #[.string ⟨#[]⟩, .bool false, .int .i64 0, .string ⟨#[]⟩] (0, 0) _ rfl HR.out Tryd.underlying38 rfl (by kernel_rfl)) rfl ⟨⟨nd0, ⟨#[]⟩, false, rfl, Or.inr ⟨rfl, HP.out⟩⟩, HBF.out⟩
    | some q1 =>
      obtain ⟨k, r1⟩ := q1
      have hr1s := numI_lt hn
      have hk12 := (numI_bd hn).1
      have HNN := hid hn
      have hm0 : (0 : Int) ≤ ((k / 2 : Nat) : Int) := by omega
      have hkq : Int.tdiv (k : Int) 2 = ((k / 2 : Nat) : Int) := by rw [Int.tdiv_eq_ediv_of_nonneg (by omega)]; omega
      have hkw : IntKind.i64.wrap ((k / 2 : Nat) : Int) = ((k / 2 : Nat) : Int) := by rw [IntKind.wrap_i64]; omega
      have h2s : w.heap.size + 1 ≤ w2.heap.size := row_ltR HR2.out
      obtain ⟨m, hm⟩ : ∃ m, m = k / 2 := ⟨_, rfl⟩
      by_cases hk : k % 2 = 1
      · have hkr : Int.tmod (k : Int) 2 = 1 := by rw [Int.tmod_eq_emod_of_nonneg (by omega)]; omega
        have HP : Hid (nodI s = some (⟨a, true, (m : Int), ⟨#[]⟩⟩, r1)) := by rw [hm]; exact nodI_dir HDD.out hn hk
        rw [← hm] at hkq hkw hm0
        unfold numIV
        clear hn hm hk hr2
        have hr3 := (Below.heap_alloc w2 (.cells #[.string a, .bool true, .int .i64 (m : Int), .string ⟨#[]⟩] 38) w.heap.size (by omega)).trans HR2.out
        have hx3 := heap_alloc_new w2 (.cells #[.string a, .bool true, .int .i64 (m : Int), .string ⟨#[]⟩] 38)
        have HB3 := hid (HB2.out.alloc HB2.out.size (.cells #[.string a, .bool true, .int .i64 (m : Int), .string ⟨#[]⟩] 38))
        have HR3 := hid hr3
        have c0 := cell_of_row _ _ 0 _ _ _ hx3
        have c1 := cell_of_row _ _ 1 _ _ _ hx3
        have c2 := cell_of_row _ _ 2 _ _ _ hx3
        have c3 := cell_of_row _ _ 3 _ _ _ hx3
        have HCC : Hid (∀ w, Calls Tryd.prog 58 #[.agg #[.string a, .bool true, .int .i64 (m : Int), .string ⟨#[]⟩]] w fun e w' => e = .returned (.agg #[.string a, .bool true, .int .i64 (m : Int), .string ⟨#[]⟩]) ∧ Below w.heap.size w w') := fun w => HC.out ⟨a, true, (m : Int), ⟨#[]⟩⟩ w ⟨by show a.size ≤ _; omega, Nat.zero_le _⟩
        simp only [List.getElem?_toArray, List.getElem?_cons_zero, List.getElem?_cons_succ] at c0 c1 c2 c3
        clear hr3 hx3 HB2 HR2
        go_wp2_with fail
        refine (HCC.out _).mono ?_
        rintro e w9 ⟨rfl, hb9⟩
        have hr9 := (hb9.block _ (row_ltR HR3.out)).trans HR3.out
        have HB9 := hid (blNd HB3.out hb9 HB3.out.size)
        have b0 := cell_of_row _ _ 0 _ _ _ hr9
        have b1 := cell_of_row _ _ 1 _ _ _ hr9
        have b2 := cell_of_row _ _ 2 _ _ _ hr9
        have b3 := cell_of_row _ _ 3 _ _ _ hr9
        simp only [List.getElem?_toArray, List.getElem?_cons_zero, List.getElem?_cons_succ] at b0 b1 b2 b3
        have z0 := frozen_of_row w9 (w.heap.size) 0 _ _ hr9
        have z1 := frozen_of_row w9 (w.heap.size) 1 _ _ hr9
        have z2 := frozen_of_row w9 (w.heap.size) 2 _ _ hr9
        have z3 := frozen_of_row w9 (w.heap.size) 3 _ _ hr9
        have HR := hid (box4_row hr9 (.string a) (.bool true) (.int .i64 (m : Int)) (.string ⟨#[]⟩))
        have HBF := hid (box4_below HB9.out (Nat.le_refl _) (.string a) (.bool true) (.int .i64 (m : Int)) (.string ⟨#[]⟩))
        clear hr9 hb9 HB3 HR3 HCC
        go_wp2_with fail
        refine bodyPost_ret (results_cell_2 rfl _ _ w.heap.size 38 #[.string a, .bool true, .int .i64 (m : Int), .string ⟨#[]⟩] (0, 0) _ rfl HR.out Tryd.underlying38 rfl (by kernel_rfl)) rfl ⟨⟨⟨a, true, (m : Int), ⟨#[]⟩⟩, r1, true, rfl, Or.inl ⟨rfl, HP.out⟩⟩, HBF.out⟩
      · have hkr : Int.tmod (k : Int) 2 = 0 := by rw [Int.tmod_eq_emod_of_nonneg (by omega)]; omega
        have HK := hid hk
        have HM := hid hm
        rw [← hm] at hkq hkw hm0
        unfold numIV
        clear hn hm hk hr2
        have hr3 := (Below.heap_alloc w2 (.cells #[.string a, .bool false, .int .i64 (m : Int), .string ⟨#[]⟩] 38) w.heap.size (by omega)).trans HR2.out
        have hx3 := heap_alloc_new w2 (.cells #[.string a, .bool false, .int .i64 (m : Int), .string ⟨#[]⟩] 38)
        have HB3 := hid (HB2.out.alloc HB2.out.size (.cells #[.string a, .bool false, .int .i64 (m : Int), .string ⟨#[]⟩] 38))
        have HR3 := hid hr3
        have HX3 := hid hx3
        have c1 := cell_of_row _ _ 1 _ _ _ hx3
        simp only [List.getElem?_toArray, List.getElem?_cons_zero, List.getElem?_cons_succ] at c1
        have hws : w.heap.size ≤ w2.heap.size := by omega
        clear hr3 hx3 HB2 HR2
        go_wp2_with fail
        refine (HD.out r1 _ (by omega)).mono ?_
        rintro e w4 ⟨rfl, hb4⟩
        have hr4 := (hb4.block _ (row_ltR HR3.out)).trans HR3.out
        have hx4 := (hb4.block _ (row_ltR HX3.out)).trans HX3.out
        have HB4 := hid (blNd HB3.out hb4 HB3.out.size)
        clear hb4 HB3 HR3 HX3 c1
        have y3 := cell_of_row _ _ 3 _ _ _ hx4
        have u3 := frozen_of_row w4 w2.heap.size 3 _ _ hx4
        simp only [List.getElem?_toArray, List.getElem?_cons_zero, List.getElem?_cons_succ] at y3
        cases h2 : datI r1 with
        | none =>
          have HP : Hid (nodI s = none) := nodI_no3 HDD.out HNN.out HK.out h2
          unfold datIV
          have hx5 := heap_setCell_same w4 w2.heap.size 3 _ 38 (.string ⟨#[]⟩) hx4
          have hr5 := (heap_setCell_other w4 (⟨w2.heap.size, 3, none⟩ : Addr) w.heap.size (.string ⟨#[]⟩) (by show w.heap.size ≠ w2.heap.size; omega)).trans hr4
          have HB5 := hid (HB4.out.setCell (p := ⟨w2.heap.size, 3, none⟩) hws (.string ⟨#[]⟩))
          have HR5 := hid hr5
          have c0 := cell_of_row _ _ 0 _ _ _ hx5
          have c1 := cell_of_row _ _ 1 _ _ _ hx5
          have c2 := cell_of_row _ _ 2 _ _ _ hx5
          have c3 := cell_of_row _ _ 3 _ _ _ hx5
          simp only [List.setIfInBounds_toArray, List.set_cons_zero, List.set_cons_succ, List.getElem?_toArray, List.getElem?_cons_zero, List.getElem?_cons_succ] at c0 c1 c2 c3
          have HCC : Hid (∀ w, Calls Tryd.prog 58 #[.agg #[.string a, .bool false, .int .i64 (m : Int), .string ⟨#[]⟩]] w fun e w' => e = .returned (.agg #[.string a, .bool false, .int .i64 (m : Int), .string ⟨#[]⟩]) ∧ Below w.heap.size w w') := fun w => HC.out ⟨a, false, (m : Int), ⟨#[]⟩⟩ w ⟨by show a.size ≤ _; omega, Nat.zero_le _⟩
          clear hx5 hr5 hx4 hr4 HB4 h2
          go_wp2_with fail
          refine (HCC.out _).mono ?_
          rintro e w9 ⟨rfl, hb9⟩
          have hr9 := (hb9.block _ (row_ltR HR5.out)).trans HR5.out
          have HB9 := hid (blNd HB5.out hb9 HB5.out.size)
          have b0 := cell_of_row _ _ 0 _ _ _ hr9
          have b1 := cell_of_row _ _ 1 _ _ _ hr9
          have b2 := cell_of_row _ _ 2 _ _ _ hr9
          have b3 := cell_of_row _ _ 3 _ _ _ hr9
          simp only [List.getElem?_toArray, List.getElem?_cons_zero, List.getElem?_cons_succ] at b0 b1 b2 b3
          have z0 := frozen_of_row w9 (w.heap.size) 0 _ _ hr9
          have z1 := frozen_of_row w9 (w.heap.size) 1 _ _ hr9
          have z2 := frozen_of_row w9 (w.heap.size) 2 _ _ hr9
          have z3 := frozen_of_row w9 (w.heap.size) 3 _ _ hr9
          have HR := hid (box4_row hr9 (.string a) (.bool false) (.int .i64 (m : Int)) (.string ⟨#[]⟩))
          have HBF := hid (box4_below HB9.out (Nat.le_refl _) (.string a) (.bool false) (.int .i64 (m : Int)) (.string ⟨#[]⟩))
          clear hr9 hb9 HB5 HR5 HCC
          go_wp2_with fail
          refine bodyPost_ret (results_cell_2 rfl _ _ w.heap.size 38 #[.string a, .bool false, .int .i64 (m : Int), .string ⟨#[]⟩] (0, 0) _ rfl HR.out Tryd.underlying38 rfl (by kernel_rfl)) rfl ⟨⟨⟨a, false, (m : Int), ⟨#[]⟩⟩, ⟨#[]⟩, false, rfl, Or.inr ⟨rfl, HP.out⟩⟩, HBF.out⟩
        | some q2 =>
          obtain ⟨d, r2⟩ := q2
          have hds := datI_sum h2
          have HP : Hid (nodI s = some (⟨a, false, (m : Int), d⟩, r2)) := by rw [HM.out]; exact nodI_file HDD.out HNN.out HK.out h2
          unfold datIV
          have hx5 := heap_setCell_same w4 w2.heap.size 3 _ 38 (.string d) hx4
          have hr5 := (heap_setCell_other w4 (⟨w2.heap.size, 3, none⟩ : Addr) w.heap.size (.string d) (by show w.heap.size ≠ w2.heap.size; omega)).trans hr4
          have HB5 := hid (HB4.out.setCell (p := ⟨w2.heap.size, 3, none⟩) hws (.string d))
          have HR5 := hid hr5
          have c0 := cell_of_row _ _ 0 _ _ _ hx5
          have c1 := cell_of_row _ _ 1 _ _ _ hx5
          have c2 := cell_of_row _ _ 2 _ _ _ hx5
          have c3 := cell_of_row _ _ 3 _ _ _ hx5
          simp only [List.setIfInBounds_toArray, List.set_cons_zero, List.set_cons_succ, List.getElem?_toArray, List.getElem?_cons_zero, List.getElem?_cons_succ] at c0 c1 c2 c3
          have HCC : Hid (∀ w, Calls Tryd.prog 58 #[.agg #[.string a, .bool false, .int .i64 (m : Int), .string d]] w fun e w' => e = .returned (.agg #[.string a, .bool false, .int .i64 (m : Int), .string d]) ∧ Below w.heap.size w w') := fun w => HC.out ⟨a, false, (m : Int), d⟩ w ⟨by show a.size ≤ _; omega, by show d.size ≤ _; omega⟩
          clear hx5 hr5 hx4 hr4 HB4 h2
          go_wp2_with fail
          refine (HCC.out _).mono ?_
          rintro e w9 ⟨rfl, hb9⟩
          have hr9 := (hb9.block _ (row_ltR HR5.out)).trans HR5.out
          have HB9 := hid (blNd HB5.out hb9 HB5.out.size)
          have b0 := cell_of_row _ _ 0 _ _ _ hr9
          have b1 := cell_of_row _ _ 1 _ _ _ hr9
          have b2 := cell_of_row _ _ 2 _ _ _ hr9
          have b3 := cell_of_row _ _ 3 _ _ _ hr9
          simp only [List.getElem?_toArray, List.getElem?_cons_zero, List.getElem?_cons_succ] at b0 b1 b2 b3
          have z0 := frozen_of_row w9 (w.heap.size) 0 _ _ hr9
          have z1 := frozen_of_row w9 (w.heap.size) 1 _ _ hr9
          have z2 := frozen_of_row w9 (w.heap.size) 2 _ _ hr9
          have z3 := frozen_of_row w9 (w.heap.size) 3 _ _ hr9
          have HR := hid (box4_row hr9 (.string a) (.bool false) (.int .i64 (m : Int)) (.string d))
          have HBF := hid (box4_below HB9.out (Nat.le_refl _) (.string a) (.bool false) (.int .i64 (m : Int)) (.string d))
          clear hr9 hb9 HB5 HR5 HCC
          go_wp2_with fail
          refine bodyPost_ret (results_cell_2 rfl _ _ w.heap.size 38 #[.string a, .bool false, .int .i64 (m : Int), .string d] (0, 0) _ rfl HR.out Tryd.underlying38 rfl (by kernel_rfl)) rfl ⟨⟨⟨a, false, (m : Int), d⟩, r2, true, rfl, Or.inl ⟨rfl, HP.out⟩⟩, HBF.out⟩
end Go.Proofs.YtadimakdjndcdaeDoor
