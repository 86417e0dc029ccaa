/-
  Longest: the code's and the specification's.
-/
import Derived.Test.YtnkahdidelhdaacStepC2
import Derived.Test.YtnkahdidelhdaacLonC2
import Derived.Test.YtnkahdidelhdaacLonC3
namespace Go.Proofs.Ytnkahdidelhdaac
open Go.RowKit
set_option linter.unusedVariables false
set_option linter.unusedSimpArgs false

def lonIn (s : ByteArray) (x : Int) : Prop := s.size ≤ 4000 ∧ 0 ≤ x ∧ x < (s.size : Int)
theorem best_uniq {s : ByteArray} {a d n : Nat} (h : IsB (lonF s a) a d n) : (.tuple #[.int .i64 (d : Int), .int .i64 (n : Int)] : Value) = lonV s a := by
  obtain ⟨h1, h2⟩ := h.uniq (best_is (lonF s a) a)
  unfold lonV
  rw [h1, h2]
set_option maxRecDepth 100000 in
set_option maxHeartbeats 1000000 in
theorem long_in (s : ByteArray) (a : Nat) (w : World) (hs : s.size ≤ 4000) (ha : a < s.size) :
    Calls Try.prog 23 #[.string s, .int .i64 (a : Int)] w fun e w' => e = .returned (lonV s a) ∧ Below w.heap.size w w' := by
  have h1 : ¬ 4000 < (s.size : Int) := by omega
  have h2 : (a : Int) < (s.size : Int) := by omega
  have HS : Hid (∀ w, Calls Try.prog 42 #[.string s] w fun e w' => (e = .returned (.slice (some ⟨w.heap.size, 0, none⟩) s.size s.size) ∧ w.heap.size < w'.heap.size ∧ ∀ j, j < s.size → w'.cell? ⟨w.heap.size, j, none⟩ = some (.int .i64 (stF (bsOf s) s.size j : Nat))) ∧ Below w.heap.size w w') := fun w => steps_any s w hs
  have HC : Hid (∀ (w : World) (g : Nat), g < w.heap.size → (∀ j, j < s.size → w.cell? ⟨g, j, none⟩ = some (.int .i64 (stF (bsOf s) s.size j : Nat))) → Calls Try.prog 43 #[.string s, .slice (some ⟨g, 0, none⟩) s.size s.size, .int .i64 (a : Int)] w fun e w' => (∃ d n : Nat, IsB (g3 (lonF s a)) a d n ∧ n ≤ 66 ∧ e = .returned (.tuple #[.int .i64 (d : Int), .int .i64 (n : Int)])) ∧ Below w.heap.size w w') := fun w g hg hc =>
    copy_any s a g s.size (stF (bsOf s) s.size) w ha hs (stF_ok _ _) (fun j hj => by have := stF_le (bsOf s) s.size j; omega) hc hg
  have HT : Hid ((∀ e, 1 ≤ e → e ≤ a → lonF s a e < 3) → ∀ w, Calls Try.prog 46 #[.string s, .int .i64 (a : Int)] w fun e w' => (∃ d n : Nat, IsB (lonF s a) a d n ∧ e = .returned (.tuple #[.int .i64 (d : Int), .int .i64 (n : Int)])) ∧ Below w.heap.size w w') := fun hf w => short_any s a w ha hs hf
  have HU : Hid (∀ d n : Nat, IsB (lonF s a) a d n → (.tuple #[.int .i64 (d : Int), .int .i64 (n : Int)] : Value) = lonV s a) := fun d n h => best_uniq h
  clear hs ha
  generalize lonV s a = V at HU ⊢
  go_enter Try.func23, Try.ntmps23
  go_wp2_with fail
  refine (HS.out _).mono ?_
  rintro e w1 ⟨⟨rfl, hl1, hc1⟩, hb1⟩
  have HCC : Hid (Calls Try.prog 43 #[.string s, .slice (some ⟨w.heap.size, 0, none⟩) s.size s.size, .int .i64 (a : Int)] w1 fun e w' => (∃ d n : Nat, IsB (g3 (lonF s a)) a d n ∧ n ≤ 66 ∧ e = .returned (.tuple #[.int .i64 (d : Int), .int .i64 (n : Int)])) ∧ Below w1.heap.size w1 w') := HC.out w1 w.heap.size hl1 hc1
  clear hl1 hc1 HC HS
  go_wp2_with fail
  refine HCC.out.mono ?_
  rintro e w2 ⟨⟨d, n, hB, hn66, rfl⟩, hb2⟩
  replace hb2 := bl_trans3 hb1 hb2 hb1.size
  clear hb1 HCC
  have HBB : Hid (IsB (g3 (lonF s a)) a d n) := hB
  clear hB
  by_cases h0 : n = 0
  · subst h0
    have HTT : Hid (∀ w, _) := HT.out (g3_none HBB.out)
    clear HT
    go_wp2_with fail
    refine (HTT.out _).mono ?_
    rintro e w3 ⟨⟨d2, n2, hB2, rfl⟩, hb3⟩
    replace hb3 := bl_trans3 hb2 hb3 hb2.size
    have HV : Hid _ := HU.out d2 n2 hB2
    clear hB2 hb2 HTT
    go_wp2_with fail
    go_ret2
    exact ⟨by rw [← HV.out]; rfl, hb3⟩
  · have h0I : ¬ (n : Int) = 0 := by omega
    have h0b : ((n : Int) == 0) = false := beq_eq_false_iff_ne.2 h0I
    have HV : Hid _ := HU.out d n (g3_big HBB.out (by omega))
    clear HT
    go_wp2_with fail
    go_ret2
    exact ⟨by rw [← HV.out]; rfl, hb2⟩
set_option maxRecDepth 100000 in
theorem long_out (s : ByteArray) (x : Int) (w : World) (h : ¬ lonIn s x) :
    Calls Try.prog 23 #[.string s, .int .i64 x] w fun e w' => e = .returned (.tuple #[.int .i64 0, .int .i64 0]) ∧ w' = w := by
  unfold lonIn at h
  by_cases h1 : 4000 < (s.size : Int)
  · clear h
    go_enter Try.func23, Try.ntmps23
    go_wp2_with fail
    go_ret2
    exact ⟨rfl, rfl⟩
  by_cases h2 : x < 0
  · clear h
    go_enter Try.func23, Try.ntmps23
    go_wp2_with fail
    go_ret2
    exact ⟨rfl, rfl⟩
  · have h3 : (s.size : Int) ≤ x := by omega
    clear h
    go_enter Try.func23, Try.ntmps23
    go_wp2_with fail
    go_ret2
    exact ⟨rfl, rfl⟩
set_option maxRecDepth 100000 in
theorem slong_in (s : ByteArray) (a : Nat) (w : World) (hs : s.size ≤ 4000) (ha : a < s.size) :
    Calls Try.prog 25 #[.string s, .int .i64 (a : Int)] w fun e w' => e = .returned (lonV s a) ∧ Below w.heap.size w w' := by
  have h1 : ¬ 4000 < (s.size : Int) := by omega
  have hw : IntKind.i64.wrap ((s.size : Int) - 1) = (s.size : Int) - 1 := by rw [IntKind.wrap_i64]; omega
  have HI : Hid (∀ w, Calls Try.prog 35 #[.int .i64 (a : Int), .int .i64 0, .int .i64 ((s.size : Int) - 1)] w fun e w' => e = .returned (.bool true) ∧ w' = w) := fun w => in_yes _ 0 _ w (by omega) (by omega)
  have HL : Hid (∀ w, Calls Try.prog 44 #[.string s, .int .i64 (a : Int)] w fun e w' => e = .returned (lonV s a) ∧ Below w.heap.size w w') := fun w => sl6_any s a w ha hs
  unfold lonV at HL ⊢
  generalize (best (lonF s a) a).1 = d at HL ⊢
  generalize (best (lonF s a) a).2 = n at HL ⊢
  clear ha hs
  go_enter Try.func25, Try.ntmps25
  go_wp2_with fail
  refine (HI.out _).mono ?_
  rintro e w' ⟨rfl, hw'⟩
  subst w'
  go_wp2_with fail
  refine (HL.out _).mono ?_
  rintro e w2 ⟨rfl, hb2⟩
  go_wp2_with fail
  go_ret2
  exact ⟨rfl, hb2⟩
set_option maxRecDepth 100000 in
theorem slong_out (s : ByteArray) (x : Int) (w : World) (h : ¬ lonIn s x) :
    Calls Try.prog 25 #[.string s, .int .i64 x] w fun e w' => e = .returned (.tuple #[.int .i64 0, .int .i64 0]) ∧ w' = w := by
  unfold lonIn at h
  by_cases h1 : 4000 < (s.size : Int)
  · clear h
    go_enter Try.func25, Try.ntmps25
    go_wp2_with fail
    go_ret2
    exact ⟨rfl, rfl⟩
  · have hw : IntKind.i64.wrap ((s.size : Int) - 1) = (s.size : Int) - 1 := by rw [IntKind.wrap_i64]; omega
    have HI : Hid (∀ w, Calls Try.prog 35 #[.int .i64 x, .int .i64 0, .int .i64 ((s.size : Int) - 1)] w fun e w' => e = .returned (.bool false) ∧ w' = w) := fun w => in_no _ 0 _ w (by omega)
    clear h
    go_enter Try.func25, Try.ntmps25
    go_wp2_with fail
    refine (HI.out _).mono ?_
    rintro e w' ⟨rfl, hw'⟩
    subst w'
    go_wp2_with fail
    go_ret2
    exact ⟨rfl, rfl⟩
end Go.Proofs.Ytnkahdidelhdaac
