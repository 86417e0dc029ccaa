/-
  Cuts: the code's small functions.
-/
import Derived.Test.YtneeledgokccgadCutMath
import Derived.Test.YtneeledgokccgadShp
namespace Go.Proofs.Ytneeledgokccgad
open Go.RowKit
set_option linter.unusedVariables false
theorem shr_nat (h k : Nat) : ((h : Int) / 2 ^ k == 0) = decide (h / 2 ^ k = 0) := by
  have e : (h : Int) / 2 ^ k = ((h / 2 ^ k : Nat) : Int) := by simp
  rw [e]
  by_cases c : h / 2 ^ k = 0
  · rw [c]; rfl
  · rw [decide_eq_false c]; exact beq_eq_false_iff_ne.2 (by omega)
def endsB (L B M n h : Nat) : Bool := decide (n = M ∨ (L ≤ n ∧ h / 2 ^ (64 - B) = 0))
theorem endsB_iff {L B M n h : Nat} (hn : n ≤ M) : endsB L B M n h = true ↔ endsN L B M n h := by
  unfold endsB endsN
  rw [decide_eq_true_iff]
  constructor
  · rintro (h | h)
    · exact .inl (by omega)
    · exact .inr h
  · rintro (h | h)
    · exact .inl (by omega)
    · exact .inr h
set_option maxRecDepth 100000 in
set_option maxHeartbeats 2000000 in
theorem ends_any (L B M n h : Nat) (w : World) (hn : n < 100000) (hB : 1 ≤ B ∧ B ≤ 12) (hL : L ≤ 1000) (hM : M ≤ 4000) (hh : h < 18446744073709551616) :
    Calls Try.prog 76 #[.int .i64 (n : Int), .int .u64 (h : Int), shpV L B M] w fun e w' => e = .returned (.bool (endsB L B M n h)) ∧ Below w.heap.size w w' := by
  by_cases hnM : n = M
  · have : endsB L B M n h = true := by simp [endsB, hnM]
    rw [this]
    unfold shpV
    have hq : (n : Int) = (M : Int) := by omega
    clear hnM this
    rw [hq]
    go_enter Try.func76, Try.ntmps76
    go_wp2_with fail
    go_ret
    exact ⟨rfl, (Below.refl _ _).alloc (Nat.le_refl _) _⟩
  · have hq := beq_eq_false_iff_ne.2 (show (n : Int) ≠ (M : Int) by omega)
    by_cases hnL : L ≤ n
    · have : endsB L B M n h = decide (h / 2 ^ (64 - B) = 0) := by simp [endsB, hnM, hnL]
      rw [this, ← shr_nat]
      unfold shpV
      clear this hnM
      go_enter Try.func76, Try.ntmps76
      go_wp2_with fail
      go_ret
      exact ⟨rfl, (Below.refl _ _).alloc (Nat.le_refl _) _⟩
    · have : endsB L B M n h = false := by simp [endsB, hnM, hnL]
      rw [this]
      unfold shpV
      clear this hnM
      go_enter Try.func76, Try.ntmps76
      go_wp2_with fail
      go_ret
      exact ⟨rfl, (Below.refl _ _).alloc (Nat.le_refl _) _⟩
set_option maxRecDepth 100000 in
set_option maxHeartbeats 2000000 in
theorem cuttable_any (s : ByteArray) (l b m : Int) (hs : s.size < 140737488351232) (w : World) :
    Calls Try.prog 44 #[.string s, shpV l b m] w fun e w' => (∃ q : Bool, e = .returned (.bool q) ∧ (q = true ↔ shpP l b m ∧ s.size ≤ 4000)) ∧ Below w.heap.size w w' := by
  have hr1 : Hid ((w.alloc (.cells #[.int .i64 l, .int .i64 b, .int .i64 m] 34)).heap[w.heap.size]? = some (.cells #[.int .i64 l, .int .i64 b, .int .i64 m] 34 (0, 0))) := heap_alloc_new w _
  have hi : Option.map (·.size) (Try.prog.info? 34) = some 3 := by kernel_rfl
  by_cases hp : shpP l b m
  · have HA : Hid (∀ w, Calls Try.prog 73 #[shpV l b m] w fun e w' => e = .returned (.bool true) ∧ Below w.heap.size w w') := fun w => shp_yes l b m w hp
    unfold shpV at HA ⊢
    by_cases h4 : s.size ≤ 4000
    · have h4' : (s.size : Int) ≤ 4000 := by omega
      go_enter Try.func44, Try.ntmps44
      go_wp2_with (refine wpList_load_row rfl 34 _ rfl (w.heap.size) rfl 34 #[.int .i64 l, .int .i64 b, .int .i64 m] (0, 0) _ hr1.out Try.underlying34 rfl hi ?_)
      refine (HA.out _).mono ?_
      rintro e w2 ⟨rfl, hb2⟩
      go_wp2_with fail
      go_ret
      exact ⟨⟨true, rfl, ⟨fun _ => ⟨hp, h4⟩, fun _ => rfl⟩⟩, ((Below.refl _ _).alloc (Nat.le_refl _) _).trans (hb2.mono (by simp))⟩
    · have h4' : ¬ (s.size : Int) ≤ 4000 := by omega
      go_enter Try.func44, Try.ntmps44
      go_wp2_with (refine wpList_load_row rfl 34 _ rfl (w.heap.size) rfl 34 #[.int .i64 l, .int .i64 b, .int .i64 m] (0, 0) _ hr1.out Try.underlying34 rfl hi ?_)
      refine (HA.out _).mono ?_
      rintro e w2 ⟨rfl, hb2⟩
      go_wp2_with fail
      go_ret
      exact ⟨⟨decide ((s.size : Int) ≤ 4000), rfl, ⟨fun c => (by have := of_decide_eq_true c; omega), fun c => absurd c.2 h4⟩⟩, ((Below.refl _ _).alloc (Nat.le_refl _) _).trans (hb2.mono (by simp))⟩
  · have HA : Hid (∀ w, Calls Try.prog 73 #[shpV l b m] w fun e w' => e = .returned (.bool false) ∧ Below w.heap.size w w') := fun w => shp_no l b m w hp
    unfold shpV at HA ⊢
    go_enter Try.func44, Try.ntmps44
    go_wp2_with (refine wpList_load_row rfl 34 _ rfl (w.heap.size) rfl 34 #[.int .i64 l, .int .i64 b, .int .i64 m] (0, 0) _ hr1.out Try.underlying34 rfl hi ?_)
    refine (HA.out _).mono ?_
    rintro e w2 ⟨rfl, hb2⟩
    go_wp2_with fail
    go_ret
    exact ⟨⟨false, rfl, ⟨fun c => (by cases c), fun c => absurd c.1 hp⟩⟩, ((Below.refl _ _).alloc (Nat.le_refl _) _).trans (hb2.mono (by simp))⟩
end Go.Proofs.Ytneeledgokccgad
