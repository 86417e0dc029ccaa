/-
  Whether two lists of texts, or of numbers, are the same: the laws' own ways to ask.
-/
import Derived.Test.YtneeledgokccgadCutP
import Derived.Test.YtneeledgokccgadChkMath
import Derived.BigRegion
import Derived.BigQuiet
namespace Go.Proofs.Ytneeledgokccgad
open Go.RowKit
set_option linter.unusedVariables false
set_option linter.unusedSimpArgs false
set_option maxRecDepth 100000 in
theorem sameT_zero (a b : Option Addr) (c d : Nat) (w : World) :
    Calls Try.prog 21 #[.slice a 0 c, .slice b 0 d] w fun e w' => e = .returned (.bool true) ∧ Below w.heap.size w w' := by
  go_enter Try.func21, Try.ntmps21
  go_wp2_with fail
  refine wp_loop_rounds 1 ?_
  rw [rounds_succ]
  go_wp2_with fail
  go_ret
  exact ⟨rfl, Below.refl _ _⟩
set_option maxRecDepth 100000 in
set_option maxHeartbeats 1000000 in
theorem sameT_any (g h o c d n : Nat) (xs : List ByteArray) (w : World) (hn : n ≤ 40000) (ho : o ≤ 40000) (hx : xs.length = n)
    (hg : ∀ j v, (chkC xs)[j]? = some v → w.cell? ⟨g, j, none⟩ = some v) (hh : ∀ j v, (chkC xs)[j]? = some v → w.cell? ⟨h, o + j, none⟩ = some v) :
    Calls Try.prog 21 #[.slice (some ⟨g, 0, none⟩) n c, .slice (some ⟨h, o, none⟩) n d] w fun e w' => e = .returned (.bool true) ∧ Below w.heap.size w w' := by
  have HG : Hid (∀ j, j < n → ∃ x : ByteArray, w.cell? ⟨g, j, none⟩ = some (.string x) ∧ w.cell? ⟨h, o + j, none⟩ = some (.string x)) := fun j hj => by
    have e : (chkC xs)[j]? = some (.string (xs[j]'(by omega))) := by simp [chkC, hx, hj]
    exact ⟨_, hg j _ e, hh j _ e⟩
  clear hg hh hx
  go_enter Try.func21, Try.ntmps21
  go_wp2_with fail
  go_loopw [5] (fun v wr => ∃ i : Nat, i ≤ n ∧ v = .int .i64 (i : Int) ∧ Below w.heap.size w wr ∧ wr.heap = w.heap) (fun v _ => n - natOf v)
  case atStart => exact ⟨0, by omega, rfl, Below.refl _ _, rfl⟩
  case round =>
    obtain ⟨i, hi, rfl, hb, hp⟩ := hrel
    by_cases hlt : i < n
    · have hltI : (i : Int) < (n : Int) := by omega
      obtain ⟨x, x0, x1⟩ := HG.out i hlt
      have e : ∀ a, wr.cell? a = w.cell? a := fun a => by simp [World.cell?, hp]
      rw [← e] at x0 x1
      have HB : Hid (Below w.heap.size w wr ∧ wr.heap = w.heap) := ⟨hb, hp⟩
      clear e hb hp
      go_wp2_with fail
      go_region
      go_wp2_with fail
      exact ⟨⟨i + 1, by omega, by go_num, HB.out.1.drew, HB.out.2⟩, by simp [natOf]; omega⟩
    · obtain rfl : i = n := by omega
      go_wp2_with fail
      go_ret
      exact ⟨rfl, hb⟩
set_option maxRecDepth 100000 in
theorem sameI_zero (a b : Option Addr) (c d : Nat) (w : World) :
    Calls Try.prog 24 #[.slice a 0 c, .slice b 0 d] w fun e w' => e = .returned (.bool true) ∧ Below w.heap.size w w' := by
  go_enter Try.func24, Try.ntmps24
  go_wp2_with fail
  refine wp_loop_rounds 1 ?_
  rw [rounds_succ]
  go_wp2_with fail
  go_ret
  exact ⟨rfl, Below.refl _ _⟩
set_option maxRecDepth 100000 in
set_option maxHeartbeats 1000000 in
theorem sameI_any (g h c d n : Nat) (xs : List Nat) (w : World) (hn : n ≤ 40000) (hx : xs.length = n)
    (hg : ∀ j v, (cutC xs)[j]? = some v → w.cell? ⟨g, j, none⟩ = some v) (hh : ∀ j v, (cutC xs)[j]? = some v → w.cell? ⟨h, j, none⟩ = some v) :
    Calls Try.prog 24 #[.slice (some ⟨g, 0, none⟩) n c, .slice (some ⟨h, 0, none⟩) n d] w fun e w' => e = .returned (.bool true) ∧ Below w.heap.size w w' := by
  have HG : Hid (∀ j, j < n → ∃ x : Nat, w.cell? ⟨g, j, none⟩ = some (.int .i64 (x : Int)) ∧ w.cell? ⟨h, j, none⟩ = some (.int .i64 (x : Int))) := fun j hj => by
    have e : (cutC xs)[j]? = some (.int .i64 ((xs[j]'(by omega) : Nat) : Int)) := by simp [cutC, hx, hj]
    exact ⟨_, hg j _ e, hh j _ e⟩
  clear hg hh hx
  go_enter Try.func24, Try.ntmps24
  go_wp2_with fail
  go_loopw [5] (fun v wr => ∃ i : Nat, i ≤ n ∧ v = .int .i64 (i : Int) ∧ Below w.heap.size w wr ∧ wr.heap = w.heap) (fun v _ => n - natOf v)
  case atStart => exact ⟨0, by omega, rfl, Below.refl _ _, rfl⟩
  case round =>
    obtain ⟨i, hi, rfl, hb, hp⟩ := hrel
    by_cases hlt : i < n
    · have hltI : (i : Int) < (n : Int) := by omega
      obtain ⟨x, x0, x1⟩ := HG.out i hlt
      have e : ∀ a, wr.cell? a = w.cell? a := fun a => by simp [World.cell?, hp]
      rw [← e] at x0 x1
      have HB : Hid (Below w.heap.size w wr ∧ wr.heap = w.heap) := ⟨hb, hp⟩
      clear e hb hp
      go_wp2_with fail
      go_region
      go_wp2_with fail
      exact ⟨⟨i + 1, by omega, by go_num, HB.out.1.drew, HB.out.2⟩, by simp [natOf]; omega⟩
    · obtain rfl : i = n := by omega
      go_wp2_with fail
      go_ret
      exact ⟨rfl, hb⟩
end Go.Proofs.Ytneeledgokccgad
