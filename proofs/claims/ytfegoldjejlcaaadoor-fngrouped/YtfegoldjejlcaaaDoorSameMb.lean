/-
  Whether two lists of members are the same: the laws' own way to ask, of lists that are.
-/
import Derived.Test.YtfegoldjejlcaaaDoorMbA
import Derived.BigRegion
import Derived.BigQuiet
namespace Go.Proofs.YtfegoldjejlcaaaDoor
open Go.RowKit
set_option linter.unusedVariables false
set_option linter.unusedSimpArgs false
set_option maxRecDepth 100000 in
theorem sameM_zero (a b : Option Addr) (c d : Nat) (w : World) :
    Calls Tryd.prog 23 #[.slice a 0 c, .slice b 0 d] w fun e w' => e = .returned (.bool true) ∧ Below w.heap.size w w' := by
  go_enter Tryd.func23, Tryd.ntmps23
  go_wp2_with fail
  refine wp_loop_rounds 1 ?_
  rw [rounds_succ]
  go_wp2_with fail
  go_ret
  exact ⟨rfl, Below.refl _ _⟩
set_option maxRecDepth 100000 in
set_option maxHeartbeats 1000000 in
theorem sameM_rows (g h c d n : Nat) (F : Nat → MbI) (w : World) (hn : n ≤ 1048576) (hg : MbRow w g n F) (hh : MbRow w h n F) :
    Calls Tryd.prog 23 #[.slice (some ⟨g, 0, none⟩) n c, .slice (some ⟨h, 0, none⟩) n d] w fun e w' => e = .returned (.bool true) ∧ Below w.heap.size w w' := by
  have HG : Hid (MbRow w g n F) := hg
  have HH : Hid (MbRow w h n F) := hh
  clear hg hh
  go_enter Tryd.func23, Tryd.ntmps23
  go_wp2_with fail
  go_loopw [5] (fun v wr => ∃ i : Nat, i ≤ n ∧ v = .int .i64 (i : Int) ∧ Below w.heap.size w wr ∧ wr.heap = w.heap) (fun v _ => n - (intMb v).toNat)
  case atStart => exact ⟨0, by omega, rfl, Below.refl _ _, rfl⟩
  case round =>
    obtain ⟨i, hi, rfl, hb, hp⟩ := hrel
    by_cases hlt : i < n
    · have hltI : (i : Int) < (n : Int) := by omega
      have x0 := HG.out.c0 i hlt
      have x1 := HG.out.c1 i hlt
      have y0 := HH.out.c0 i hlt
      have y1 := HH.out.c1 i hlt
      have e : ∀ a, wr.cell? a = w.cell? a := fun a => by simp [World.cell?, hp]
      rw [← e] at x0 x1 y0 y1
      obtain ⟨q, hq⟩ : ∃ q, q = 2 * i := ⟨_, rfl⟩
      rw [← hq] at x0 x1 y0 y1
      have hiq : i * 2 = q := by omega
      have HB : Hid (Below w.heap.size w wr ∧ wr.heap = w.heap) := ⟨hb, hp⟩
      clear e hb hp hq
      generalize F i = p at x0 x1 y0 y1
      obtain ⟨pa, dd⟩ := p
      simp only at x0 x1 y0 y1
      go_wp2_with fail
      go_region
      go_wp2_with fail
      exact ⟨⟨i + 1, by omega, by go_num, HB.out.1.drew, HB.out.2⟩, by simp [intMb]; omega⟩
    · obtain rfl : i = n := by omega
      go_wp2_with fail
      go_ret
      exact ⟨rfl, hb⟩
theorem sameM_any (va vb : Value) (n : Nat) (F : Nat → MbI) (w : World) (hn : n ≤ 1048576) (ha : MbArg w va n F) (hb : MbArg w vb n F) :
    Calls Tryd.prog 23 #[va, vb] w fun e w' => e = .returned (.bool true) ∧ Below w.heap.size w w' := by
  obtain ⟨a, c, rfl, ha⟩ := ha
  obtain ⟨b, d, rfl, hb⟩ := hb
  by_cases h0 : 0 < n
  · obtain ⟨g, rfl, hg⟩ := ha h0
    obtain ⟨h, rfl, hh⟩ := hb h0
    exact sameM_rows g h c d n F w hn hg hh
  · obtain rfl : n = 0 := by omega
    exact sameM_zero a b c d w
end Go.Proofs.YtfegoldjejlcaaaDoor
