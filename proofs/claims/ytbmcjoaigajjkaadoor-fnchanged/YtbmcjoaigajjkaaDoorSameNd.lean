/-
  Whether two lists of nodes are the same: the laws' own way to ask, of lists that are.
-/
import Derived.Test.YtbmcjoaigajjkaaDoorNdA
import Derived.BigRegion
import Derived.BigQuiet
namespace Go.Proofs.YtbmcjoaigajjkaaDoor
open Go.RowKit
set_option linter.unusedVariables false
set_option linter.unusedSimpArgs false
set_option maxRecDepth 100000 in
theorem sameN_zero (a b : Option Addr) (c d : Nat) (w : World) :
    Calls Tryd.prog 12 #[.slice a 0 c, .slice b 0 d] w fun e w' => e = .returned (.bool true) ∧ Below w.heap.size w w' := by
  go_enter Tryd.func12, Tryd.ntmps12
  go_wp2_with fail
  refine wp_loop_rounds 1 ?_
  rw [rounds_succ]
  go_wp2_with fail
  go_ret
  exact ⟨rfl, Below.refl _ _⟩
set_option maxRecDepth 100000 in
set_option maxHeartbeats 1000000 in
theorem sameN_rows (g h c d n : Nat) (F : Nat → NdI) (w : World) (hn : n ≤ 1048576) (hg : NdRow w g n F) (hh : NdRow w h n F) :
    Calls Tryd.prog 12 #[.slice (some ⟨g, 0, none⟩) n c, .slice (some ⟨h, 0, none⟩) n d] w fun e w' => e = .returned (.bool true) ∧ Below w.heap.size w w' := by
  have HG : Hid (NdRow w g n F) := hg
  have HH : Hid (NdRow w h n F) := hh
  clear hg hh
  go_enter Tryd.func12, Tryd.ntmps12
  go_wp2_with fail
  go_loopw [5] (fun v wr => ∃ i : Nat, i ≤ n ∧ v = .int .i64 (i : Int) ∧ Below w.heap.size w wr ∧ wr.heap = w.heap) (fun v _ => n - (intNd v).toNat)
  case atStart => exact ⟨0, by omega, rfl, Below.refl _ _, rfl⟩
  case round =>
    obtain ⟨i, hi, rfl, hb, hp⟩ := hrel
    by_cases hlt : i < n
    · have hltI : (i : Int) < (n : Int) := by omega
      have x0 := HG.out.c0 i hlt
      have x1 := HG.out.c1 i hlt
      have x2 := HG.out.c2 i hlt
      have x3 := HG.out.c3 i hlt
      have y0 := HH.out.c0 i hlt
      have y1 := HH.out.c1 i hlt
      have y2 := HH.out.c2 i hlt
      have y3 := HH.out.c3 i hlt
      have e : ∀ a, wr.cell? a = w.cell? a := fun a => by simp [World.cell?, hp]
      rw [← e] at x0 x1 x2 x3 y0 y1 y2 y3
      obtain ⟨q, hq⟩ : ∃ q, q = 4 * i := ⟨_, rfl⟩
      rw [← hq] at x0 x1 x2 x3 y0 y1 y2 y3
      have hiq : i * 4 = q := by omega
      have HB : Hid (Below w.heap.size w wr ∧ wr.heap = w.heap) := ⟨hb, hp⟩
      clear e hb hp hq
      generalize F i = p at x0 x1 x2 x3 y0 y1 y2 y3
      obtain ⟨pa, f, l, dd⟩ := p
      simp only at x0 x1 x2 x3 y0 y1 y2 y3
      go_wp2_with fail
      go_region
      go_wp2_with fail
      exact ⟨⟨i + 1, by omega, by go_num, HB.out.1.drew, HB.out.2⟩, by simp [intNd]; omega⟩
    · obtain rfl : i = n := by omega
      go_wp2_with fail
      go_ret
      exact ⟨rfl, hb⟩
theorem sameN_any (va vb : Value) (n : Nat) (F : Nat → NdI) (w : World) (hn : n ≤ 1048576) (ha : NdArg w va n F) (hb : NdArg w vb n F) :
    Calls Tryd.prog 12 #[va, vb] w fun e w' => e = .returned (.bool true) ∧ Below w.heap.size w w' := by
  obtain ⟨a, c, rfl, ha⟩ := ha
  obtain ⟨b, d, rfl, hb⟩ := hb
  by_cases h0 : 0 < n
  · obtain ⟨g, rfl, hg⟩ := ha h0
    obtain ⟨h, rfl, hh⟩ := hb h0
    exact sameN_rows g h c d n F w hn hg hh
  · obtain rfl : n = 0 := by omega
    exact sameN_zero a b c d w
end Go.Proofs.YtbmcjoaigajjkaaDoor
