/-
  The reader of drawn bytes: what 'next' answers: a byte, whatever it is; of memory only the reader's own place is changed.
-/
import Derived.Test.YtfegoldjejlcaaaDoorRows
import Derived.WalkKit
import Derived.WalkSpells
namespace Go.Proofs.YtfegoldjejlcaaaDoor
open Go.RowKit

def nextIntOf : Value → Int | .int _ q => q | _ => 0
/-- the bytes that came in -/
def Src (w0 : World) (a : Option Addr) (len : Nat) : Prop :=
  len ≤ 140737488355328 ∧ (len = 0 ∨ ∃ b o : Nat, a = some ⟨b, o, none⟩ ∧ b < w0.heap.size ∧ ∀ i, i < len → ∃ c : Nat, c < 256 ∧ w0.cell? ⟨b, o + i, none⟩ = some (.int .u8 (c : Int)))
/-- the reader stands at block g -/
structure RD (w0 : World) (a : Option Addr) (len cap g : Nat) (W : World) : Prop where
  below : Below w0.heap.size w0 W
  gnew : w0.heap.size ≤ g
  cells : ∃ p : Nat, p ≤ len ∧ W.heap[g]? = some (.cells #[.slice a len cap, .int .i64 (p : Int)] 105 (0, 0))

theorem RD.drew {w0 : World} {a : Option Addr} {len cap g : Nat} {W : World} (h : RD w0 a len cap g W) : RD w0 a len cap g W.drew :=
  ⟨h.below.drew, h.gnew, h.cells⟩

set_option maxRecDepth 100000 in
set_option maxHeartbeats 1000000 in
theorem next_any {w0 : World} {a : Option Addr} {len cap g : Nat} {W : World} (hS : Src w0 a len) (h : RD w0 a len cap g W) :
    Calls Tryd.prog 87 #[.pointer (some ⟨g, 0, none⟩)] W fun e w' => (∃ c : Nat, c < 256 ∧ e = .returned (.int .i64 (c : Int))) ∧ RD w0 a len cap g w' ∧ W.grownBy w' (some g) := by
  obtain ⟨hb, hg, p, hp, hh⟩ := h
  obtain ⟨hl, hS⟩ := hS
  have h0 : W.cell? ⟨g, 0, none⟩ = some (.slice a len cap) := by rw [cell_of_row W g 0 _ _ _ hh]; rfl
  have h1 : W.cell? ⟨g, 1, none⟩ = some (.int .i64 (p : Int)) := by rw [cell_of_row W g 1 _ _ _ hh]; rfl
  have hf : W.frozen? ⟨g, 1, none⟩ = false := frozen_of_row W g 1 _ _ hh
  by_cases hlt : p < len
  · obtain ⟨b, o, rfl, hbb, hc⟩ : ∃ b o : Nat, a = some ⟨b, o, none⟩ ∧ b < w0.heap.size ∧ ∀ i, i < len → ∃ c : Nat, c < 256 ∧ w0.cell? ⟨b, o + i, none⟩ = some (.int .u8 (c : Int)) := by
      rcases hS with h | h
      · omega
      · exact h
    obtain ⟨c, hc1, hc2⟩ := hc p hlt
    have hc3 : W.cell? ⟨b, o + p, none⟩ = some (.int .u8 (c : Int)) := (hb.cell (p := ⟨b, o + p, none⟩) hbb).trans hc2
    have hbg : ¬ b = g := by omega
    have hpl : (p : Int) < len := by omega
    clear hc hc2
    have HH : Hid _ := hh
    have HB : Hid _ := hb
    clear hh hb
    go_enter Tryd.func87, Tryd.ntmps87
    go_wp2
    go_region
    go_wp2
    go_region
    go_wp2
    go_ret
    refine ⟨⟨c, hc1, rfl⟩, ⟨(HB.out.setCell (p := ⟨g, 1, none⟩) hg _).drew.drew, hg, p + 1, by omega, ?_⟩, ⟨rfl, rfl, rfl, by simp [World.setCell], fun k _ hne => ?_⟩⟩
    · exact heap_setCell_same W g 1 _ _ _ HH.out
    · exact heap_setCell_other W ⟨g, 1, none⟩ k _ (fun e => hne (by rw [e]))
  · have hple : (len : Int) ≤ p := by omega
    go_enter Tryd.func87, Tryd.ntmps87
    go_wp2
    go_region
    go_wp2
    go_ret
    exact ⟨⟨0, by omega, rfl⟩, ⟨hb.drew, hg, p, hp, hh⟩, ⟨rfl, rfl, rfl, Nat.le_refl _, fun _ _ _ => rfl⟩⟩
end Go.Proofs.YtfegoldjejlcaaaDoor
