/-
  Of what was there nothing has turned, and the tape was asked no less often: the form in which a sort takes what its comparer does.
-/
import Derived.Test.YtfegoldjejlcaaaDoorRows
import Derived.Below
import Derived.Sort.Grow
import Derived.Deep.Draws
namespace Go.Proofs.YtfegoldjejlcaaaDoor
open Go.RowKit
set_option linter.unusedVariables false
set_option linter.unusedSimpArgs false
structure GrD (w w' : World) : Prop where
  below : Below w.heap.size w w'
  drawn : w.drawn ≤ w'.drawn
theorem GrD.refl (w : World) : GrD w w := ⟨Below.refl _ _, Nat.le_refl _⟩
theorem GrD.trans {a b c : World} (h : GrD a b) (k : GrD b c) : GrD a c := ⟨h.below.trans (k.below.mono h.below.size), Nat.le_trans h.drawn k.drawn⟩
theorem GrD.alloc {a w : World} (h : GrD a w) (o : Obj) : GrD a (w.alloc o) := ⟨h.below.alloc h.below.size o, h.drawn⟩
theorem GrD.drew {a w : World} (h : GrD a w) : GrD a w.drew := ⟨h.below.drew, Nat.le_succ_of_le h.drawn⟩
theorem GrD.grow {w w' : World} (h : GrD w w') : ∃ (q : Nat) (os : Array Obj), w' = Go.Sort.grow (w.drewN q) os := by
  refine ⟨w'.drawn - w.drawn, w'.heap.extract w.heap.size w'.heap.size, ?_⟩
  have hd := h.drawn
  have h := h.below
  obtain ⟨heap', tape', drawn', os', output'⟩ := w'
  have e1 : os' = w.os := h.os
  have e2 : tape' = w.tape := h.tape
  have e3 : output' = w.output := h.output
  have hs : w.heap.size ≤ heap'.size := h.size
  have hb : ∀ k, k < w.heap.size → heap'[k]? = w.heap[k]? := h.block
  subst e1 e2 e3
  have eh : heap' = w.heap ++ heap'.extract w.heap.size heap'.size := by
    apply Array.ext_getElem?
    intro k
    by_cases hk : k < w.heap.size
    · rw [Array.getElem?_append_left hk]; exact hb k hk
    · rw [Array.getElem?_append_right (by omega), Array.getElem?_extract]
      by_cases hk2 : k < heap'.size
      · rw [if_pos (by omega)]; congr 1; omega
      · rw [if_neg (by omega), Array.getElem?_eq_none (by omega)]
  have ed : drawn' = w.drawn + (drawn' - w.drawn) := by
    have : w.drawn ≤ drawn' := hd
    omega
  simp only [Go.Sort.grow, World.drewN]
  congr 1
end Go.Proofs.YtfegoldjejlcaaaDoor
