/-
  As it was, but for some ranges of blocks.
-/
import Derived.Test.YtbmcjoaigajjkaaDoorRows
import Derived.Below
namespace Go.Proofs.YtbmcjoaigajjkaaDoor
open Go.RowKit
set_option linter.unusedVariables false
set_option linter.unusedSimpArgs false
/-- which blocks are as they were: those that are not told -/
structure Kp (w w' : World) (bs : List (Nat × Nat)) : Prop where
  size : w.heap.size ≤ w'.heap.size
  same : ∀ k, k < w.heap.size → (∀ b ∈ bs, ¬ (b.1 ≤ k ∧ k < b.2)) → w'.heap[k]? = w.heap[k]?
theorem Kp.refl (w : World) (bs : List (Nat × Nat)) : Kp w w bs := ⟨Nat.le_refl _, fun _ _ _ => rfl⟩
theorem Kp.below {w w' w2 : World} {bs : List (Nat × Nat)} (h : Kp w w' bs) (hb : Below w'.heap.size w' w2) : Kp w w2 bs :=
  ⟨Nat.le_trans h.size hb.size, fun k hk hn => (hb.block k (Nat.lt_of_lt_of_le hk h.size)).trans (h.same k hk hn)⟩
theorem Kp.more {w w' : World} {bs : List (Nat × Nat)} (h : Kp w w' bs) (b : Nat × Nat) : Kp w w' (b :: bs) := ⟨h.size, fun k hk hn => h.same k hk fun c hc => hn c (List.mem_cons_of_mem _ hc)⟩
theorem own_callK {w w' : World} {B z : Nat} {e : TypeId} {v : Value} {n : Nat} {xs : List Value} (h : w.ownsRow B e z v n xs) (hb : Below w.heap.size w w') : w'.ownsRow B e z v n xs := by
  obtain ⟨h0, h1 | ⟨g, cap, cur, h1, h2, h3, h4, h5, h6, h7⟩⟩ := h
  · exact ⟨h0, Or.inl h1⟩
  · exact ⟨h0, Or.inr ⟨g, cap, cur, h1, h2, (hb.block g (Array.getElem?_eq_some_iff.1 h3).1).trans h3, h4, h5, h6, h7⟩⟩
end Go.Proofs.YtbmcjoaigajjkaaDoor
