/-
  A row of files that grows.
-/
import Derived.Test.YtanlggglbpibfaaDkF
import Derived.Laws.AppendOwn
import Derived.OwnWalk
namespace Go.Proofs.Ytanlggglbpibfaa
open Go.RowKit
set_option linter.unusedVariables false
set_option linter.unusedSimpArgs false
theorem two_fl (a d : ByteArray) : ∀ u ∈ [Value.string a, .string d], u.oneCell' = true := by
  intro u hu
  simp only [List.mem_cons, List.not_mem_nil, or_false] at hu
  rcases hu with rfl | rfl <;> rfl
theorem cell_twoF {W : World} {x y : Value} {t : TypeId} {k : Nat} (hk : W.heap.size = k) : ∀ j q, [x, y][j]? = some q → (W.alloc (.cells #[x, y] t)).cell? ((⟨k, 0, none⟩ : Addr).add j) = some q := by
  subst hk
  intro j u hj
  match j, hj with
  | 0, hj => cases hj; exact cell_of_row _ _ 0 _ _ _ (heap_alloc_new W _)
  | 1, hj => cases hj; exact cell_of_row _ _ 1 _ _ _ (heap_alloc_new W _)
  | k + 2, hj => simp at hj
structure FlW (B : Nat) (w wr : World) (v : Value) (L : List FlI) : Prop where
  own : wr.ownsRow B 88 2 v L.length (flC L)
  bel : Below w.heap.size w wr
  lo : w.heap.size ≤ B ∧ B ≤ wr.heap.size
theorem FlW.call {B : Nat} {w wr w' : World} {v : Value} {L : List FlI} (h : FlW B w wr v L) (hb : Below wr.heap.size wr w') : FlW B w w' v L := ⟨ownF_call h.own hb, blFl h.bel hb h.bel.size, h.lo.1, Nat.le_trans h.lo.2 hb.size⟩
theorem FlW.made (w : World) : FlW w.heap.size w (w.alloc (.cells #[] 88)) (.slice (some ⟨w.heap.size, 0, none⟩) 0 0) [] :=
  ⟨World.ownsRow_made (e := 88) (size := 2) w #[] 0 (Nat.le_refl _) (by unfold maxLen; omega) rfl, (Below.refl _ _).alloc (Nat.le_refl _) _, Nat.le_refl _, by simp⟩
theorem FlW.none (w : World) : FlW w.heap.size w w (.slice none 0 0) [] := ⟨World.ownsRow_nil _ _ _ _, Below.refl _ _, Nat.le_refl _, Nat.le_refl _⟩
theorem FlW.one {B : Nat} {w W w' : World} {v v' : Value} {L : List FlI} {a d : ByteArray} {o : Obj} (h : FlW B w W v L) (hown : w'.ownsRow B 88 2 v' (L.length + 1) (flC L ++ [.string a, .string d])) (hg : (W.alloc o).grownBy w' v.ownBlock) : FlW B w w' v' (L ++ [⟨a, d⟩]) := by
  refine ⟨?_, (h.bel.alloc h.bel.size _).grown hg (by rw [World.size_alloc]; have := h.bel.size; omega) (fun k hk => Nat.le_trans h.lo.1 (h.own.lt k hk).1), h.lo.1, by have := hg.size; rw [World.size_alloc] at this; have := h.lo.2; omega⟩
  rw [flC_snoc L ⟨a, d⟩] at hown
  simpa only [List.length_append, List.length_singleton, List.length_cons, List.length_nil] using hown
theorem take_snoc {L : List FlI} {i : Nat} (h : i < L.length) : L.take (i + 1) = L.take i ++ [flF L i] := by
  rw [List.take_add_one, List.getElem?_eq_getElem h, flF_at h]; rfl
end Go.Proofs.Ytanlggglbpibfaa
