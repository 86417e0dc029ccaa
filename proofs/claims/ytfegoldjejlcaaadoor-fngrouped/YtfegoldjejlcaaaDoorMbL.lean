/-
  A row of members that is made.
-/
import Derived.Test.YtfegoldjejlcaaaDoorMbA
import Derived.Laws.AppendOwn
import Derived.OwnWalk
namespace Go.Proofs.YtfegoldjejlcaaaDoor
open Go.RowKit
set_option linter.unusedVariables false
set_option linter.unusedSimpArgs false
theorem hid {p : Prop} (h : p) : Hid p := h
def mbF (L : List MbI) (i : Nat) : MbI := L.getD i ⟨⟨#[]⟩, ⟨#[]⟩⟩
theorem mbF_at {L : List MbI} {i : Nat} (h : i < L.length) : mbF L i = L[i] := by
  unfold mbF; rw [List.getD_eq_getElem?_getD, List.getElem?_eq_getElem h]; rfl
def mbC (L : List MbI) : List Value := L.flatMap fun p => [.string p.a, .string p.d]
theorem mbC_snoc (L : List MbI) (p : MbI) : mbC L ++ [.string p.a, .string p.d] = mbC (L ++ [p]) := by simp [mbC]
theorem mbC_len (L : List MbI) : (mbC L).length = 2 * L.length := by
  induction L with
  | nil => rfl
  | cons p L ih =>
    have e : mbC (p :: L) = [.string p.a, .string p.d] ++ mbC L := rfl
    rw [e, List.length_append, ih]; simp; omega
theorem mbC_at : ∀ (L : List MbI) (i : Nat), i < L.length → (mbC L)[2 * i]? = some (.string (mbF L i).a) ∧ (mbC L)[2 * i + 1]? = some (.string (mbF L i).d)
  | [], _, h => by simp at h
  | p :: L, 0, _ => ⟨rfl, rfl⟩
  | p :: L, i + 1, h => by
    have ih := mbC_at L i (by simpa using h)
    exact ih
theorem own2_form {w : World} {B n : Nat} {v : Value} {xs : List Value} (h : w.ownsRow B 46 2 v n xs) (h0 : 0 < n) :
    ∃ g cap cur, v = .slice (some ⟨g, 0, none⟩) n cap ∧ B ≤ g ∧ w.heap[g]? = some (.cells cur 46 (0, 0)) ∧ 2 * n ≤ cur.size ∧ ∀ (j : Nat) (u : Value), xs[j]? = some u → cur[j]? = some u := by
  obtain ⟨hl, ⟨_, h1⟩ | ⟨g, cap, cur, h1, h2, h3, h4, h5, h6, h7⟩⟩ := h
  · omega
  · refine ⟨g, cap, cur, h1, h2, h3, by omega, fun j u hj => ?_⟩
    rw [← h7, List.getElem?_take] at hj
    split at hj
    · simpa using hj
    · cases hj
theorem own2_slice {w : World} {B n : Nat} {v : Value} {xs : List Value} (h : w.ownsRow B 46 2 v n xs) : ∃ a c, v = .slice a n c := by
  obtain ⟨hl, ⟨h0, hn⟩ | ⟨g, cap, cur, h1, _⟩⟩ := h
  · subst hn; exact ⟨_, _, h0⟩
  · exact ⟨_, _, h1⟩
theorem own2_arg {w : World} {B : Nat} {v : Value} {L : List MbI} (h : w.ownsRow B 46 2 v L.length (mbC L)) : MbArg w v L.length (mbF L) := by
  obtain ⟨a, c, rfl⟩ := own2_slice h
  refine ⟨a, c, rfl, fun h0 => ?_⟩
  obtain ⟨g, cap, cur, h1, h2, h3, h4, h5⟩ := own2_form h h0
  cases h1
  exact ⟨g, rfl, (Array.getElem?_eq_some_iff.1 h3).1, fun i hi => (cell_of_row _ _ _ _ _ _ h3).trans (h5 _ _ (mbC_at L i hi).1), fun i hi => (cell_of_row _ _ _ _ _ _ h3).trans (h5 _ _ (mbC_at L i hi).2)⟩
theorem own2_call {w w' : World} {B z : Nat} {e : TypeId} {v : Value} {n : Nat} {xs : List Value} (h : w.ownsRow B e z v n xs) (hb : Below w.heap.size w w') : w'.ownsRow B e z v n xs := by
  obtain ⟨h0, h1 | ⟨g, cap, cur, h1, h2, h3, h4, h5, h6, h7⟩⟩ := h
  · exact ⟨h0, Or.inl h1⟩
  · exact ⟨h0, Or.inr ⟨g, cap, cur, h1, h2, (hb.block g (Array.getElem?_eq_some_iff.1 h3).1).trans h3, h4, h5, h6, h7⟩⟩
theorem own2_base {w : World} {B C z : Nat} {e : TypeId} {v : Value} {n : Nat} {xs : List Value} (h : w.ownsRow B e z v n xs) (hC : C ≤ B) : w.ownsRow C e z v n xs := by
  obtain ⟨h0, h1 | ⟨g, cap, cur, h1, h2, h3⟩⟩ := h
  · exact ⟨h0, Or.inl h1⟩
  · exact ⟨h0, Or.inr ⟨g, cap, cur, h1, Nat.le_trans hC h2, h3⟩⟩
end Go.Proofs.YtfegoldjejlcaaaDoor
