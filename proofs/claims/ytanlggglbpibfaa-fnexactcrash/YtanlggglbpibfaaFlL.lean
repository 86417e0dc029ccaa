/-
  A row of files that is made.
-/
import Derived.Test.YtanlggglbpibfaaFlA
import Derived.Laws.AppendOwn
import Derived.OwnWalk
namespace Go.Proofs.Ytanlggglbpibfaa
open Go.RowKit
set_option linter.unusedVariables false
set_option linter.unusedSimpArgs false
theorem hid {p : Prop} (h : p) : Hid p := h
def flF (L : List FlI) (i : Nat) : FlI := L.getD i ⟨⟨#[]⟩, ⟨#[]⟩⟩
theorem flF_at {L : List FlI} {i : Nat} (h : i < L.length) : flF L i = L[i] := by
  unfold flF; rw [List.getD_eq_getElem?_getD, List.getElem?_eq_getElem h]; rfl
def flC (L : List FlI) : List Value := L.flatMap fun p => [.string p.a, .string p.d]
theorem flC_snoc (L : List FlI) (p : FlI) : flC L ++ [.string p.a, .string p.d] = flC (L ++ [p]) := by simp [flC]
theorem flC_len (L : List FlI) : (flC L).length = 2 * L.length := by
  induction L with
  | nil => rfl
  | cons p L ih =>
    have e : flC (p :: L) = [.string p.a, .string p.d] ++ flC L := rfl
    rw [e, List.length_append, ih]; simp; omega
theorem flC_at : ∀ (L : List FlI) (i : Nat), i < L.length → (flC L)[2 * i]? = some (.string (flF L i).a) ∧ (flC L)[2 * i + 1]? = some (.string (flF L i).d)
  | [], _, h => by simp at h
  | p :: L, 0, _ => ⟨rfl, rfl⟩
  | p :: L, i + 1, h => by
    have ih := flC_at L i (by simpa using h)
    exact ih
theorem ownF_form {w : World} {B n : Nat} {v : Value} {xs : List Value} (h : w.ownsRow B 88 2 v n xs) (h0 : 0 < n) :
    ∃ g cap cur, v = .slice (some ⟨g, 0, none⟩) n cap ∧ B ≤ g ∧ w.heap[g]? = some (.cells cur 88 (0, 0)) ∧ 2 * n ≤ cur.size ∧ ∀ (j : Nat) (u : Value), xs[j]? = some u → cur[j]? = some u := by
  obtain ⟨hl, ⟨_, h1⟩ | ⟨g, cap, cur, h1, h2, h3, h4, h5, h6, h7⟩⟩ := h
  · omega
  · refine ⟨g, cap, cur, h1, h2, h3, by omega, fun j u hj => ?_⟩
    rw [← h7, List.getElem?_take] at hj
    split at hj
    · simpa using hj
    · cases hj
theorem ownF_slice {w : World} {B n : Nat} {v : Value} {xs : List Value} (h : w.ownsRow B 88 2 v n xs) : ∃ a c, v = .slice a n c := by
  obtain ⟨hl, ⟨h0, hn⟩ | ⟨g, cap, cur, h1, _⟩⟩ := h
  · subst hn; exact ⟨_, _, h0⟩
  · exact ⟨_, _, h1⟩
theorem ownF_arg {w : World} {B : Nat} {v : Value} {L : List FlI} (h : w.ownsRow B 88 2 v L.length (flC L)) : FlArg w v L.length (flF L) := by
  obtain ⟨a, c, rfl⟩ := ownF_slice h
  refine ⟨a, c, rfl, fun h0 => ?_⟩
  obtain ⟨g, cap, cur, h1, h2, h3, h4, h5⟩ := ownF_form h h0
  cases h1
  exact ⟨g, rfl, (Array.getElem?_eq_some_iff.1 h3).1, fun i hi => (cell_of_row _ _ _ _ _ _ h3).trans (h5 _ _ (flC_at L i hi).1), fun i hi => (cell_of_row _ _ _ _ _ _ h3).trans (h5 _ _ (flC_at L i hi).2)⟩
theorem ownF_call {w w' : World} {B z : Nat} {e : TypeId} {v : Value} {n : Nat} {xs : List Value} (h : w.ownsRow B e z v n xs) (hb : Below w.heap.size w w') : w'.ownsRow B e z v n xs := by
  obtain ⟨h0, h1 | ⟨g, cap, cur, h1, h2, h3, h4, h5, h6, h7⟩⟩ := h
  · exact ⟨h0, Or.inl h1⟩
  · exact ⟨h0, Or.inr ⟨g, cap, cur, h1, h2, (hb.block g (Array.getElem?_eq_some_iff.1 h3).1).trans h3, h4, h5, h6, h7⟩⟩
theorem ownF_base {w : World} {B C z : Nat} {e : TypeId} {v : Value} {n : Nat} {xs : List Value} (h : w.ownsRow B e z v n xs) (hC : C ≤ B) : w.ownsRow C e z v n xs := by
  obtain ⟨h0, h1 | ⟨g, cap, cur, h1, h2, h3⟩⟩ := h
  · exact ⟨h0, Or.inl h1⟩
  · exact ⟨h0, Or.inr ⟨g, cap, cur, h1, Nat.le_trans hC h2, h3⟩⟩
end Go.Proofs.Ytanlggglbpibfaa
