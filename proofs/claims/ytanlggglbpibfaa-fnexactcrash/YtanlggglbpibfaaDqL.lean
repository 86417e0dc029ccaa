/-
  A row of ops that is made.
-/
import Derived.Test.YtanlggglbpibfaaDqA
import Derived.Test.YtanlggglbpibfaaFlL
import Derived.Laws.AppendOwn
import Derived.OwnWalk
namespace Go.Proofs.Ytanlggglbpibfaa
open Go.RowKit
set_option linter.unusedVariables false
set_option linter.unusedSimpArgs false
def dqF (L : List DqI) (i : Nat) : DqI := L.getD i ⟨0, ⟨#[]⟩, ⟨#[]⟩, ⟨#[]⟩⟩
theorem dqF_at {L : List DqI} {i : Nat} (h : i < L.length) : dqF L i = L[i] := by
  unfold dqF; rw [List.getD_eq_getElem?_getD, List.getElem?_eq_getElem h]; rfl
def dqC (L : List DqI) : List Value := L.flatMap fun p => [.int .i64 p.m, .string p.a, .string p.p, .string p.d]
theorem dqC_snoc (L : List DqI) (p : DqI) : dqC L ++ [.int .i64 p.m, .string p.a, .string p.p, .string p.d] = dqC (L ++ [p]) := by simp [dqC]
theorem dqC_len (L : List DqI) : (dqC L).length = 4 * L.length := by
  induction L with
  | nil => rfl
  | cons p L ih =>
    have e : dqC (p :: L) = [.int .i64 p.m, .string p.a, .string p.p, .string p.d] ++ dqC L := rfl
    rw [e, List.length_append, ih]; simp; omega
theorem dqC_at : ∀ (L : List DqI) (i : Nat), i < L.length → (dqC L)[4 * i]? = some (.int .i64 (dqF L i).m) ∧ (dqC L)[4 * i + 1]? = some (.string (dqF L i).a) ∧ (dqC L)[4 * i + 2]? = some (.string (dqF L i).p) ∧ (dqC L)[4 * i + 3]? = some (.string (dqF L i).d)
  | [], _, h => by simp at h
  | p :: L, 0, _ => ⟨rfl, rfl, rfl, rfl⟩
  | p :: L, i + 1, h => by
    have ih := dqC_at L i (by simpa using h)
    exact ih
theorem ownQ_form {w : World} {B n : Nat} {v : Value} {xs : List Value} (h : w.ownsRow B 36 4 v n xs) (h0 : 0 < n) :
    ∃ g cap cur, v = .slice (some ⟨g, 0, none⟩) n cap ∧ B ≤ g ∧ w.heap[g]? = some (.cells cur 36 (0, 0)) ∧ 4 * n ≤ cur.size ∧ ∀ (j : Nat) (u : Value), xs[j]? = some u → cur[j]? = some u := by
  obtain ⟨hl, ⟨_, h1⟩ | ⟨g, cap, cur, h1, h2, h3, h4, h5, h6, h7⟩⟩ := h
  · omega
  · refine ⟨g, cap, cur, h1, h2, h3, by omega, fun j u hj => ?_⟩
    rw [← h7, List.getElem?_take] at hj
    split at hj
    · simpa using hj
    · cases hj
theorem ownQ_slice {w : World} {B n : Nat} {v : Value} {xs : List Value} (h : w.ownsRow B 36 4 v n xs) : ∃ a c, v = .slice a n c := by
  obtain ⟨hl, ⟨h0, hn⟩ | ⟨g, cap, cur, h1, _⟩⟩ := h
  · subst hn; exact ⟨_, _, h0⟩
  · exact ⟨_, _, h1⟩
theorem ownQ_arg {w : World} {B : Nat} {v : Value} {L : List DqI} (h : w.ownsRow B 36 4 v L.length (dqC L)) : DqArg w v L.length (dqF L) := by
  obtain ⟨a, c, rfl⟩ := ownQ_slice h
  refine ⟨a, c, rfl, fun h0 => ?_⟩
  obtain ⟨g, cap, cur, h1, h2, h3, h4, h5⟩ := ownQ_form h h0
  cases h1
  exact ⟨g, rfl, (Array.getElem?_eq_some_iff.1 h3).1, fun i hi => (cell_of_row _ _ _ _ _ _ h3).trans (h5 _ _ (dqC_at L i hi).1), fun i hi => (cell_of_row _ _ _ _ _ _ h3).trans (h5 _ _ (dqC_at L i hi).2.1), fun i hi => (cell_of_row _ _ _ _ _ _ h3).trans (h5 _ _ (dqC_at L i hi).2.2.1), fun i hi => (cell_of_row _ _ _ _ _ _ h3).trans (h5 _ _ (dqC_at L i hi).2.2.2)⟩
end Go.Proofs.Ytanlggglbpibfaa
