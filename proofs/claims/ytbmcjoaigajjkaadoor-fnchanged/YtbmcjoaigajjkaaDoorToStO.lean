/-
  Lists of texts as answers of a law: where they lie, marks at whatever list.
-/
import Derived.Test.YtbmcjoaigajjkaaDoorStMk
import Derived.Test.YtbmcjoaigajjkaaDoorKp
namespace Go.Proofs.YtbmcjoaigajjkaaDoor
open Go.RowKit
set_option linter.unusedVariables false
set_option linter.unusedSimpArgs false
def StArg (w : World) (v : Value) (L : List ByteArray) : Prop := ∃ a c, v = .slice a L.length c ∧ (0 < L.length → ∃ g, a = some ⟨g, 0, none⟩ ∧ g < w.heap.size ∧ ∀ j u, (stC L)[j]? = some u → w.cell? ⟨g, j, none⟩ = some u)
theorem StArg.below {w w' : World} {v : Value} {L : List ByteArray} (h : StArg w v L) (hb : Below w.heap.size w w') : StArg w' v L := by
  obtain ⟨a, c, h1, h2⟩ := h
  exact ⟨a, c, h1, fun h0 => by
    obtain ⟨g, h3, h4, h5⟩ := h2 h0
    exact ⟨g, h3, Nat.lt_of_lt_of_le h4 hb.size, fun j u hj => (hb.cell (p := ⟨g, j, none⟩) h4).trans (h5 j u hj)⟩⟩
def StO (w : World) (B T : Nat) (v : Value) (n : Nat) : Prop := ∃ a c, v = .slice a n c ∧ (0 < n → ∃ g cur, a = some ⟨g, 0, none⟩ ∧ B ≤ g ∧ g < T ∧ w.heap[g]? = some (.cells cur 9 (0, 0)) ∧ n ≤ cur.size)
theorem ownSt_form {w : World} {B n : Nat} {v : Value} {xs : List Value} (h : w.ownsRow B 9 1 v n xs) (h0 : 0 < n) : ∃ g c cur, v = .slice (some ⟨g, 0, none⟩) n c ∧ B ≤ g ∧ w.heap[g]? = some (.cells cur 9 (0, 0)) ∧ n ≤ cur.size ∧ ∀ (j : Nat) (u : Value), xs[j]? = some u → cur[j]? = some u := by
  obtain ⟨hl, ⟨_, h1⟩ | ⟨g, cap, cur, h1, h2, h3, h4, h5, h6, h7⟩⟩ := h
  · omega
  · refine ⟨g, cap, cur, h1, h2, h3, by omega, fun j u hj => ?_⟩
    rw [← h7, List.getElem?_take] at hj
    split at hj
    · simpa using hj
    · cases hj
theorem ownSt_slice {w : World} {B n : Nat} {v : Value} {xs : List Value} (h : w.ownsRow B 9 1 v n xs) : ∃ a c, v = .slice a n c := by
  obtain ⟨hl, ⟨h0, hn⟩ | ⟨g, cap, cur, h1, _⟩⟩ := h
  · subst hn; exact ⟨_, _, h0⟩
  · exact ⟨_, _, h1⟩
theorem ownSt_arg {w : World} {B : Nat} {v : Value} {L : List ByteArray} (h : w.ownsRow B 9 1 v L.length (stC L)) : StArg w v L := by
  obtain ⟨a, c, rfl⟩ := ownSt_slice h
  refine ⟨a, c, rfl, fun h0 => ?_⟩
  obtain ⟨g, c2, cur, e, _, h3, h4, h5⟩ := ownSt_form h h0
  cases e
  exact ⟨g, rfl, (Array.getElem?_eq_some_iff.1 h3).1, fun j u hu => (cell_of_row _ _ _ _ _ _ h3).trans (h5 j u hu)⟩
theorem ownSt_StO {w : World} {B n : Nat} {v : Value} {xs : List Value} (h : w.ownsRow B 9 1 v n xs) : StO w B w.heap.size v n := by
  obtain ⟨a, c, rfl⟩ := ownSt_slice h
  refine ⟨a, c, rfl, fun h0 => ?_⟩
  obtain ⟨g, cap, cur, h1, h2, h3, h4, _⟩ := ownSt_form h h0
  cases h1
  exact ⟨g, cur, rfl, h2, (Array.getElem?_eq_some_iff.1 h3).1, h3, h4⟩
theorem StO.kept {w w' : World} {bs : List (Nat × Nat)} {B T n : Nat} {v : Value} (h : StO w B T v n) (hk : Kp w w' bs) (hd : ∀ b ∈ bs, b.2 ≤ B ∨ T ≤ b.1) : StO w' B T v n := by
  obtain ⟨a, c, rfl, hr⟩ := h
  refine ⟨a, c, rfl, fun h0 => ?_⟩
  obtain ⟨g, cur, h1, h2, h3, h4, h5⟩ := hr h0
  exact ⟨g, cur, h1, h2, h3, (hk.same g (Array.getElem?_eq_some_iff.1 h4).1 fun b hb c => by rcases hd b hb with e | e <;> omega).trans h4, h5⟩
theorem StArg.kept {w w' : World} {bs : List (Nat × Nat)} {B T : Nat} {v : Value} {L : List ByteArray} (h : StArg w v L) (ho : StO w B T v L.length) (hk : Kp w w' bs) (hd : ∀ b ∈ bs, b.2 ≤ B ∨ T ≤ b.1) : StArg w' v L := by
  obtain ⟨a, c, rfl, hr⟩ := h
  refine ⟨a, c, rfl, fun h0 => ?_⟩
  obtain ⟨g, rfl, hl, hrow⟩ := hr h0
  obtain ⟨a2, c2, e2, ho2⟩ := ho
  cases e2
  obtain ⟨g2, cur, e3, h2, h3, h4, _⟩ := ho2 h0
  cases e3
  have hb := hk.same g hl fun b hb c => by rcases hd b hb with e | e <;> omega
  exact ⟨g, rfl, Nat.lt_of_lt_of_le hl hk.size, fun j u hu => (World.cell?_of_block (a := ⟨g, j, none⟩) hb).trans (hrow j u hu)⟩
/-- a list of texts that bears marks from 1 on -/
def MkLSt (w : World) (v : Value) (n : Nat) : Prop := ∃ a c, v = .slice a n c ∧ (0 < n → ∃ g, a = some ⟨g, 0, none⟩ ∧ g < w.heap.size ∧ ∀ j, j < n → w.cell? ⟨g, j, none⟩ = some (.string (mkT (j + 1))))
theorem MkLSt.below {w w' : World} {v : Value} {n : Nat} (h : MkLSt w v n) (hb : Below w.heap.size w w') : MkLSt w' v n := by
  obtain ⟨a, c, rfl, hr⟩ := h
  refine ⟨a, c, rfl, fun h0 => ?_⟩
  obtain ⟨g, h1, h2, h3⟩ := hr h0
  exact ⟨g, h1, Nat.lt_of_lt_of_le h2 hb.size, fun j hj => (hb.cell (p := ⟨g, j, none⟩) h2).trans (h3 j hj)⟩
end Go.Proofs.YtbmcjoaigajjkaaDoor
