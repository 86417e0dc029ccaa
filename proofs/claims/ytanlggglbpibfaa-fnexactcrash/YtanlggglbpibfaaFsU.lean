/-
  Disks that are marked, held, compared: the law's own ways.
-/
import Derived.Test.YtanlggglbpibfaaFsT
import Derived.Test.YtanlggglbpibfaaFMkB
import Derived.Test.YtanlggglbpibfaaQMkB
namespace Go.Proofs.Ytanlggglbpibfaa
open Go.RowKit
set_option linter.unusedVariables false
set_option linter.unusedSimpArgs false
set_option maxRecDepth 100000 in
theorem eqDl_any (v1 v2 : Value) (L S : List FlI) (O : List DqI) (w : World) (hn : L.length ≤ 1048576) (hm : S.length ≤ 1048576) (hk : O.length ≤ 1048576) (h1 : DkV w v1 L S O) (h2 : DkV w v2 L S O) :
    Calls Try.prog 28 #[v1, v2] w fun e w' => e = .returned (.bool true) ∧ Below w.heap.size w w' := by
  have e1 : flM L.length (flF L) = L := List.ext_getElem (flM_len _ _) fun j a b => by
    have := (flF_map (flF L) L.length).2 j b
    rw [flF_at (by rw [(flF_map (flF L) L.length).1]; exact b), flF_at b] at this
    exact this
  have e2 : flM S.length (flF S) = S := List.ext_getElem (flM_len _ _) fun j a b => by
    have := (flF_map (flF S) S.length).2 j b
    rw [flF_at (by rw [(flF_map (flF S) S.length).1]; exact b), flF_at b] at this
    exact this
  have e3 : dqM O.length (dqF O) = O := List.ext_getElem (dqM_len _ _) fun j a b => by
    have := (dqF_map (dqF O) O.length).2 j b
    rw [dqF_at (by rw [(dqF_map (dqF O) O.length).1]; exact b), dqF_at b] at this
    exact this
  exact eqDk_any v1 v2 L.length S.length O.length (flF L) (flF S) (dqF O) w hn hm hk (by rw [e1, e2, e3]; exact h1) (by rw [e1, e2, e3]; exact h2)
/-- rows that a disk holds: each nil or a block of its own -/
structure RwF (w : World) (v : Value) (n : Nat) : Prop where
  form : ∃ a c, v = .slice a n c ∧ (0 < n → ∃ g cur, a = some ⟨g, 0, none⟩ ∧ w.heap[g]? = some (.cells cur 88 (0, 0)) ∧ 2 * n ≤ cur.size)
structure RwQ (w : World) (v : Value) (n : Nat) : Prop where
  form : ∃ a c, v = .slice a n c ∧ (0 < n → ∃ g cur, a = some ⟨g, 0, none⟩ ∧ w.heap[g]? = some (.cells cur 36 (0, 0)) ∧ 4 * n ≤ cur.size)
theorem RwF.keep {w w' : World} {v : Value} {n : Nat} (h : RwF w v n) (hb : ∀ k, v.ownBlock = some k → w'.heap[k]? = w.heap[k]?) : RwF w' v n := by
  obtain ⟨a, c, rfl, h1⟩ := h.form
  exact ⟨a, c, rfl, fun h0 => by obtain ⟨g, cur, rfl, h2, h3⟩ := h1 h0; exact ⟨g, cur, rfl, (hb g rfl).trans h2, h3⟩⟩
theorem RwQ.keep {w w' : World} {v : Value} {n : Nat} (h : RwQ w v n) (hb : ∀ k, v.ownBlock = some k → w'.heap[k]? = w.heap[k]?) : RwQ w' v n := by
  obtain ⟨a, c, rfl, h1⟩ := h.form
  exact ⟨a, c, rfl, fun h0 => by obtain ⟨g, cur, rfl, h2, h3⟩ := h1 h0; exact ⟨g, cur, rfl, (hb g rfl).trans h2, h3⟩⟩
/-- marks of a list, nil or not -/
def MkF (w : World) (v : Value) (n k : Nat) : Prop := ∃ a c, v = .slice a n c ∧ (0 < n → ∃ g, a = some ⟨g, 0, none⟩ ∧ g < w.heap.size ∧ FmAt w g n k)
theorem markFv_any (v : Value) (n k : Nat) (w : World) (hn : n ≤ 1048576) (h1 : 1 ≤ k) (hk : k ≤ 4300000) (h : RwF w v n) :
    Calls Try.prog 72 #[v, .int .i64 (k : Int)] w fun e w' => (e = .returned (.int .i64 ((k + 2 * n : Nat) : Int)) ∧ MkF w' v n k) ∧ w.grownBy w' v.ownBlock := by
  obtain ⟨a, c, rfl, hr⟩ := h.form
  by_cases h0 : 0 < n
  · obtain ⟨g, cur, rfl, h2, h3⟩ := hr h0
    refine (markFB_any g c n k cur w hn h1 hk h2 h3).mono ?_
    rintro e w' ⟨⟨rfl, hm⟩, hg⟩
    exact ⟨⟨rfl, _, _, rfl, fun _ => ⟨g, rfl, Nat.lt_of_lt_of_le (Array.getElem?_eq_some_iff.1 h2).1 hg.size, hm⟩⟩, hg⟩
  · obtain rfl : n = 0 := by omega
    refine (markF_zero a c k w).mono ?_
    rintro e w' ⟨rfl, rfl⟩
    exact ⟨⟨rfl, _, _, rfl, fun h => absurd h (by omega)⟩, World.grownBy.refl _ _⟩
theorem markQv_any (v : Value) (n k : Nat) (w : World) (hn : n ≤ 1048576) (h1 : 1 ≤ k) (hk : k ≤ 4300000) (h : RwQ w v n) :
    Calls Try.prog 73 #[v, .int .i64 (k : Int)] w fun e w' => e = .returned (.int .i64 ((k + 4 * n : Nat) : Int)) ∧ w.grownBy w' v.ownBlock := by
  obtain ⟨a, c, rfl, hr⟩ := h.form
  by_cases h0 : 0 < n
  · obtain ⟨g, cur, rfl, h2, h3⟩ := hr h0
    refine (markQB_any g c n k cur w hn h1 hk h2 h3).mono ?_
    rintro e w' ⟨⟨rfl, hm⟩, hg⟩
    exact ⟨rfl, hg⟩
  · obtain rfl : n = 0 := by omega
    refine (markQ_zero a c k w).mono ?_
    rintro e w' ⟨rfl, rfl⟩
    exact ⟨rfl, World.grownBy.refl _ _⟩
theorem heldFv_any (v : Value) (n k : Nat) (w : World) (hn : n ≤ 1000) (h1 : 1 ≤ k) (hk : k ≤ 1000) (h : MkF w v n k) :
    Calls Try.prog 74 #[v, .int .i64 (k : Int)] w fun e w' => e = .returned (.int .i64 ((k + 2 * n : Nat) : Int)) ∧ Below w.heap.size w w' := by
  obtain ⟨a, c, rfl, hr⟩ := h
  by_cases h0 : 0 < n
  · obtain ⟨g, rfl, h2, h3⟩ := hr h0
    exact heldF_any g c n k w hn h1 hk h2 h3
  · obtain rfl : n = 0 := by omega
    refine (heldF_zero a c k w).mono ?_
    rintro e w' ⟨rfl, rfl⟩
    exact ⟨rfl, Below.refl _ _⟩
end Go.Proofs.Ytanlggglbpibfaa
