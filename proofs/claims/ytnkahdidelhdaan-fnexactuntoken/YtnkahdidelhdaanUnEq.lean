/-
  Two lists made of the same tokens are alike.
-/
import Derived.Test.YtnkahdidelhdaanToTk
import Derived.Test.YtnkahdidelhdaanTkE2
namespace Go.Proofs.Ytnkahdidelhdaan
open Go.RowKit
set_option linter.unusedVariables false
def cellF (F : Nat → TkI) (j : Nat) : Value := if j % 4 = 0 then .int .i64 (F (j / 4)).k else if j % 4 = 1 then .int .i64 (F (j / 4)).b else if j % 4 = 2 then .int .i64 (F (j / 4)).d else .int .i64 (F (j / 4)).l
theorem cellF_0 (F : Nat → TkI) (i : Nat) : cellF F (4 * i) = .int .i64 (F i).k := by unfold cellF; rw [if_pos (by omega), show 4 * i / 4 = i by omega]
theorem cellF_1 (F : Nat → TkI) (i : Nat) : cellF F (4 * i + 1) = .int .i64 (F i).b := by unfold cellF; rw [if_neg (by omega), if_pos (by omega), show (4 * i + 1) / 4 = i by omega]
theorem cellF_2 (F : Nat → TkI) (i : Nat) : cellF F (4 * i + 2) = .int .i64 (F i).d := by unfold cellF; rw [if_neg (by omega), if_neg (by omega), if_pos (by omega), show (4 * i + 2) / 4 = i by omega]
theorem cellF_3 (F : Nat → TkI) (i : Nat) : cellF F (4 * i + 3) = .int .i64 (F i).l := by unfold cellF; rw [if_neg (by omega), if_neg (by omega), if_neg (by omega), show (4 * i + 3) / 4 = i by omega]
def cellX (F : Nat → TkI) (n : Nat) : List Value := (List.range (4 * n)).map (cellF F)
theorem cellX_at (F : Nat → TkI) (n j : Nat) (h : j < 4 * n) : (cellX F n)[j]? = some (cellF F j) := by
  unfold cellX; rw [List.getElem?_map, List.getElem?_range h]; rfl
theorem cellX_lt {F : Nat → TkI} {n j : Nat} {v : Value} (h : (cellX F n)[j]? = some v) : j < 4 * n := by
  obtain ⟨hl, _⟩ := List.getElem?_eq_some_iff.1 h
  simpa [cellX] using hl
theorem TkRow.at {w : World} {g n : Nat} {F : Nat → TkI} (h : TkRow w g n F) (j : Nat) (v : Value) (hv : (cellX F n)[j]? = some v) : w.cell? ⟨g, j, none⟩ = some v := by
  have hj := cellX_lt hv
  rw [cellX_at _ _ _ hj] at hv
  injection hv with hv
  subst hv
  obtain ⟨i, h4⟩ : ∃ i, j = 4 * i ∨ j = 4 * i + 1 ∨ j = 4 * i + 2 ∨ j = 4 * i + 3 := ⟨j / 4, by omega⟩
  rcases h4 with rfl | rfl | rfl | rfl
  · rw [cellF_0]; exact h.c0 i (by omega)
  · rw [cellF_1]; exact h.c1 i (by omega)
  · rw [cellF_2]; exact h.c2 i (by omega)
  · rw [cellF_3]; exact h.c3 i (by omega)
theorem eqTk_any (v1 v2 : Value) (n : Nat) (F : Nat → TkI) (w : World) (hn : n ≤ 1048576) (h1 : TkArg w v1 n F) (h2 : TkArg w v2 n F) :
    Calls Try.prog 8 #[v1, v2] w fun e w' => e = .returned (.bool true) ∧ Below w.heap.size w w' := by
  obtain ⟨a, c, rfl, ha⟩ := h1
  obtain ⟨b, d, rfl, hb⟩ := h2
  by_cases h0 : 0 < n
  · obtain ⟨g, rfl, hg⟩ := ha h0
    obtain ⟨h, rfl, hh⟩ := hb h0
    exact eqS_any g h c d n (cellX F n) w hn (fun i hi => ⟨_, _, _, _, by rw [cellX_at _ _ _ (by omega), cellF_0], by rw [cellX_at _ _ _ (by omega), cellF_1], by rw [cellX_at _ _ _ (by omega), cellF_2], by rw [cellX_at _ _ _ (by omega), cellF_3]⟩) hg.at hh.at hg.lt hh.lt
  · obtain rfl : n = 0 := by omega
    refine (eqS_zero a b c d w).mono ?_
    rintro e w' ⟨rfl, rfl⟩
    exact ⟨rfl, Below.refl _ _⟩
end Go.Proofs.Ytnkahdidelhdaan
