/-
  What lies under a path: the node itself first, the others behind it, each a right path under it; one that has others under it is a directory.
-/
import Derived.Test.YtfegoldjejlcaaaDoorUdS
import Derived.Test.YtfegoldjejlcaaaDoorTrG
namespace Go.Proofs.YtfegoldjejlcaaaDoor
open Go.RowKit
set_option linter.unusedVariables false
set_option linter.unusedSimpArgs false
theorem un_form {s q : ByteArray} (h : pathB q.toList = true) (hu : unL s.data.toList q.data.toList) (hne : q ≠ s) : s.size + 2 ≤ q.size ∧ q.extract 0 (s.size + 1) = s ++ ⟨#[47]⟩ := by
  rcases hu with e | ⟨r, e⟩
  · exact absurd (ByteArray.ext (Array.ext' e)) hne
  · have hl : q.size = s.size + (r.length + 1) := by
      have := congrArg List.length e
      simpa using this
    constructor
    · have : r ≠ [] := by
        rintro rfl
        rw [Lib.toList_data, e] at h
        unfold pathB at h
        rw [pts_cutM] at h
        simp [pts, nameB] at h
      have := List.length_pos_iff.2 this
      omega
    · apply ByteArray.ext
      apply Array.ext'
      rw [ByteArray.data_extract, Array.toList_extract, e, ByteArray.data_append, Array.toList_append]
      have e2 : (s.data.toList ++ 47 :: r).take (s.data.toList.length + 1) = s.data.toList ++ [47] := by rw [List.take_length_add_append]; rfl
      have e1 : s.data.toList.length = s.size := rfl
      rw [e1] at e2
      simpa [List.extract] using e2
theorem un_lt {s q : ByteArray} (hu : unL s.data.toList q.data.toList) (hne : q ≠ s) : pL s q := by
  rcases hu with e | ⟨r, e⟩
  · exact absurd (ByteArray.ext (Array.ext' e)) hne
  · unfold pL
    rw [Lib.toList_data, Lib.toList_data, e]
    exact blt_pre _ _ _
theorem un_head {F : Nat → NdI} {n j : Nat} {s : ByteArray} (hF : trV F n) (hj : j < n) (e : (F j).p = s) : ∃ t, uf F s n = F j :: t ∧ ∀ q ∈ t, pL s q.p := by
  have hr := uf_rise (s := s) hF n (Nat.le_refl _)
  have hm : F j ∈ uf F s n := (uf_mem F s (F j) n).2 ⟨j, hj, rfl, Or.inl (by rw [e])⟩
  cases hu : uf F s n with
  | nil => rw [hu] at hm; cases hm
  | cons x t =>
    rw [hu] at hr hm
    rw [List.pairwise_cons] at hr
    have hx : x ∈ uf F s n := by rw [hu]; exact List.mem_cons_self
    obtain ⟨i, hi, e2, hux⟩ := (uf_mem F s x n).1 hx
    rcases List.mem_cons.1 hm with h | h
    · subst h
      exact ⟨t, rfl, fun q hq => by have := hr.1 q hq; rwa [e] at this⟩
    · have h2 := hr.1 _ h
      rw [e] at h2
      by_cases hs : x.p = s
      · rw [hs] at h2; exact absurd rfl (pL_ne h2)
      · exact absurd rfl (pL_ne (pL_trans h2 (un_lt hux hs)))
theorem un_dir {F : Nat → NdI} {n : Nat} {s : ByteArray} (hF : trV F n) : ∀ i, i < n → unL s.data.toList (F i).p.data.toList → (F i).p ≠ s → ∃ k, k < n ∧ (F k).p = s ∧ (F k).r = true := by
  intro i
  induction i using Nat.strongRecOn with
  | ind i ih =>
    intro hi hu hne
    have hp := (hF i hi).1.1
    obtain ⟨B, hB⟩ := (pcs_pre hp).1 hu
    have hBn : B ≠ [] := by
      rintro rfl
      rw [List.append_nil] at hB
      exact hne (pcs_inj hp hB.symm)
    have hd : (pcsB (F i).p).dropLast = pcsB s ++ B.dropLast := by rw [← hB, List.dropLast_append_of_ne_nil hBn]
    rcases par_pcs hp with ⟨_, h2⟩ | ⟨h1, h2, h3, _⟩
    · rw [hd] at h2
      have := pcsB_ne s
      cases hc : pcsB s with
      | nil => exact absurd hc this
      | cons a b => rw [hc] at h2; cases h2
    · rcases (hF i hi).2.2 with h | ⟨k, hk, hkp, hkr⟩
      · exact absurd h h3
      · by_cases hs : (F k).p = s
        · exact ⟨k, by omega, hs, hkr⟩
        · refine ih k hk (by omega) ?_ hs
          rw [pcs_pre (by rw [hkp]; exact h1), hkp, h2, hd]
          exact List.prefix_append _ _
end Go.Proofs.YtfegoldjejlcaaaDoor
