/-
  What is above a path is one; where an extension stands.
-/
import Derived.Test.YtmckchklebohmaeDoorPthC2
import Derived.Test.YtmckchklebohmaeDoorPthS2
namespace Go.Proofs.YtmckchklebohmaeDoor
open Go.RowKit
set_option linter.unusedVariables false
theorem pts_cut (a b : List UInt8) : pts (a ++ 47 :: b) = pts a ++ pts b := by
  induction a with
  | nil =>
    have e : pts (47 :: b) = [] :: pts b := by rw [pts, if_pos rfl]
    show pts (47 :: b) = pts [] ++ pts b
    rw [e]; rfl
  | cons c a ih =>
    show pts (c :: (a ++ 47 :: b)) = pts (c :: a) ++ pts b
    by_cases hc : c = 47
    · rw [pts, if_pos hc, ih]
      conv => rhs; rw [pts, if_pos hc]
      rfl
    · rw [pts, if_neg hc, ih]
      conv => rhs; rw [pts, if_neg hc]
      cases hp : pts a with
      | nil => exact absurd hp (pts_ne a)
      | cons p ps => rfl
theorem ext_list (s : ByteArray) (i j : Nat) : (s.extract i j).toList = (s.toList.take j).drop i := by
  rw [Lib.toList_data, Lib.toList_data, ByteArray.data_extract, Array.toList_extract]
  simp [List.extract, List.drop_take]
theorem bytes_same {a b : ByteArray} (h : a.toList = b.toList) : a = b := by
  rw [Lib.toList_data, Lib.toList_data] at h
  exact ByteArray.ext (Array.ext' h)
theorem list_at {s : ByteArray} {i : Nat} {c : UInt8} (h : i < s.size) (hc : ((s.data[i]!).toNat : Int) = (c.toNat : Int)) : s.toList[i]? = some c := by
  have hl : i < s.toList.length := by rw [len_toList]; exact h
  rw [List.getElem?_eq_getElem hl, get_toList h hl]
  rw [bang_get h] at hc
  have : s[i] = c := by
    apply UInt8.toNat_inj.1; omega
  rw [this]
theorem pathB_take {l : List UInt8} {i : Nat} (h : pathB l = true) (hi : l[i]? = some 47) : pathB (l.take i) = true := by
  obtain ⟨hl, hg⟩ := List.getElem?_eq_some_iff.1 hi
  have e : l = l.take i ++ 47 :: l.drop (i + 1) := by
    conv => lhs; rw [← List.take_append_drop i l, List.drop_eq_getElem_cons hl, hg]
  rw [e] at h
  unfold pathB at h ⊢
  rw [pts_cut] at h
  simp only [Bool.and_eq_true, decide_eq_true_eq, List.length_append, List.all_append] at h ⊢
  exact ⟨by omega, h.2.1⟩
theorem par_ok {s : ByteArray} (h : pathB s.toList = true) (hn : ¬ parB s = ⟨#[]⟩) : pathB (parB s).toList = true ∧ s.extract 0 ((parB s).size + 1) = parB s ++ ⟨#[47]⟩ ∧ (parB s).size + 1 ≤ s.size := by
  have e : parB s = s.extract 0 (cutI s).toNat := by unfold parB; rw [if_pos h]
  rcases Lib.lastIndexByte_spec s 47 with ⟨h1, _⟩ | ⟨i, hi, h1, hc, _⟩
  · exact absurd (by rw [e]; unfold cutI; rw [h1]; exact ext_zero s) hn
  · have e2 : parB s = s.extract 0 i := by rw [e]; unfold cutI; rw [h1]; rfl
    have hat := list_at (c := 47) hi (by rw [hc]; rfl)
    obtain ⟨hl, hg⟩ := List.getElem?_eq_some_iff.1 hat
    have hsz : (parB s).size = i := by rw [e2, ByteArray.size_extract]; omega
    refine ⟨?_, ?_, by omega⟩
    · rw [e2, ext_list, List.drop_zero]; exact pathB_take h hat
    · rw [hsz, e2]
      apply bytes_same
      rw [app_toList, ext_list, ext_list, List.drop_zero, List.drop_zero, List.take_add_one, hat]
      have : (⟨#[47]⟩ : ByteArray).toList = [47] := by rw [Lib.toList_data]
      rw [this]; rfl
theorem ext_ok {s : ByteArray} (hn : ¬ extB s = ⟨#[]⟩) : (extB s).size + 1 < s.size ∧ s.extract (s.size - (extB s).size - 1) s.size = (⟨#[46]⟩ : ByteArray) ++ extB s := by
  by_cases h : pathB s.toList = true
  · have e : extB s = exB (lastN s) := by unfold extB; rw [if_pos h]
    rw [e] at hn ⊢
    obtain ⟨n, hn2⟩ : ∃ n, n = lastN s := ⟨_, rfl⟩
    obtain ⟨c, hc2⟩ : ∃ c, c = (cutI s + 1).toNat := ⟨_, rfl⟩
    have hcl : c ≤ s.size := by have := cut_lo s; omega
    have hns : n.size = s.size - c := by rw [hn2]; unfold lastN; rw [← hc2, ByteArray.size_extract]; omega
    have hnl : n.toList = s.toList.drop c := by
      rw [hn2]; unfold lastN; rw [← hc2, ext_list, List.take_of_length_le (by rw [len_toList]; omega)]
    rw [← hn2] at hn ⊢
    by_cases hd : dotI n ≤ 0
    · exact absurd (by unfold exB; rw [if_pos hd]) hn
    · have ex : exB n = n.extract (dotI n + 1).toNat n.size := by unfold exB; rw [if_neg hd]
      rcases Lib.lastIndexByte_spec n 46 with ⟨h1, _⟩ | ⟨i, hi, h1, hc, _⟩
      · exact absurd (show dotI n ≤ 0 by unfold dotI; omega) hd
      · have hdi : dotI n = i := h1
        have ex2 : exB n = n.extract (i + 1) n.size := by rw [ex, hdi]; rfl
        have hsz : (exB n).size = n.size - (i + 1) := by rw [ex2, ByteArray.size_extract]; omega
        have hat := list_at (c := 46) hi (by rw [hc]; rfl)
        obtain ⟨hl, hg⟩ := List.getElem?_eq_some_iff.1 hat
        refine ⟨by omega, ?_⟩
        have hk : s.size - (exB n).size - 1 = c + i := by omega
        rw [hk, ex2]
        apply bytes_same
        rw [app_toList, ext_list, ext_list, List.take_of_length_le (by rw [len_toList]; omega), List.take_of_length_le (by rw [len_toList]; omega), ← List.drop_drop, ← hnl, List.drop_eq_getElem_cons hl, hg]
        have : (⟨#[46]⟩ : ByteArray).toList = [46] := by rw [Lib.toList_data]
        rw [this]; rfl
  · exact absurd (by unfold extB; rw [if_neg h]) hn
end Go.Proofs.YtmckchklebohmaeDoor
