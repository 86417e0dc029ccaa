/-
  Trees as plain mathematics: paths in order, what is above each, right trees.
-/
import Derived.Test.YtbmcjoaigajjkaaDoorNdA
import Derived.Test.YtbmcjoaigajjkaaDoorPthS2
namespace Go.Proofs.YtbmcjoaigajjkaaDoor
open Go.RowKit
set_option linter.unusedVariables false
set_option linter.unusedSimpArgs false
theorem blt_irr : ∀ l, Op.bytesLess l l = false
  | [] => rfl
  | a :: l => by
    unfold Op.bytesLess
    rw [blt_irr l]
    have : ¬ a < a := by exact UInt8.lt_irrefl a
    simp [this]
theorem blt_trans : ∀ {a b c : List UInt8}, Op.bytesLess a b = true → Op.bytesLess b c = true → Op.bytesLess a c = true
  | _, [], _, h, _ => by simp [Op.bytesLess] at h
  | _, _ :: _, [], _, h => by simp [Op.bytesLess] at h
  | [], _ :: _, _ :: _, _, _ => rfl
  | x :: a, y :: b, z :: c, h1, h2 => by
    simp only [Op.bytesLess, Bool.or_eq_true, decide_eq_true_eq, Bool.and_eq_true, beq_iff_eq] at h1 h2 ⊢
    rcases h1 with h1 | ⟨rfl, h1⟩
    · rcases h2 with h2 | ⟨rfl, h2⟩
      · exact Or.inl (UInt8.lt_trans h1 h2)
      · exact Or.inl h1
    · rcases h2 with h2 | ⟨rfl, h2⟩
      · exact Or.inl h2
      · exact Or.inr ⟨rfl, blt_trans h1 h2⟩
theorem blt_tri : ∀ (a b : List UInt8), Op.bytesLess a b = true ∨ a = b ∨ Op.bytesLess b a = true
  | [], [] => Or.inr (Or.inl rfl)
  | [], _ :: _ => Or.inl rfl
  | _ :: _, [] => Or.inr (Or.inr rfl)
  | x :: a, y :: b => by
    simp only [Op.bytesLess, Bool.or_eq_true, decide_eq_true_eq, Bool.and_eq_true, beq_iff_eq, List.cons.injEq]
    rcases Nat.lt_trichotomy x.toNat y.toNat with h | h | h
    · exact Or.inl (Or.inl (UInt8.lt_iff_toNat_lt.2 h))
    · have e : x = y := UInt8.toNat_inj.1 h
      subst e
      rcases blt_tri a b with h | rfl | h
      · exact Or.inl (Or.inr ⟨rfl, h⟩)
      · exact Or.inr (Or.inl ⟨rfl, rfl⟩)
      · exact Or.inr (Or.inr (Or.inr ⟨rfl, h⟩))
    · exact Or.inr (Or.inr (Or.inl (UInt8.lt_iff_toNat_lt.2 h)))
theorem blt_pre : ∀ (a : List UInt8) (c : UInt8) (b : List UInt8), Op.bytesLess a (a ++ c :: b) = true
  | [], _, _ => rfl
  | x :: a, c, b => by
    show Op.bytesLess (x :: a) (x :: (a ++ c :: b)) = true
    simp only [Op.bytesLess, blt_pre a c b]
    simp
/-- one of the list of names from a text: joined again -/
def joinL : List (List UInt8) → List UInt8
  | [] => []
  | [p] => p
  | p :: q :: ps => p ++ 47 :: joinL (q :: ps)
theorem joinL_pts (l : List UInt8) : joinL (pts l) = l := by
  induction l with
  | nil => rfl
  | cons c l ih =>
    unfold pts
    split
    · rename_i h
      subst h
      cases hp : pts l with
      | nil => exact absurd hp (pts_ne l)
      | cons p ps => rw [hp] at ih; show [] ++ 47 :: joinL (p :: ps) = _; rw [ih]; rfl
    · cases hp : pts l with
      | nil => exact absurd hp (pts_ne l)
      | cons p ps =>
        rw [hp] at ih
        show joinL ((c :: p) :: ps) = _
        cases ps with
        | nil => show c :: p = _; rw [← ih]; rfl
        | cons q ps => show c :: (p ++ 47 :: joinL (q :: ps)) = _; rw [← ih]; rfl
theorem pts_cutM (a b : List UInt8) : pts (a ++ 47 :: b) = pts a ++ pts b := by
  induction a with
  | nil =>
    have e : pts (47 :: b) = [] :: pts b := by rw [pts, if_pos rfl]
    show pts (47 :: b) = pts [] ++ pts b
    rw [e]; rfl
  | cons c a ih =>
    show pts (c :: (a ++ 47 :: b)) = pts (c :: a) ++ pts b
    by_cases hc : c = 47
    · rw [pts, if_pos hc, ih]
      conv => rhs; rw [pts, if_pos hc]
      rfl
    · rw [pts, if_neg hc, ih]
      conv => rhs; rw [pts, if_neg hc]
      cases hp : pts a with
      | nil => exact absurd hp (pts_ne a)
      | cons p ps => rfl
theorem ba_ext {a b : ByteArray} (h : a.data.toList = b.data.toList) : a = b := ByteArray.ext (Array.ext' h)
theorem ba_list {a b : ByteArray} (h : a.toList = b.toList) : a = b := by
  rw [Lib.toList_data, Lib.toList_data] at h
  exact ba_ext h
/-- a right path has few names -/
theorem path_few {s : ByteArray} (h : pathB s.toList = true) : (pts s.data.toList).length ≤ 6 := by
  rw [Lib.toList_data] at h
  unfold pathB at h
  simp only [Bool.and_eq_true, decide_eq_true_eq] at h
  exact h.1
/-- the names of a right path tell it from whatever other text -/
theorem pcs_inj {a b : ByteArray} (h : pathB a.toList = true) (e : pcsB a = pcsB b) : a = b := by
  have ha := path_few h
  have e1 := pcsB_few a (by omega)
  by_cases hb : (pts b.data.toList).length ≤ 7
  · have e2 := pcsB_few b hb
    rw [← e, e1] at e2
    apply ba_ext
    rw [← joinL_pts a.data.toList, ← joinL_pts b.data.toList, e2]
  · have h7 := pcsB_many b (by omega)
    rw [← e] at h7
    have : (pcsB a).length = (pts a.data.toList).length := by rw [← e1]; simp
    omega
theorem pcs_pos {s : ByteArray} (h : pathB s.toList = true) : 1 ≤ (pcsB s).length ∧ (pcsB s).length ≤ 6 := by
  have ha := path_few h
  have e1 := pcsB_few s (by omega)
  have h2 : (pcsB s).length = (pts s.data.toList).length := by rw [← e1]; simp
  have h3 := pts_ne s.data.toList
  have h4 : 0 < (pts s.data.toList).length := List.length_pos_iff.2 h3
  omega
/-- what stands ahead of the last name -/
theorem par_pcs {s : ByteArray} (h : pathB s.toList = true) : (parB s = ⟨#[]⟩ ∧ (pcsB s).dropLast = []) ∨ (pathB (parB s).toList = true ∧ pcsB (parB s) = (pcsB s).dropLast ∧ parB s ≠ ⟨#[]⟩ ∧ Op.bytesLess (parB s).toList s.toList = true) := by
  have e : parB s = s.extract 0 (cutI s).toNat := by unfold parB; rw [if_pos h]
  have hfew := path_few h
  have e1 := pcsB_few s (by omega)
  rcases Lib.lastIndexByte_spec s 47 with ⟨h1, hno⟩ | ⟨i, hi, h1, hc, hbeh⟩
  · left
    have hz : parB s = ⟨#[]⟩ := by rw [e]; unfold cutI; rw [h1]; exact ext_zero s
    refine ⟨hz, ?_⟩
    have hns : ∀ l : List UInt8, (∀ x ∈ l, x ≠ 47) → pts l = [l] := by
      intro l
      induction l with
      | nil => intro _; rfl
      | cons c l ih =>
        intro hx
        rw [pts, if_neg (hx c (by simp)), ih (fun x hm => hx x (by simp [hm]))]
    have h2 : pts s.data.toList = [s.data.toList] := hns _ (fun x hx => by
      obtain ⟨j, hj, rfl⟩ := List.getElem_of_mem hx
      intro c
      have hj2 : j < s.size := by rw [Lib.size_eq]; exact hj
      have := hno j hj2
      rw [getElem!_pos s.data j (by simpa using hj)] at this
      apply this
      have c2 : s.data[j]'(by simpa using hj) = 47 := by simpa using c
      rw [c2]; rfl)
    have h3 : (pcsB s).length = 1 := by
      have : (pcsB s).length = ((pcsB s).map (·.data.toList)).length := by simp
      rw [this, e1, h2]; rfl
    match hp : pcsB s, h3 with
    | [x], _ => rfl
  · right
    have e2 : parB s = s.extract 0 i := by rw [e]; unfold cutI; rw [h1]; rfl
    have hil : i < s.data.toList.length := by rw [← Lib.size_eq]; exact hi
    have hat : s.data.toList[i] = 47 := by
      have hc2 := hc
      rw [getElem!_pos s.data i (by simpa using hil)] at hc2
      have : s.data[i]'(by simpa using hil) = 47 := by apply UInt8.toNat_inj.1; show _ = 47; omega
      simpa using this
    have hpl : (parB s).data.toList = s.data.toList.take i := by rw [e2, Lib.extract_data]; simp
    have hsplit : s.data.toList = (parB s).data.toList ++ 47 :: s.data.toList.drop (i + 1) := by
      rw [hpl]
      conv => lhs; rw [← List.take_append_drop i s.data.toList, List.drop_eq_getElem_cons hil, hat]
    have hrest : pts (s.data.toList.drop (i + 1)) = [s.data.toList.drop (i + 1)] := by
      have hns : ∀ l : List UInt8, (∀ x ∈ l, x ≠ 47) → pts l = [l] := by
        intro l
        induction l with
        | nil => intro _; rfl
        | cons c l ih =>
          intro hx
          rw [pts, if_neg (hx c (by simp)), ih (fun x hm => hx x (by simp [hm]))]
      refine hns _ (fun x hx => ?_)
      obtain ⟨j, hj, rfl⟩ := List.getElem_of_mem hx
      rw [List.length_drop] at hj
      rw [List.getElem_drop]
      intro c
      have hj2 : i + 1 + j < s.size := by rw [Lib.size_eq]; omega
      have hj3 : i + 1 + j < s.data.toList.length := by rw [← Lib.size_eq]; exact hj2
      have := hbeh (i + 1 + j) (by omega) hj2
      rw [getElem!_pos s.data (i + 1 + j) (by simpa using hj3)] at this
      apply this
      have c2 : s.data[i + 1 + j]'(by simpa using hj3) = 47 := by simpa using c
      rw [c2]; rfl
    have hcut : pts s.data.toList = pts (parB s).data.toList ++ [s.data.toList.drop (i + 1)] := by
      conv => lhs; rw [hsplit]
      rw [pts_cutM, hrest]
    have hp6 : (pts (parB s).data.toList).length ≤ 6 := by
      have : (pts s.data.toList).length = (pts (parB s).data.toList).length + 1 := by rw [hcut]; simp
      omega
    have hpath : pathB (parB s).toList = true := by
      rw [Lib.toList_data] at h ⊢
      unfold pathB at h ⊢
      rw [hcut] at h
      simp only [Bool.and_eq_true, decide_eq_true_eq, List.length_append, List.all_append] at h ⊢
      exact ⟨by omega, h.2.1⟩
    have e3 := pcsB_few (parB s) (by omega)
    refine ⟨hpath, ?_, ?_, ?_⟩
    · have h4 : ((pcsB s).dropLast).map (·.data.toList) = pts (parB s).data.toList := by
        rw [List.map_dropLast, e1, hcut]; simp
      rw [← e3] at h4
      have inj : ∀ (A B : List ByteArray), A.map (·.data.toList) = B.map (·.data.toList) → A = B := by
        intro A
        induction A with
        | nil => intro B hB; cases B with | nil => rfl | cons b B => simp at hB
        | cons a A ih =>
          intro B hB
          cases B with
          | nil => simp at hB
          | cons b B =>
            simp only [List.map_cons, List.cons.injEq] at hB
            have : a = b := ba_ext hB.1
            rw [this, ih B hB.2]
      exact (inj _ _ h4).symm
    · intro c
      rw [c] at hpath
      rw [nil_toList] at hpath
      exact absurd hpath (by decide)
    · rw [Lib.toList_data, Lib.toList_data]
      conv => lhs; rw [hsplit]
      exact blt_pre _ _ _
end Go.Proofs.YtbmcjoaigajjkaaDoor
