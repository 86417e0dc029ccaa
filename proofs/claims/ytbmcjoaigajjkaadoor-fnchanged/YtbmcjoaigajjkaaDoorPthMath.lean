/-
  Paths as plain mathematics: the names between the slashes.
-/
import Derived.Test.YtbmcjoaigajjkaaDoorRows
import Derived.Lib.SplitLaws
import Derived.Lib.Strings
import Derived.WalkKit
namespace Go.Proofs.YtbmcjoaigajjkaaDoor
set_option linter.unusedVariables false

def okc (c : Nat) : Bool := decide ((97 ≤ c ∧ c ≤ 122) ∨ (48 ≤ c ∧ c ≤ 57) ∨ c = 46 ∨ c = 45 ∨ c = 95)
def nameB (l : List UInt8) : Bool := decide (1 ≤ l.length ∧ l.length ≤ 20) && !(l == [46]) && !(l == [46, 46]) && l.all fun c => okc c.toNat
def pts : List UInt8 → List (List UInt8)
  | [] => [[]]
  | c :: l => if c = 47 then [] :: pts l else match pts l with
    | [] => [[c]]
    | p :: ps => (c :: p) :: ps
def pathB (l : List UInt8) : Bool := decide ((pts l).length ≤ 6) && (pts l).all nameB
def glue (a : List UInt8) : List (List UInt8) → List (List UInt8)
  | [] => [a]
  | p :: ps => (a ++ p) :: ps
theorem pts_ne (l : List UInt8) : pts l ≠ [] := by
  cases l with
  | nil => simp [pts]
  | cons c l => unfold pts; split; simp; split <;> simp
theorem pts_len (l : List UInt8) : (pts l).length ≤ l.length + 1 := by
  induction l with
  | nil => simp [pts]
  | cons c l ih =>
    unfold pts; split
    · simp; omega
    · split
      · simp
      · rename_i p ps h; rw [h] at ih; simp at ih ⊢; omega
theorem glue_nil (P : List (List UInt8)) (h : P ≠ []) : glue [] P = P := by cases P with | nil => exact absurd rfl h | cons p ps => rfl
theorem glue_step (a : List UInt8) (c : UInt8) (l : List UInt8) (h : c ≠ 47) : glue a (pts (c :: l)) = glue (a ++ [c]) (pts l) := by
  have e : pts (c :: l) = (match pts l with | [] => [[c]] | p :: ps => (c :: p) :: ps) := by rw [pts, if_neg h]
  rw [e]
  cases hp : pts l with
  | nil => simp [glue]
  | cons p ps => simp [glue]
theorem glue_slash (a l : List UInt8) : glue a (pts (47 :: l)) = a :: glue [] (pts l) := by
  have e : pts (47 :: l) = [] :: pts l := by rw [pts, if_pos rfl]
  rw [e, glue_nil _ (pts_ne l)]
  simp [glue]
/-- where the specification's loop stands -/
def PA (l : List UInt8) (i : Nat) (acc : List UInt8) (k : Nat) : Prop := ∃ D : List (List UInt8), (∀ p ∈ D, nameB p = true) ∧ D.length = k ∧ ((i ≤ l.length ∧ pts l = D ++ glue acc (pts (l.drop i))) ∨ (i = l.length + 1 ∧ pts l = D))
theorem pa_start (l : List UInt8) : PA l 0 [] 0 := ⟨[], (fun _ h => by cases h), rfl, Or.inl ⟨by omega, by rw [List.drop_zero, glue_nil _ (pts_ne l)]; rfl⟩⟩
theorem pa_step {l acc : List UInt8} {i k : Nat} (h : PA l i acc k) (hi : i < l.length) (hc : l[i] ≠ 47) : PA l (i + 1) (acc ++ [l[i]]) k := by
  obtain ⟨D, h1, h2, ⟨h3, h4⟩ | ⟨h3, h4⟩⟩ := h
  · exact ⟨D, h1, h2, Or.inl ⟨by omega, by rw [h4, List.drop_eq_getElem_cons hi, glue_step _ _ _ hc]⟩⟩
  · omega
theorem pa_slash {l acc : List UInt8} {i k : Nat} (h : PA l i acc k) (hi : i < l.length) (hc : l[i] = 47) (hn : nameB acc = true) : PA l (i + 1) [] (k + 1) := by
  obtain ⟨D, h1, h2, ⟨h3, h4⟩ | ⟨h3, h4⟩⟩ := h
  · refine ⟨D ++ [acc], fun p hp => ?_, by simp [h2], Or.inl ⟨by omega, ?_⟩⟩
    · rcases List.mem_append.1 hp with hp | hp
      · exact h1 p hp
      · obtain rfl := List.mem_singleton.1 hp; exact hn
    · rw [h4, List.drop_eq_getElem_cons hi, hc, glue_slash]; simp
  · omega
theorem pa_last {l acc : List UInt8} {k : Nat} (h : PA l l.length acc k) (hn : nameB acc = true) : PA l (l.length + 1) [] (k + 1) := by
  obtain ⟨D, h1, h2, ⟨h3, h4⟩ | ⟨h3, h4⟩⟩ := h
  · refine ⟨D ++ [acc], fun p hp => ?_, by simp [h2], Or.inr ⟨rfl, ?_⟩⟩
    · rcases List.mem_append.1 hp with hp | hp
      · exact h1 p hp
      · obtain rfl := List.mem_singleton.1 hp; exact hn
    · rw [h4, List.drop_length]; simp [pts, glue]
  · omega
theorem pa_bad {l acc : List UInt8} {i k : Nat} (h : PA l i acc k) (hi : i = l.length ∨ ∃ h : i < l.length, l[i] = 47) (hn : nameB acc = false) : pathB l = false := by
  obtain ⟨D, h1, h2, ⟨h3, h4⟩ | ⟨h3, h4⟩⟩ := h
  · have hm : acc ∈ pts l := by
      rw [h4]
      refine List.mem_append_right _ ?_
      rcases hi with rfl | ⟨hi, hc⟩
      · rw [List.drop_length]; simp [pts, glue]
      · rw [List.drop_eq_getElem_cons hi, hc, glue_slash]; exact List.mem_cons_self ..
    have : (pts l).all nameB = false := by
      rw [Bool.eq_false_iff]
      intro c
      have := List.all_eq_true.1 c acc hm
      rw [hn] at this; cases this
    unfold pathB; rw [this]; simp
  · rcases hi with rfl | ⟨hi, hc⟩ <;> omega
theorem pa_end {l acc : List UInt8} {i k : Nat} (h : PA l i acc k) (hi : l.length < i) : pathB l = decide (k ≤ 6) := by
  obtain ⟨D, h1, h2, ⟨h3, h4⟩ | ⟨h3, h4⟩⟩ := h
  · omega
  · have : (pts l).all nameB = true := by rw [h4]; exact List.all_eq_true.2 h1
    unfold pathB; rw [this, h4, h2]; simp
theorem pa_k {l acc : List UInt8} {i k : Nat} (h : PA l i acc k) : k ≤ l.length + 1 := by
  obtain ⟨D, h1, h2, ⟨h3, h4⟩ | ⟨h3, h4⟩⟩ := h
  · have := pts_len l; rw [h4, List.length_append] at this; omega
  · have := pts_len l; rw [h4] at this; omega
/-- cut at the first slashes alone -/
theorem index_slash (l : List UInt8) : (Lib.index l [47] = -1 ∧ pts l = [l]) ∨ ∃ j : Nat, Lib.index l [47] = (j : Int) ∧ j < l.length ∧ pts l = l.take j :: pts (l.drop (j + 1)) := by
  induction l with
  | nil => exact Or.inl ⟨by decide, rfl⟩
  | cons c l ih =>
    by_cases hc : c = 47
    · subst hc
      refine Or.inr ⟨0, ?_, by simp, ?_⟩
      · rw [Lib.index]; simp [List.isPrefixOf]
      · rw [pts, if_pos rfl]; simp
    · have hp : ([47] : List UInt8).isPrefixOf (c :: l) = false := by simp [List.isPrefixOf, Ne.symm hc]
      have hix : Lib.index (c :: l) [47] = if Lib.index l [47] == -1 then -1 else Lib.index l [47] + 1 := by rw [Lib.index, hp]; simp
      rcases ih with ⟨h1, h2⟩ | ⟨j, h1, h2, h3⟩
      · exact Or.inl ⟨by rw [hix, h1]; rfl, by rw [pts, if_neg hc, h2]⟩
      · refine Or.inr ⟨j + 1, ?_, by simp; omega, ?_⟩
        · rw [hix, h1, if_neg (fun e => by have := beq_iff_eq.1 e; omega)]; omega
        · rw [pts, if_neg hc, h3]; simp
theorem splitK_all (k : Nat) (l : List UInt8) (h : (pts l).length ≤ k + 1) : Lib.splitK [47] 0 k l = pts l := by
  induction k generalizing l with
  | zero =>
    rcases index_slash l with ⟨h1, h2⟩ | ⟨j, h1, h2, h3⟩
    · rw [h2]; rfl
    · rw [h3] at h
      have := pts_ne (l.drop (j + 1))
      cases hp : pts (l.drop (j + 1)) with
      | nil => exact absurd hp this
      | cons p ps => rw [hp] at h; simp at h
  | succ k ih =>
    rcases index_slash l with ⟨h1, h2⟩ | ⟨j, h1, h2, h3⟩
    · unfold Lib.splitK; rw [h1, if_pos (by rfl), h2]
    · unfold Lib.splitK
      rw [h1, if_neg (fun e => by have := beq_iff_eq.1 e; omega), h3]
      rw [h3] at h
      simp only [List.length_cons] at h
      rw [ih _ (by simpa using by omega)]
      simp
theorem splitK_more (k : Nat) (l : List UInt8) (h : k + 1 < (pts l).length) : (Lib.splitK [47] 0 k l).length = k + 1 := by
  induction k generalizing l with
  | zero => rfl
  | succ k ih =>
    rcases index_slash l with ⟨h1, h2⟩ | ⟨j, h1, h2, h3⟩
    · rw [h2] at h; simp at h
    · unfold Lib.splitK
      rw [h1, if_neg (fun e => by have := beq_iff_eq.1 e; omega)]
      rw [h3] at h
      simp only [List.length_cons] at h ⊢
      rw [ih _ (by simpa using by omega)]
theorem splitB_size (k : Nat) (s : ByteArray) (i : Nat) (h : i < (Lib.splitB ⟨#[47]⟩ 0 k s).length) : (Lib.splitB ⟨#[47]⟩ 0 k s)[i].size ≤ s.size := by
  induction k generalizing s i with
  | zero =>
    have : i = 0 := by simp [Lib.splitB] at h; omega
    subst this; exact Nat.le_refl _
  | succ k ih =>
    by_cases c : Lib.indexB s ⟨#[47]⟩ = -1
    · have e := Lib.splitB_miss ⟨#[47]⟩ 0 (k + 1) s c
      have : i = 0 := by rw [e] at h; simp at h; omega
      subst this
      have : (Lib.splitB ⟨#[47]⟩ 0 (k + 1) s)[0]'h = s := by simp [e]
      rw [this]; exact Nat.le_refl _
    · have e : Lib.splitB ⟨#[47]⟩ 0 (k + 1) s = s.extract 0 ((Lib.indexB s ⟨#[47]⟩).toNat + 0) :: Lib.splitB ⟨#[47]⟩ 0 k (s.extract ((Lib.indexB s ⟨#[47]⟩).toNat + (⟨#[47]⟩ : ByteArray).size) s.size) := by
        rw [Lib.splitB, if_neg (fun q => c (beq_iff_eq.1 q))]
      cases i with
      | zero =>
        have : (Lib.splitB ⟨#[47]⟩ 0 (k + 1) s)[0]'h = s.extract 0 ((Lib.indexB s ⟨#[47]⟩).toNat + 0) := by simp [e]
        rw [this, ByteArray.size_extract]; omega
      | succ i =>
        have h2 : i < (Lib.splitB ⟨#[47]⟩ 0 k (s.extract ((Lib.indexB s ⟨#[47]⟩).toNat + (⟨#[47]⟩ : ByteArray).size) s.size)).length := by rw [e] at h; simpa using h
        have : (Lib.splitB ⟨#[47]⟩ 0 (k + 1) s)[i + 1]'h = (Lib.splitB ⟨#[47]⟩ 0 k (s.extract ((Lib.indexB s ⟨#[47]⟩).toNat + (⟨#[47]⟩ : ByteArray).size) s.size))[i] := by simp [e]
        rw [this]
        refine Nat.le_trans (ih _ _ h2) ?_
        rw [ByteArray.size_extract]; omega
/-- the pieces that the code asks for -/
def pcsB (s : ByteArray) : List ByteArray := Lib.splitB ⟨#[47]⟩ 0 (min 7 (s.size + 1) - 1) s
theorem pcsB_data (s : ByteArray) : (pcsB s).map (·.data.toList) = Lib.splitK [47] 0 (min 7 (s.size + 1) - 1) s.data.toList := Lib.splitB_data _ _ _ _
theorem pcsB_few (s : ByteArray) (h : (pts s.data.toList).length ≤ 7) : (pcsB s).map (·.data.toList) = pts s.data.toList := by
  rw [pcsB_data]
  have := pts_len s.data.toList
  rw [← Lib.size_eq] at this
  exact splitK_all _ _ (by omega)
theorem pcsB_many (s : ByteArray) (h : 6 < (pts s.data.toList).length) : (pcsB s).length = 7 := by
  have h0 := pts_len s.data.toList
  rw [← Lib.size_eq] at h0
  have e : (pcsB s).length = ((pcsB s).map (·.data.toList)).length := by simp
  by_cases c : (pts s.data.toList).length ≤ 7
  · rw [e, pcsB_few s c]; omega
  · rw [e, pcsB_data, splitK_more _ _ (by omega)]; omega
theorem pcsB_len (s : ByteArray) : (pcsB s).length ≤ 7 := by
  have := Lib.splitB_length_le ⟨#[47]⟩ 0 (min 7 (s.size + 1) - 1) s
  unfold pcsB; omega
theorem pcsB_size (s : ByteArray) (i : Nat) (h : i < (pcsB s).length) (hs : s.size ≤ 1048576) : (pcsB s)[i].size ≤ 1099511627776 := by
  have := splitB_size (min 7 (s.size + 1) - 1) s i h
  unfold pcsB; omega
theorem pathB_pcs (s : ByteArray) : pathB s.data.toList = (decide ((pcsB s).length ≤ 6) && (pcsB s).all fun p => nameB p.data.toList) := by
  by_cases c : (pts s.data.toList).length ≤ 6
  · have h := pcsB_few s (by omega)
    have e : (pcsB s).length = (pts s.data.toList).length := by rw [← h]; simp
    unfold pathB; rw [e, ← h, List.all_map]; rfl
  · have h := pcsB_many s (by omega)
    unfold pathB; rw [h]; simp [c]
theorem pathB_true {s : ByteArray} (h : pathB s.data.toList = true) : (pcsB s).length ≤ 6 ∧ ∀ p ∈ pcsB s, nameB p.data.toList = true := by
  rw [pathB_pcs] at h
  simp at h
  exact ⟨h.1, h.2⟩
end Go.Proofs.YtbmcjoaigajjkaaDoor
