/-
  The branches of a tree: which lies below which, where a path leads: plain mathematics.
-/
import Derived.Test.YtbmcjoaigajjkaaDoorTrM
namespace Go.Proofs.YtbmcjoaigajjkaaDoor
open Go.RowKit
set_option linter.unusedVariables false
set_option linter.unusedSimpArgs false
def ndOk (p : NdI) : Prop := pathB p.p.toList = true ∧ (0 ≤ p.m ∧ p.m ≤ 511) ∧ p.d.size ≤ 4000 ∧ (p.r = true → p.d = ⟨#[]⟩)
def ndRise (F : Nat → NdI) (j : Nat) : Prop := 0 < j → Op.bytesLess (F (j - 1)).p.toList (F j).p.toList = true
def ndUp (F : Nat → NdI) (j : Nat) : Prop := parB (F j).p = ⟨#[]⟩ ∨ ∃ k, k < j ∧ (F k).p = parB (F j).p ∧ (F k).r = true
def trV (F : Nat → NdI) (n : Nat) : Prop := ∀ j, j < n → ndOk (F j) ∧ ndRise F j ∧ ndUp F j
def ndR (F : Nat → NdI) (n : Nat) : Prop := n ≤ 40 ∧ trV F n
noncomputable def ndB (F : Nat → NdI) (n : Nat) : Bool := open Classical in decide (ndR F n)
open Classical in
theorem ndB_yes {F : Nat → NdI} {n : Nat} (h : ndR F n) : ndB F n = true := by unfold ndB; exact decide_eq_true h
open Classical in
theorem ndB_no {F : Nat → NdI} {n : Nat} (h : ¬ ndR F n) : ndB F n = false := by unfold ndB; exact decide_eq_false h
theorem trV_le {F : Nat → NdI} {n m : Nat} (h : trV F n) (hm : m ≤ n) : trV F m := fun j hj => h j (by omega)
theorem trV_lt {F : Nat → NdI} {n : Nat} (h : trV F n) {a b : Nat} (hab : a < b) (hb : b < n) : Op.bytesLess (F a).p.toList (F b).p.toList = true := by
  induction b with
  | zero => omega
  | succ b ih =>
    have h1 := (h (b + 1) hb).2.1 (by omega)
    rw [Nat.add_sub_cancel] at h1
    by_cases e : a = b
    · subst e; exact h1
    · exact blt_trans (ih (by omega) (by omega)) h1
theorem trV_inj {F : Nat → NdI} {n : Nat} (h : trV F n) {a b : Nat} (ha : a < n) (hb : b < n) (e : (F a).p = (F b).p) : a = b := by
  rcases Nat.lt_trichotomy a b with c | c | c
  · have := trV_lt h c hb; rw [e, blt_irr] at this; cases this
  · exact c
  · have := trV_lt h c ha; rw [e, blt_irr] at this; cases this
def rootI : NdI := ⟨⟨#[]⟩, true, 0, ⟨#[]⟩⟩
/-- branches by number: 0 the root, the others the nodes -/
def bN (F : Nat → NdI) : Nat → NdI
  | 0 => rootI
  | k + 1 => F k
def bP (F : Nat → NdI) : Nat → List ByteArray
  | 0 => []
  | k + 1 => pcsB (F k).p
def bL (F : Nat → NdI) (k : Nat) : ByteArray := (bP F k).getLastD ⟨#[]⟩
theorem bP_inj {F : Nat → NdI} {n : Nat} (h : trV F n) {a b : Nat} (ha : a ≤ n) (hb : b ≤ n) (e : bP F a = bP F b) : a = b := by
  match a, b with
  | 0, 0 => rfl
  | 0, b + 1 => have := (pcs_pos (h b (by omega)).1.1).1; have e2 : pcsB (F b).p = [] := e.symm; rw [e2] at this; simp at this
  | a + 1, 0 => have := (pcs_pos (h a (by omega)).1.1).1; have e2 : pcsB (F a).p = [] := e; rw [e2] at this; simp at this
  | a + 1, b + 1 =>
    have e2 : pcsB (F a).p = pcsB (F b).p := e
    have := trV_inj h (by omega) (by omega) (pcs_inj (h a (by omega)).1.1 e2)
    omega
/-- above a node there is a branch, a directory -/
theorem bP_up {F : Nat → NdI} {n j : Nat} (h : trV F n) (hj : j < n) : ∃ k, k ≤ j ∧ bP F k = (bP F (j + 1)).dropLast ∧ (bN F k).r = true := by
  obtain ⟨h1, _, h3⟩ := h j hj
  rcases par_pcs h1.1 with ⟨e1, e2⟩ | ⟨p1, p2, p3, p4⟩
  · exact ⟨0, by omega, e2.symm, rfl⟩
  · rcases h3 with h3 | ⟨k, hk, e, hr⟩
    · exact absurd h3 p3
    · exact ⟨k + 1, by omega, by show pcsB (F k).p = _; rw [e]; exact p2, hr⟩
open Classical in
/-- the branch right above a node -/
noncomputable def bU (F : Nat → NdI) (j : Nat) : Nat := if h : ∃ k, k ≤ j ∧ bP F k = (bP F (j + 1)).dropLast then Classical.choose h else 0
theorem bU_spec {F : Nat → NdI} {n j : Nat} (h : trV F n) (hj : j < n) : bU F j ≤ j ∧ bP F (bU F j) = (bP F (j + 1)).dropLast := by
  obtain ⟨k, h1, h2, _⟩ := bP_up h hj
  have hex : ∃ k, k ≤ j ∧ bP F k = (bP F (j + 1)).dropLast := ⟨k, h1, h2⟩
  unfold bU
  rw [dif_pos hex]
  exact Classical.choose_spec hex
theorem bU_eq {F : Nat → NdI} {n j k : Nat} (h : trV F n) (hj : j < n) (hk : k ≤ n) (e : bP F k = (bP F (j + 1)).dropLast) : bU F j = k := by
  obtain ⟨h1, h2⟩ := bU_spec h hj
  exact bP_inj h (by omega) hk (h2.trans e.symm)
theorem bU_of {F : Nat → NdI} {j k : Nat} (hk : k ≤ j) (hV : trV F j) (e : bP F k = (bP F (j + 1)).dropLast) : bU F j = k := by
  have hex : ∃ k, k ≤ j ∧ bP F k = (bP F (j + 1)).dropLast := ⟨k, hk, e⟩
  unfold bU
  rw [dif_pos hex]
  have h2 := Classical.choose_spec hex
  exact bP_inj hV h2.1 hk (h2.2.trans e.symm)
theorem bP_last {F : Nat → NdI} {n j : Nat} (h : trV F n) (hj : j < n) : bP F (j + 1) = bP F (bU F j) ++ [bL F (j + 1)] := by
  rw [(bU_spec h hj).2]
  have hp := (pcs_pos (h j hj).1.1).1
  have e : bP F (j + 1) = pcsB (F j).p := rfl
  unfold bL
  rw [e]
  cases hq : pcsB (F j).p with
  | nil => rw [hq] at hp; simp at hp
  | cons a l =>
    rw [List.getLastD_eq_getLast?, List.getLast?_eq_some_getLast (by simp)]
    exact (List.dropLast_concat_getLast (by simp)).symm
/-- what lies right below a branch, of the first nodes -/
noncomputable def bC (F : Nat → NdI) (i k : Nat) : List Nat := ((List.range i).filter fun j => decide (bU F j = k)).map (· + 1)
theorem bC_zero (F : Nat → NdI) (k : Nat) : bC F 0 k = [] := rfl
theorem bC_yes {F : Nat → NdI} {i k : Nat} (h : bU F i = k) : bC F (i + 1) k = bC F i k ++ [i + 1] := by
  unfold bC; rw [List.range_succ, List.filter_append, List.map_append]; simp [h]
theorem bC_no {F : Nat → NdI} {i k : Nat} (h : bU F i ≠ k) : bC F (i + 1) k = bC F i k := by
  unfold bC; rw [List.range_succ, List.filter_append, List.map_append]; simp [h]
theorem bC_mem {F : Nat → NdI} {i k c : Nat} (h : c ∈ bC F i k) : ∃ j, c = j + 1 ∧ j < i ∧ bU F j = k := by
  unfold bC at h
  obtain ⟨j, hj, rfl⟩ := List.mem_map.1 h
  obtain ⟨h1, h2⟩ := List.mem_filter.1 hj
  exact ⟨j, rfl, List.mem_range.1 h1, by simpa using h2⟩
theorem bC_of {F : Nat → NdI} {i k j : Nat} (hj : j < i) (h : bU F j = k) : j + 1 ∈ bC F i k := by
  unfold bC
  exact List.mem_map.2 ⟨j, List.mem_filter.2 ⟨List.mem_range.2 hj, by simpa using h⟩, rfl⟩
theorem bC_len (F : Nat → NdI) (i k : Nat) : (bC F i k).length ≤ i := by
  unfold bC
  rw [List.length_map]
  have := List.length_filter_le (fun j => decide (bU F j = k)) (List.range i)
  rw [List.length_range] at this
  exact this
/-- above a branch there is one for each beginning of its names -/
theorem bP_anc {F : Nat → NdI} {n : Nat} (h : trV F n) : ∀ (c : Nat), c ≤ n → ∀ t, t ≤ (bP F c).length → ∃ b, b ≤ c ∧ bP F b = (bP F c).take t := by
  intro c
  induction c using Nat.strongRecOn with
  | _ c ih =>
    intro hc t ht
    by_cases e : t = (bP F c).length
    · exact ⟨c, Nat.le_refl _, by rw [e, List.take_length]⟩
    · match c, hc, ht, e, ih with
      | 0, _, ht, e, _ => exact absurd (Nat.le_antisymm ht (Nat.zero_le _)) e
      | j + 1, hc, ht, e, ih =>
        obtain ⟨h1, h2⟩ := bU_spec h (show j < n by omega)
        have hl : (bP F (bU F j)).length = (bP F (j + 1)).length - 1 := by rw [h2, List.length_dropLast]
        obtain ⟨b, hb, eb⟩ := ih (bU F j) (by omega) (by omega) t (by omega)
        refine ⟨b, by omega, ?_⟩
        rw [eb, h2, List.dropLast_eq_take, List.take_take]
        congr 1
        omega
open Classical in
/-- where names lead: a branch of the first ones, or none -/
noncomputable def bF (F : Nat → NdI) (i : Nat) (P : List ByteArray) : Option Nat := if h : ∃ k, k ≤ i ∧ bP F k = P then some (Classical.choose h) else none
theorem bF_some {F : Nat → NdI} {i k : Nat} {P : List ByteArray} (h : trV F i) (hk : k ≤ i) (e : bP F k = P) : bF F i P = some k := by
  have hex : ∃ k, k ≤ i ∧ bP F k = P := ⟨k, hk, e⟩
  unfold bF
  rw [dif_pos hex]
  have h2 := Classical.choose_spec hex
  exact congrArg some (bP_inj h h2.1 hk (h2.2.trans e.symm))
theorem bF_none {F : Nat → NdI} {i : Nat} {P : List ByteArray} (h : ∀ k, k ≤ i → bP F k ≠ P) : bF F i P = none := by
  unfold bF
  rw [dif_neg]
  rintro ⟨k, hk, e⟩
  exact h k hk e
theorem bF_inv {F : Nat → NdI} {i k : Nat} {P : List ByteArray} (h : bF F i P = some k) : k ≤ i ∧ bP F k = P := by
  unfold bF at h
  split at h
  · rename_i hex
    injection h with h
    have := Classical.choose_spec hex
    rw [h] at this
    exact this
  · cases h
/-- one name further down -/
theorem bF_down {F : Nat → NdI} {i k t : Nat} {P : List ByteArray} (h : trV F i) (hk : k ≤ i) (e : bP F k = P.take t) (ht : t < P.length) {c : Nat} (hc : c ∈ bC F i k) (hn : bL F c = P[t]) : c ≤ i ∧ bP F c = P.take (t + 1) := by
  obtain ⟨j, rfl, hj, hu⟩ := bC_mem hc
  refine ⟨by omega, ?_⟩
  rw [bP_last h hj, hu, e, hn, List.take_succ_eq_append_getElem ht]
theorem bF_stop {F : Nat → NdI} {i k t : Nat} {P : List ByteArray} (h : trV F i) (hk : k ≤ i) (e : bP F k = P.take t) (ht : t < P.length) (hno : ∀ c ∈ bC F i k, bL F c ≠ P[t]) : bF F i P = none := by
  refine bF_none fun c hc ec => ?_
  obtain ⟨b, hb, eb⟩ := bP_anc h c hc (t + 1) (by rw [ec]; omega)
  rw [ec] at eb
  match b, hb, eb with
  | 0, _, eb =>
    have : (P.take (t + 1)).length = 0 := by rw [← eb]; rfl
    rw [List.length_take] at this
    omega
  | j + 1, hb, eb =>
    have hj : j < i := by omega
    have e2 : bP F (j + 1) = P.take t ++ [P[t]] := by rw [eb, List.take_succ_eq_append_getElem ht]
    have hu : bU F j = k := bU_eq h hj hk (by rw [e, e2, List.dropLast_concat])
    refine hno _ (bC_of hj hu) ?_
    have e3 := bP_last h hj
    rw [hu, e, e2] at e3
    have := List.append_cancel_left e3
    simpa using this.symm
end Go.Proofs.YtbmcjoaigajjkaaDoor
