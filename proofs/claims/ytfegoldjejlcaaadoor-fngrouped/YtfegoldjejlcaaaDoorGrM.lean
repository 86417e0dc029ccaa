/-
  Members grouped, as plain mathematics: by extension, then by name.
-/
import Derived.Test.YtfegoldjejlcaaaDoorMbL
import Derived.Test.YtfegoldjejlcaaaDoorMbM
import Derived.Test.YtfegoldjejlcaaaDoorPthS2
namespace Go.Proofs.YtfegoldjejlcaaaDoor
open Go.RowKit
set_option linter.unusedVariables false
set_option linter.unusedSimpArgs false
theorem gblt_irr : ∀ l, Op.bytesLess l l = false
  | [] => rfl
  | a :: l => by
    unfold Op.bytesLess
    rw [gblt_irr l]
    have : ¬ a < a := by exact UInt8.lt_irrefl a
    simp [this]
theorem gblt_trans : ∀ {a b c : List UInt8}, Op.bytesLess a b = true → Op.bytesLess b c = true → Op.bytesLess a c = true
  | _, [], _, h, _ => by simp [Op.bytesLess] at h
  | _, _ :: _, [], _, h => by simp [Op.bytesLess] at h
  | [], _ :: _, _ :: _, _, _ => rfl
  | x :: a, y :: b, z :: c, h1, h2 => by
    simp only [Op.bytesLess, Bool.or_eq_true, decide_eq_true_eq, Bool.and_eq_true, beq_iff_eq] at h1 h2 ⊢
    rcases h1 with h1 | ⟨rfl, h1⟩
    · rcases h2 with h2 | ⟨rfl, h2⟩
      · exact Or.inl (UInt8.lt_trans h1 h2)
      · exact Or.inl h1
    · rcases h2 with h2 | ⟨rfl, h2⟩
      · exact Or.inl h2
      · exact Or.inr ⟨rfl, gblt_trans h1 h2⟩
theorem gblt_tri : ∀ (a b : List UInt8), Op.bytesLess a b = true ∨ a = b ∨ Op.bytesLess b a = true
  | [], [] => Or.inr (Or.inl rfl)
  | [], _ :: _ => Or.inl rfl
  | _ :: _, [] => Or.inr (Or.inr rfl)
  | x :: a, y :: b => by
    simp only [Op.bytesLess, Bool.or_eq_true, decide_eq_true_eq, Bool.and_eq_true, beq_iff_eq, List.cons.injEq]
    rcases Nat.lt_trichotomy x.toNat y.toNat with h | h | h
    · exact Or.inl (Or.inl (UInt8.lt_iff_toNat_lt.2 h))
    · have e : x = y := UInt8.toNat_inj.1 h
      subst e
      rcases gblt_tri a b with h | rfl | h
      · exact Or.inl (Or.inr ⟨rfl, h⟩)
      · exact Or.inr (Or.inl ⟨rfl, rfl⟩)
      · exact Or.inr (Or.inr (Or.inr ⟨rfl, h⟩))
    · exact Or.inr (Or.inr (Or.inl (UInt8.lt_iff_toNat_lt.2 h)))
def sL (a b : ByteArray) : Bool := Op.bytesLess a.toList b.toList
theorem sL_irr (a : ByteArray) : sL a a = false := gblt_irr _
theorem sL_trans {a b c : ByteArray} (h : sL a b = true) (k : sL b c = true) : sL a c = true := gblt_trans h k
theorem gba_list {a b : ByteArray} (h : a.toList = b.toList) : a = b := by
  rw [Lib.toList_data, Lib.toList_data] at h
  exact ByteArray.ext (Array.ext' h)
theorem sL_tri (a b : ByteArray) : sL a b = true ∨ a = b ∨ sL b a = true := by
  rcases gblt_tri a.toList b.toList with h | h | h
  · exact Or.inl h
  · exact Or.inr (Or.inl (gba_list h))
  · exact Or.inr (Or.inr h)
/-- names by their extensions, then by themselves -/
def gN (a b : ByteArray) : Prop := sL (extB a) (extB b) = true ∨ (extB a = extB b ∧ sL a b = true)
theorem gN_irr (a : ByteArray) : ¬ gN a a := by
  rintro (h | ⟨_, h⟩)
  · rw [sL_irr] at h; cases h
  · rw [sL_irr] at h; cases h
theorem gN_trans {a b c : ByteArray} (h : gN a b) (k : gN b c) : gN a c := by
  rcases h with h | ⟨h1, h2⟩
  · rcases k with k | ⟨k1, k2⟩
    · exact Or.inl (sL_trans h k)
    · exact Or.inl (by rw [← k1]; exact h)
  · rcases k with k | ⟨k1, k2⟩
    · exact Or.inl (by rw [h1]; exact k)
    · exact Or.inr ⟨h1.trans k1, sL_trans h2 k2⟩
theorem gN_tri (a b : ByteArray) : gN a b ∨ a = b ∨ gN b a := by
  rcases sL_tri (extB a) (extB b) with h | h | h
  · exact Or.inl (Or.inl h)
  · rcases sL_tri a b with k | k | k
    · exact Or.inl (Or.inr ⟨h, k⟩)
    · exact Or.inr (Or.inl k)
    · exact Or.inr (Or.inr (Or.inr ⟨h.symm, k⟩))
  · exact Or.inr (Or.inr (Or.inl h))
def gP (p q : MbI) : Prop := gN p.a q.a
noncomputable def gNb (a b : ByteArray) : Bool := open Classical in decide (gN a b)
open Classical in
theorem gNb_yes {a b : ByteArray} (h : gN a b) : gNb a b = true := by unfold gNb; exact decide_eq_true h
open Classical in
theorem gNb_no {a b : ByteArray} (h : ¬ gN a b) : gNb a b = false := by unfold gNb; exact decide_eq_false h
open Classical in
theorem gNb_true {a b : ByteArray} (h : gNb a b = true) : gN a b := by unfold gNb at h; exact of_decide_eq_true h
/-- just the members of F's first n, in their order -/
structure GrP (F : Nat → MbI) (n : Nat) (L : List MbI) : Prop where
  len : L.length = n
  rise : L.Pairwise gP
  mem : ∀ p, p ∈ L ↔ ∃ i, i < n ∧ F i = p
theorem GrP.one {F : Nat → MbI} {n : Nat} {L M : List MbI} (h : GrP F n L) (k : GrP F n M) : L = M := by
  have h1 : L.Nodup := h.rise.imp fun {a b} h e => by subst e; exact gN_irr _ h
  have h2 : M.Nodup := k.rise.imp fun {a b} h e => by subst e; exact gN_irr _ h
  have hp : L.Perm M := (List.perm_ext_iff_of_nodup h1 h2).2 fun s => (h.mem s).trans (k.mem s).symm
  exact List.Perm.eq_of_pairwise (le := gP) (fun a b _ _ x y => absurd (gN_trans x y) (gN_irr _)) h.rise k.rise hp
/-- a member put at its place -/
noncomputable def gAt (L : List MbI) (p : MbI) : Nat := (L.takeWhile fun q => gNb q.a p.a).length
noncomputable def gIns (L : List MbI) (p : MbI) : List MbI := L.take (gAt L p) ++ [p] ++ L.drop (gAt L p)
theorem gIns_len (L : List MbI) (p : MbI) : (gIns L p).length = L.length + 1 := by
  unfold gIns
  rw [List.length_append, List.length_append, List.length_take, List.length_drop]
  simp; omega
theorem gAt_low {L : List MbI} {p : MbI} : ∀ q ∈ L.take (gAt L p), gP q p := by
  unfold gAt
  induction L with
  | nil => simp
  | cons x L ih =>
    by_cases h : gN x.a p.a
    · rw [List.takeWhile_cons_of_pos (by rw [gNb_yes h])]
      intro q hq
      simp only [List.length_cons, List.take_succ_cons, List.mem_cons] at hq
      rcases hq with rfl | hq
      · exact h
      · exact ih q hq
    · rw [List.takeWhile_cons_of_neg (by rw [gNb_no h]; simp)]
      simp
theorem gAt_is {L : List MbI} {p : MbI} {t : Nat} (h1 : ∀ j (h : j < L.length), j < t → gN L[j].a p.a) (ht : t ≤ L.length) (h2 : ∀ h : t < L.length, ¬ gN L[t].a p.a) : gAt L p = t := by
  unfold gAt
  induction L generalizing t with
  | nil => simp at ht; simp [ht]
  | cons x L ih =>
    cases t with
    | zero =>
      have := h2 (by simp)
      rw [List.takeWhile_cons_of_neg (by rw [gNb_no (by simpa using this)]; simp)]
      rfl
    | succ t =>
      have := h1 0 (by simp) (by omega)
      rw [List.takeWhile_cons_of_pos (by rw [gNb_yes (by simpa using this)]), List.length_cons]
      have hl : t ≤ L.length := by have := ht; rw [List.length_cons] at this; omega
      rw [ih (t := t) (fun j h hj => h1 (j + 1) (by rw [List.length_cons]; omega) (by omega)) hl (fun h => h2 (by rw [List.length_cons]; omega))]
theorem gDrop {L : List MbI} {p : MbI} (h : L.Pairwise gP) (hne : ∀ q ∈ L, q.a ≠ p.a) : ∀ q ∈ L.drop (gAt L p), gP p q := by
  unfold gAt
  induction L with
  | nil => simp
  | cons x L ih =>
    rw [List.pairwise_cons] at h
    by_cases hx : gN x.a p.a
    · rw [List.takeWhile_cons_of_pos (by rw [gNb_yes hx]), List.length_cons, List.drop_succ_cons]
      exact ih h.2 fun q hq => hne q (List.mem_cons_of_mem _ hq)
    · rw [List.takeWhile_cons_of_neg (by rw [gNb_no hx]; simp), List.length_nil, List.drop_zero]
      have hpx : gP p x := by
        rcases gN_tri x.a p.a with k | k | k
        · exact absurd k hx
        · exact absurd k (hne x (List.mem_cons_self ..))
        · exact k
      intro q hq
      rcases List.mem_cons.1 hq with rfl | hq
      · exact hpx
      · exact gN_trans hpx (h.1 q hq)
theorem gIns_rise {L : List MbI} {p : MbI} (h : L.Pairwise gP) (hne : ∀ q ∈ L, q.a ≠ p.a) : (gIns L p).Pairwise gP := by
  unfold gIns
  rw [List.append_assoc, List.pairwise_append]
  refine ⟨h.sublist (List.take_sublist _ _), ?_, ?_⟩
  · rw [List.singleton_append, List.pairwise_cons]
    exact ⟨gDrop h hne, h.sublist (List.drop_sublist _ _)⟩
  · intro a ha b hb
    rw [List.singleton_append] at hb
    have h1 := gAt_low a ha
    rcases List.mem_cons.1 hb with rfl | hb
    · exact h1
    · exact gN_trans h1 (gDrop h hne b hb)
theorem gIns_mem (L : List MbI) (p q : MbI) : q ∈ gIns L p ↔ q ∈ L ∨ q = p := by
  unfold gIns
  rw [List.append_assoc, List.mem_append, List.singleton_append, List.mem_cons]
  constructor
  · rintro (h | h | h)
    · exact Or.inl (List.mem_of_mem_take h)
    · exact Or.inr h
    · exact Or.inl (List.mem_of_mem_drop h)
  · rintro (h | h)
    · rw [← List.take_append_drop (gAt L p) L, List.mem_append] at h
      rcases h with h | h
      · exact Or.inl h
      · exact Or.inr (Or.inr h)
    · exact Or.inr (Or.inl h)
/-- the first i members, each put at its place -/
noncomputable def gL (F : Nat → MbI) : Nat → List MbI
  | 0 => []
  | i + 1 => gIns (gL F i) (F i)
theorem gL_len (F : Nat → MbI) : ∀ n, (gL F n).length = n
  | 0 => rfl
  | n + 1 => by show (gIns (gL F n) (F n)).length = _; rw [gIns_len, gL_len F n]
theorem gL_mem (F : Nat → MbI) (q : MbI) : ∀ n, q ∈ gL F n ↔ ∃ i, i < n ∧ F i = q
  | 0 => ⟨fun h => absurd h (by simp [gL]), fun ⟨i, h, _⟩ => by omega⟩
  | n + 1 => by
    show q ∈ gIns (gL F n) (F n) ↔ _
    rw [gIns_mem, gL_mem F q n]
    constructor
    · rintro (⟨i, h, e⟩ | rfl)
      · exact ⟨i, by omega, e⟩
      · exact ⟨n, by omega, rfl⟩
    · rintro ⟨i, h, e⟩
      by_cases hi : i = n
      · subst hi; exact Or.inr e.symm
      · exact Or.inl ⟨i, by omega, e⟩
theorem gL_rise {F : Nat → MbI} {n : Nat} (hu : ∀ i j, i < j → j < n → (F i).a ≠ (F j).a) : ∀ i, i ≤ n → (gL F i).Pairwise gP
  | 0, _ => List.Pairwise.nil
  | i + 1, hi => gIns_rise (gL_rise hu i (by omega)) fun q hq => by
    obtain ⟨j, hj, rfl⟩ := (gL_mem F q i).1 hq
    exact hu j i hj (by omega)
theorem gL_grP {F : Nat → MbI} {n : Nat} (hu : ∀ i j, i < j → j < n → (F i).a ≠ (F j).a) : GrP F n (gL F n) :=
  ⟨gL_len F n, gL_rise hu n (Nat.le_refl _), fun p => gL_mem F p n⟩
end Go.Proofs.YtfegoldjejlcaaaDoor
