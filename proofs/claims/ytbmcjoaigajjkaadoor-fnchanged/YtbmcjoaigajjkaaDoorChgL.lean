/-
  What Changed tells of two right trees: told are just the paths at which they have not the same; how often; none where they are one.
-/
import Derived.Test.YtbmcjoaigajjkaaDoorChgC
import Derived.Test.YtbmcjoaigajjkaaDoorRtL
namespace Go.Proofs.YtbmcjoaigajjkaaDoor
open Go.RowKit
set_option linter.unusedVariables false
set_option linter.unusedSimpArgs false
theorem chD_sym {F G : Nat → NdI} {n m : Nat} (hF : trV F n) (hG : trV G m) {s : ByteArray} (h : chD F n G m s) : chD G m F n s := by
  rcases h with ⟨i, hi, e, h⟩ | ⟨j, hj, e, h⟩
  · by_cases hj : ∃ j, j < m ∧ (G j).p = s
    · obtain ⟨j, hj, e2⟩ := hj
      refine Or.inl ⟨j, hj, e2, fun k hk ek => ?_⟩
      have : k = i := rise_eq hF hk hi (by rw [ek, e2, e])
      subst this
      exact h j hj ek.symm
    · exact Or.inr ⟨i, hi, e, fun j h1 h2 => hj ⟨j, h1, h2⟩⟩
  · exact Or.inl ⟨j, hj, e, fun i hi ei => h i hi (by rw [ei, e])⟩
theorem chL_P {F G : Nat → NdI} {n m : Nat} (h : ndR F n ∧ ndR G m) : ChP F n G m (chL F n G m) := by
  rw [chL_yes h]; exact chP_srt h.1.2 h.2.2
theorem chL_sym (F G : Nat → NdI) (n m : Nat) : chL G m F n = chL F n G m := by
  by_cases h : ndR F n ∧ ndR G m
  · have h1 := chL_P h
    have h2 := chL_P (And.symm h)
    exact ChP.one (F := G) (n := m) (G := F) (m := n) h2 ⟨h1.rise, fun s => (h1.mem s).trans ⟨chD_sym h.1.2 h.2.2, chD_sym h.2.2 h.1.2⟩⟩
  · rw [chL_no h, chL_no fun k => h (And.symm k)]
theorem chD_both {F G : Nat → NdI} {n m : Nat} (hF : trV F n) (hG : trV G m) {i j : Nat} (hi : i < n) (hj : j < m) {s : ByteArray} (e1 : (F i).p = s) (e2 : (G j).p = s) : chD F n G m s ↔ F i ≠ G j := by
  constructor
  · rintro (⟨a, ha, e, h⟩ | ⟨b, hb, e, h⟩)
    · have : a = i := rise_eq hF ha hi (by rw [e, e1])
      subst this
      exact fun c => h j hj c.symm
    · exact absurd e1 (h i hi)
  · intro hne
    refine Or.inl ⟨i, hi, e1, fun k hk ek => ?_⟩
    have : k = j := rise_eq hG hk hj (by rw [ek, e1, e2])
    subst this
    exact hne ek.symm
/-- is a path told? -/
noncomputable def inL (L : List ByteArray) (s : ByteArray) : Bool := open Classical in decide (s ∈ L)
theorem inL_yes {L : List ByteArray} {s : ByteArray} (h : s ∈ L) : inL L s = true := by unfold inL; exact (open Classical in decide_eq_true h)
theorem inL_no {L : List ByteArray} {s : ByteArray} (h : s ∉ L) : inL L s = false := by unfold inL; exact (open Classical in decide_eq_false h)
/-- how many of the first i nodes have a path that is told -/
noncomputable def cntT (A : List NdI) (L : List ByteArray) (i : Nat) : Nat := ((A.take i).filter fun p => inL L p.p).length
theorem cntT_zero (A : List NdI) (L : List ByteArray) : cntT A L 0 = 0 := by simp [cntT]
theorem cntT_yes {A : List NdI} {L : List ByteArray} {i : Nat} (h : i < A.length) (hp : inL L (ndF A i).p = true) : cntT A L (i + 1) = cntT A L i + 1 := by
  unfold cntT
  have e : ndF A i = A[i] := by unfold ndF; simp [h]
  rw [e] at hp
  rw [List.take_add_one, List.getElem?_eq_getElem h, List.filter_append]
  simp [hp]
theorem cntT_no {A : List NdI} {L : List ByteArray} {i : Nat} (h : i < A.length) (hp : inL L (ndF A i).p = false) : cntT A L (i + 1) = cntT A L i := by
  unfold cntT
  have e : ndF A i = A[i] := by unfold ndF; simp [h]
  rw [e] at hp
  rw [List.take_add_one, List.getElem?_eq_getElem h, List.filter_append]
  simp [hp]
theorem cntT_le (A : List NdI) (L : List ByteArray) (i : Nat) : cntT A L i ≤ i := by
  unfold cntT
  have h1 := List.length_filter_le (fun p : NdI => inL L p.p) (A.take i)
  have h2 := List.length_take_le i A
  omega
theorem len_sub {α : Type} [DecidableEq α] : ∀ (L T : List α), L.Nodup → (∀ s ∈ L, s ∈ T) → L.length ≤ T.length
  | [], T, _, _ => Nat.zero_le _
  | a :: L, T, hn, h => by
    rw [List.nodup_cons] at hn
    have ha := h a (by simp)
    have := len_sub L (T.erase a) hn.2 fun s hs => (List.mem_erase_of_ne (fun c => hn.1 (by rw [← c]; exact hs))).2 (h s (List.mem_cons_of_mem _ hs))
    rw [List.length_erase_of_mem ha] at this
    have := List.length_pos_of_mem ha
    simp only [List.length_cons]
    omega
theorem cntT_all {A : List NdI} {L : List ByteArray} (hn : L.Nodup) (h : ∀ s ∈ L, ∃ p ∈ A, p.p = s) : L.length ≤ cntT A L A.length := by
  classical
  unfold cntT
  rw [List.take_length]
  have := len_sub L ((A.filter fun p => inL L p.p).map NdI.p) hn fun s hs => by
    obtain ⟨p, hp, e⟩ := h s hs
    exact List.mem_map.2 ⟨p, List.mem_filter.2 ⟨hp, by rw [e]; exact inL_yes hs⟩, e⟩
  rwa [List.length_map] at this
theorem ndF_at {L : List NdI} {i : Nat} (h : i < L.length) : ndF L i = L[i] := by unfold ndF; simp [h]
theorem rise_list {L : List NdI} (h : trV (ndF L) L.length) : L.Pairwise fun a b => pL a.p b.p := by
  rw [List.pairwise_iff_getElem]
  intro i j hi hj hij
  have := rise_lt h hij hj
  rwa [ndF_at hi, ndF_at hj] at this
theorem chL_same {L M : List NdI} (hL : ndR (ndF L) L.length) (hM : ndR (ndF M) M.length) : chL (ndF L) L.length (ndF M) M.length = [] ↔ L = M := by
  have hP := chL_P (⟨hL, hM⟩ : ndR (ndF L) L.length ∧ ndR (ndF M) M.length)
  constructor
  · intro h0
    have hno : ∀ s, ¬ chD (ndF L) L.length (ndF M) M.length s := fun s hs => by
      have := (hP.mem s).2 hs
      rw [h0] at this
      cases this
    have h1 : ∀ p ∈ L, p ∈ M := fun p hp => by
      obtain ⟨i, hi, rfl⟩ := List.mem_iff_getElem.1 hp
      apply Classical.byContradiction
      intro hc
      refine hno _ (Or.inl ⟨i, hi, rfl, fun j hj e => hc ?_⟩)
      rw [ndF_at hj, ndF_at hi] at e
      rw [← e]
      exact List.getElem_mem hj
    have h2 : ∀ p ∈ M, p ∈ L := fun p hp => by
      obtain ⟨j, hj, rfl⟩ := List.mem_iff_getElem.1 hp
      apply Classical.byContradiction
      intro hc
      refine hno _ (chD_sym hM.2 hL.2 (Or.inl ⟨j, hj, rfl, fun i hi e => hc ?_⟩))
      rw [ndF_at hi, ndF_at hj] at e
      rw [← e]
      exact List.getElem_mem hi
    have r1 := rise_list hL.2
    have r2 := rise_list hM.2
    have n1 : L.Nodup := List.Pairwise.imp (S := (· ≠ ·)) (fun {a b} h e => pL_ne h (congrArg NdI.p e)) r1
    have n2 : M.Nodup := List.Pairwise.imp (S := (· ≠ ·)) (fun {a b} h e => pL_ne h (congrArg NdI.p e)) r2
    have hp : L.Perm M := (List.perm_ext_iff_of_nodup n1 n2).2 fun s => ⟨h1 s, h2 s⟩
    exact List.Perm.eq_of_pairwise (le := fun a b : NdI => pL a.p b.p) (fun a b _ _ x y => absurd (pL_trans x y) fun c => pL_ne c rfl) r1 r2 hp
  · rintro rfl
    rw [List.eq_nil_iff_forall_not_mem]
    intro s hs
    rcases (hP.mem s).1 hs with ⟨i, hi, e, h⟩ | ⟨j, hj, e, h⟩
    · exact h i hi rfl
    · exact h j hj e
theorem ch_from {L M : List NdI} (hL : ndR (ndF L) L.length) (hM : ndR (ndF M) M.length) : ∀ s ∈ chL (ndF L) L.length (ndF M) M.length, ∃ p ∈ L ++ M, p.p = s := by
  intro s hs
  rcases ((chL_P ⟨hL, hM⟩).mem s).1 hs with ⟨i, hi, e, h⟩ | ⟨j, hj, e, h⟩
  · exact ⟨ndF L i, List.mem_append.2 (Or.inl (by rw [ndF_at hi]; exact List.getElem_mem hi)), e⟩
  · exact ⟨ndF M j, List.mem_append.2 (Or.inr (by rw [ndF_at hj]; exact List.getElem_mem hj)), e⟩
/-- what the two finds give at a node's path, and whether it is told -/
theorem ch_told {L M : List NdI} (hL : ndR (ndF L) L.length) (hM : ndR (ndF M) M.length) {i : Nat} (hi : i < (L ++ M).length) :
    (∃ a b, a < L.length ∧ b < M.length ∧ fdI (ndF L) L.length (ndF (L ++ M) i).p = some a ∧ fdI (ndF M) M.length (ndF (L ++ M) i).p = some b ∧ ((ndF L a = ndF M b ∧ inL (chL (ndF L) L.length (ndF M) M.length) (ndF (L ++ M) i).p = false) ∨ (ndF L a ≠ ndF M b ∧ inL (chL (ndF L) L.length (ndF M) M.length) (ndF (L ++ M) i).p = true))) ∨
    (∃ a, a < L.length ∧ fdI (ndF L) L.length (ndF (L ++ M) i).p = some a ∧ fdI (ndF M) M.length (ndF (L ++ M) i).p = none ∧ inL (chL (ndF L) L.length (ndF M) M.length) (ndF (L ++ M) i).p = true) ∨
    (∃ b, b < M.length ∧ fdI (ndF L) L.length (ndF (L ++ M) i).p = none ∧ fdI (ndF M) M.length (ndF (L ++ M) i).p = some b ∧ inL (chL (ndF L) L.length (ndF M) M.length) (ndF (L ++ M) i).p = true) := by
  have hP := chL_P (⟨hL, hM⟩ : ndR (ndF L) L.length ∧ ndR (ndF M) M.length)
  have hin : (∃ a, a < L.length ∧ (ndF L a).p = (ndF (L ++ M) i).p) ∨ (∃ b, b < M.length ∧ (ndF M b).p = (ndF (L ++ M) i).p) := by
    rw [ndF_at hi]
    rcases List.mem_append.1 (List.getElem_mem hi) with h | h
    · obtain ⟨a, ha, e⟩ := List.mem_iff_getElem.1 h
      exact Or.inl ⟨a, ha, by rw [ndF_at ha, e]⟩
    · obtain ⟨a, ha, e⟩ := List.mem_iff_getElem.1 h
      exact Or.inr ⟨a, ha, by rw [ndF_at ha, e]⟩
  generalize (ndF (L ++ M) i).p = s at hin ⊢
  by_cases ha : ∃ a, a < L.length ∧ (ndF L a).p = s
  · obtain ⟨a, ha, ea⟩ := ha
    by_cases hb : ∃ b, b < M.length ∧ (ndF M b).p = s
    · obtain ⟨b, hb, eb⟩ := hb
      refine Or.inl ⟨a, b, ha, hb, fdI_some hL ha ea, fdI_some hM hb eb, ?_⟩
      have hc := chD_both hL.2 hM.2 ha hb ea eb
      by_cases h : ndF L a = ndF M b
      · exact Or.inl ⟨h, inL_no fun hs => hc.1 ((hP.mem s).1 hs) h⟩
      · exact Or.inr ⟨h, inL_yes ((hP.mem s).2 (hc.2 h))⟩
    · refine Or.inr (Or.inl ⟨a, ha, fdI_some hL ha ea, fdI_none (Or.inr fun j hj e => hb ⟨j, hj, e⟩), inL_yes ((hP.mem s).2 ?_)⟩)
      exact Or.inl ⟨a, ha, ea, fun j hj e => hb ⟨j, hj, by rw [e, ea]⟩⟩
  · rcases hin with h | ⟨b, hb, eb⟩
    · exact absurd h ha
    · refine Or.inr (Or.inr ⟨b, hb, fdI_none (Or.inr fun j hj e => ha ⟨j, hj, e⟩), fdI_some hM hb eb, inL_yes ((hP.mem s).2 ?_)⟩)
      exact Or.inr ⟨b, hb, eb, fun j hj e => ha ⟨j, hj, e⟩⟩
/-- the inner loop: told so far -/
theorem inL_step (L : List ByteArray) (s : ByteArray) {k : Nat} (h : k < L.length) : inL (L.take (k + 1)) s = (inL (L.take k) s || inL [L[k]] s) := by
  have e : s ∈ L.take (k + 1) ↔ (s ∈ L.take k ∨ s = L[k]) := by rw [List.take_add_one, List.getElem?_eq_getElem h, List.mem_append]; simp only [Option.toList_some, List.mem_singleton]
  by_cases h1 : s ∈ L.take k
  · rw [inL_yes (e.2 (Or.inl h1)), inL_yes h1]; rfl
  · rw [inL_no h1]
    by_cases h2 : s = L[k]
    · rw [inL_yes (e.2 (Or.inr h2)), inL_yes (by rw [h2]; simp)]; rfl
    · rw [inL_no (fun c => (e.1 c).elim h1 h2), inL_no (by simpa using h2)]; rfl
theorem inL_zero (L : List ByteArray) (s : ByteArray) : inL (L.take 0) s = false := by unfold inL; simp
theorem inL_full (L : List ByteArray) (s : ByteArray) : inL (L.take L.length) s = inL L s := by rw [List.take_length]
end Go.Proofs.YtbmcjoaigajjkaaDoor
