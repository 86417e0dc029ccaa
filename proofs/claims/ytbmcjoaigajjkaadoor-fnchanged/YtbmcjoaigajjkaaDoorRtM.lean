/-
  What is read of a text of nodes: plain mathematics.
-/
import Derived.Test.YtbmcjoaigajjkaaDoorRdA
import Derived.Test.YtbmcjoaigajjkaaDoorTrT
import Derived.Test.YtbmcjoaigajjkaaDoorTrFi
namespace Go.Proofs.YtbmcjoaigajjkaaDoor
open Go.RowKit
set_option linter.unusedVariables false
set_option linter.unusedSimpArgs false
theorem d_neR {d : ByteArray} (h : d ≠ ⟨#[]⟩) : d.toList.isEmpty = false := by
  rw [ByteArray.toList_eq]
  cases hd : d.data.toList with
  | nil =>
    exfalso; apply h
    have e : d.data = #[] := Array.toList_inj.1 hd
    cases d; simp at e; subst e; rfl
  | cons a l => rfl
theorem numI_lt {s : ByteArray} {n : Nat} {r : ByteArray} (h : numI s = some (n, r)) : r.size + 1 ≤ s.size := by
  unfold numI at h
  cases hn : num s with
  | none => rw [hn] at h; cases h
  | some p =>
    obtain ⟨X, u⟩ := p
    rw [hn] at h
    simp only at h
    split at h
    · simp only [Option.some.injEq, Prod.mk.injEq] at h
      have := num_bd hn
      rw [← h.2, ByteArray.size_extract]; omega
    · cases h
theorem datI_sum {s d r : ByteArray} (h : datI s = some (d, r)) : d.size + r.size + 1 ≤ s.size := by
  cases hn : numI s with
  | none => rw [datI_numn hn] at h; cases h
  | some p =>
    obtain ⟨n, r0⟩ := p
    have h1 := numI_lt hn
    by_cases hb : n ≤ 100000 ∧ n ≤ r0.size
    · rw [datI_num hn hb.1 hb.2] at h
      simp only [Option.some.injEq, Prod.mk.injEq] at h
      rw [← h.1, ← h.2, ByteArray.size_extract, ByteArray.size_extract]; omega
    · rw [datI_numb hn hb] at h; cases h
/-- a node that a text begins with -/
def nodI (s : ByteArray) : Option (NdI × ByteArray) := match datI s with
  | none => none
  | some (a, r) => match numI r with
    | none => none
    | some (k, r1) => if k % 2 = 1 then some (⟨a, true, ((k / 2 : Nat) : Int), ⟨#[]⟩⟩, r1) else match datI r1 with
      | none => none
      | some (d, r2) => some (⟨a, false, ((k / 2 : Nat) : Int), d⟩, r2)
theorem nodI_no1 {s : ByteArray} (h : datI s = none) : nodI s = none := by unfold nodI; rw [h]
theorem nodI_no2 {s a r : ByteArray} (h : datI s = some (a, r)) (h1 : numI r = none) : nodI s = none := by unfold nodI; rw [h]; simp only; rw [h1]
theorem nodI_dir {s a r r1 : ByteArray} {k : Nat} (h : datI s = some (a, r)) (h1 : numI r = some (k, r1)) (hk : k % 2 = 1) : nodI s = some (⟨a, true, ((k / 2 : Nat) : Int), ⟨#[]⟩⟩, r1) := by
  unfold nodI; rw [h]; simp only; rw [h1]; exact if_pos hk
theorem nodI_no3 {s a r r1 : ByteArray} {k : Nat} (h : datI s = some (a, r)) (h1 : numI r = some (k, r1)) (hk : ¬ k % 2 = 1) (h2 : datI r1 = none) : nodI s = none := by
  unfold nodI; rw [h]; simp only; rw [h1]; simp only; rw [if_neg hk, h2]
theorem nodI_file {s a r r1 d r2 : ByteArray} {k : Nat} (h : datI s = some (a, r)) (h1 : numI r = some (k, r1)) (hk : ¬ k % 2 = 1) (h2 : datI r1 = some (d, r2)) : nodI s = some (⟨a, false, ((k / 2 : Nat) : Int), d⟩, r2) := by
  unfold nodI; rw [h]; simp only; rw [h1]; simp only; rw [if_neg hk, h2]
theorem nodI_bd {s r : ByteArray} {p : NdI} (h : nodI s = some (p, r)) : p.p.size + p.d.size + r.size + 1 ≤ s.size := by
  cases hd : datI s with
  | none => rw [nodI_no1 hd] at h; cases h
  | some q =>
    obtain ⟨a, r0⟩ := q
    have b1 := datI_sum hd
    cases hn : numI r0 with
    | none => rw [nodI_no2 hd hn] at h; cases h
    | some q1 =>
      obtain ⟨k, r1⟩ := q1
      have b2 := numI_lt hn
      by_cases hk : k % 2 = 1
      · rw [nodI_dir hd hn hk] at h
        simp only [Option.some.injEq, Prod.mk.injEq] at h
        obtain ⟨rfl, rfl⟩ := h
        show a.size + 0 + r1.size + 1 ≤ s.size
        omega
      · cases h2 : datI r1 with
        | none => rw [nodI_no3 hd hn hk h2] at h; cases h
        | some q2 =>
          obtain ⟨d, r2⟩ := q2
          have b3 := datI_sum h2
          rw [nodI_file hd hn hk h2] at h
          simp only [Option.some.injEq, Prod.mk.injEq] at h
          obtain ⟨rfl, rfl⟩ := h
          show a.size + d.size + r2.size + 1 ≤ s.size
          omega
/-- so many nodes, one behind the other -/
def nodsI (s : ByteArray) : Nat → Option (List NdI × ByteArray)
  | 0 => some ([], s)
  | i + 1 => match nodsI s i with
    | none => none
    | some (L, r) => match nodI r with
      | none => none
      | some (p, r') => some (L ++ [p], r')
theorem nodsI_none {s : ByteArray} {i : Nat} (h : nodsI s i = none) : ∀ j, nodsI s (i + j) = none
  | 0 => h
  | j + 1 => by
    have := nodsI_none h j
    show (match nodsI s (i + j) with | none => none | some (L, r) => match nodI r with | none => none | some (p, r') => some (L ++ [p], r')) = none
    rw [this]
theorem nodsI_go {s r r' : ByteArray} {i : Nat} {L : List NdI} {p : NdI} (h : nodsI s i = some (L, r)) (h2 : nodI r = some (p, r')) : nodsI s (i + 1) = some (L ++ [p], r') := by
  show (match nodsI s i with | none => none | some (L, r) => match nodI r with | none => none | some (p, r') => some (L ++ [p], r')) = _
  rw [h]; simp only; rw [h2]
theorem nodsI_stop {s r : ByteArray} {i : Nat} {L : List NdI} (h : nodsI s i = some (L, r)) (h2 : nodI r = none) : nodsI s (i + 1) = none := by
  show (match nodsI s i with | none => none | some (L, r) => match nodI r with | none => none | some (p, r') => some (L ++ [p], r')) = _
  rw [h]; simp only; rw [h2]
def ndF (L : List NdI) (i : Nat) : NdI := L.getD i nd0
theorem ndTot_same {F G : Nat → NdI} : ∀ {i : Nat}, (∀ j, j < i → F j = G j) → ndTot F i = ndTot G i
  | 0, _ => rfl
  | i + 1, h => by
    show ndTot F i + _ = ndTot G i + _
    rw [ndTot_same (fun j hj => h j (by omega)), h i (by omega)]
theorem ndF_low (L : List NdI) (p : NdI) {j : Nat} (hj : j < L.length) : ndF (L ++ [p]) j = ndF L j := by
  unfold ndF; rw [List.getD_eq_getElem?_getD, List.getD_eq_getElem?_getD, List.getElem?_append_left hj]
theorem ndF_new (L : List NdI) (p : NdI) : ndF (L ++ [p]) L.length = p := by
  unfold ndF; rw [List.getD_eq_getElem?_getD]; simp
theorem ndTot_snoc (L : List NdI) (p : NdI) : ndTot (ndF (L ++ [p])) (L.length + 1) = ndTot (ndF L) L.length + (p.p.size + p.d.size) := by
  show ndTot (ndF (L ++ [p])) L.length + _ = _
  rw [ndTot_same (fun j hj => ndF_low L p hj), ndF_new]
theorem nodsI_bd {s r : ByteArray} {i : Nat} {L : List NdI} (h : nodsI s i = some (L, r)) : L.length = i ∧ i + ndTot (ndF L) i + r.size ≤ s.size := by
  induction i generalizing L r with
  | zero =>
    simp only [nodsI, Option.some.injEq, Prod.mk.injEq] at h
    obtain ⟨rfl, rfl⟩ := h
    exact ⟨rfl, by show 0 + 0 + s.size ≤ s.size; omega⟩
  | succ i ih =>
    cases h1 : nodsI s i with
    | none => have := nodsI_none h1 1; rw [this] at h; cases h
    | some q =>
      obtain ⟨L0, r0⟩ := q
      obtain ⟨b1, b2⟩ := ih h1
      cases h2 : nodI r0 with
      | none => rw [nodsI_stop h1 h2] at h; cases h
      | some q2 =>
        obtain ⟨p, r1⟩ := q2
        rw [nodsI_go h1 h2] at h
        simp only [Option.some.injEq, Prod.mk.injEq] at h
        obtain ⟨rfl, rfl⟩ := h
        have c := nodI_bd h2
        subst b1
        rw [ndTot_snoc]
        refine ⟨by simp, by omega⟩
theorem nodsI_le {s r : ByteArray} {i : Nat} {L : List NdI} (hs : s.size ≤ 1048576) (h : nodsI s i = some (L, r)) : NdLe (ndF L) L.length := by
  obtain ⟨b1, b2⟩ := nodsI_bd h
  subst b1
  exact ⟨by omega, by omega⟩
/-- what ReadTree tells -/
noncomputable def rtD (s : ByteArray) : Option (List NdI) := match numI s with
  | none => none
  | some (n, r) => if n ≤ 40 then (match nodsI r n with
    | none => none
    | some (L, r') => open Classical in if r' = ⟨#[]⟩ ∧ ndR (ndF L) n then some L else none) else none
theorem rtD_no1 {s : ByteArray} (h : numI s = none) : rtD s = none := by unfold rtD; rw [h]
theorem rtD_no2 {s r : ByteArray} {n : Nat} (h : numI s = some (n, r)) (hn : ¬ n ≤ 40) : rtD s = none := by unfold rtD; rw [h]; exact if_neg hn
theorem rtD_no3 {s r : ByteArray} {n : Nat} (h : numI s = some (n, r)) (h2 : nodsI r n = none) : rtD s = none := by
  unfold rtD; rw [h]; simp only
  split
  · rw [h2]
  · rfl
theorem rtD_no4 {s r r' : ByteArray} {n : Nat} {L : List NdI} (h : numI s = some (n, r)) (h2 : nodsI r n = some (L, r')) (h3 : ¬ (r' = ⟨#[]⟩ ∧ ndR (ndF L) n)) : rtD s = none := by
  unfold rtD; rw [h]; simp only
  split
  · rw [h2]; exact if_neg h3
  · rfl
theorem rtD_yes {s r : ByteArray} {n : Nat} {L : List NdI} (h : numI s = some (n, r)) (hn : n ≤ 40) (h2 : nodsI r n = some (L, ⟨#[]⟩)) (h3 : ndR (ndF L) n) : rtD s = some L := by
  unfold rtD; rw [h]; simp only; rw [if_pos hn, h2]; exact if_pos ⟨rfl, h3⟩
theorem rtD_len {s : ByteArray} {L : List NdI} (h : rtD s = some L) : L.length ≤ 40 := by
  cases hn : numI s with
  | none => rw [rtD_no1 hn] at h; cases h
  | some p =>
    obtain ⟨n, r⟩ := p
    by_cases h4 : n ≤ 40
    · cases h2 : nodsI r n with
      | none => rw [rtD_no3 hn h2] at h; cases h
      | some q =>
        obtain ⟨L', r'⟩ := q
        by_cases h3 : r' = ⟨#[]⟩ ∧ ndR (ndF L') n
        · obtain ⟨rfl, h5⟩ := h3
          rw [rtD_yes hn h4 h2 h5] at h
          have := (nodsI_bd h2).1
          cases h; omega
        · rw [rtD_no4 hn h2 h3] at h; cases h
    · rw [rtD_no2 hn h4] at h; cases h
end Go.Proofs.YtbmcjoaigajjkaaDoor
