/-
  What is read of a text of pieces, as plain mathematics; the readers of numbers and data.
-/
import Derived.Test.YtpeddaljgmkomaaTakeTextc
import Derived.Test.YtpeddaljgmkomaaPcsC
import Derived.BigQuiet
import Derived.Test.YtpeddaljgmkomaaPcL
namespace Go.Proofs.Ytpeddaljgmkomaa
open Go.RowKit
set_option linter.unusedVariables false
set_option linter.unusedSimpArgs false
/-- a number that may stand in a text, and where it ends -/
def numI (s : ByteArray) : Option (Nat × ByteArray) := match num s with
  | none => none
  | some (X, u) => if X ≤ 1000000000000 then some (X.toNat, s.extract u s.size) else none
def numIV : Option (Nat × ByteArray) → Value
  | none => .tuple #[.int .i64 0, .string ⟨#[]⟩, .bool false]
  | some (n, r) => .tuple #[.int .i64 (n : Int), .string r, .bool true]
theorem numI_none1 {s : ByteArray} (h : num s = none) : numI s = none := by unfold numI; rw [h]
theorem numI_none2 {s : ByteArray} {X : Int} {u : Nat} (h : num s = some (X, u)) (hx : ¬ X ≤ 1000000000000) : numI s = none := by unfold numI; rw [h]; exact if_neg hx
theorem numI_some {s : ByteArray} {X : Int} {u : Nat} (h : num s = some (X, u)) (hx : X ≤ 1000000000000) : numI s = some (X.toNat, s.extract u s.size) := by unfold numI; rw [h]; exact if_pos hx
theorem num_nn {s : ByteArray} {X : Int} {u : Nat} (h : num s = some (X, u)) : 0 ≤ X := rd_nn _ _ _ _ _ h
theorem numI_bd {s : ByteArray} {n : Nat} {r : ByteArray} (h : numI s = some (n, r)) : n ≤ 1000000000000 ∧ r.size ≤ s.size := by
  unfold numI at h
  cases hn : num s with
  | none => rw [hn] at h; cases h
  | some p =>
    obtain ⟨X, u⟩ := p
    rw [hn] at h
    simp only at h
    split at h
    · simp only [Option.some.injEq, Prod.mk.injEq] at h
      have := num_nn hn
      refine ⟨by omega, ?_⟩
      rw [← h.2, ByteArray.size_extract]; omega
    · cases h
def datI (s : ByteArray) : Option (ByteArray × ByteArray) := match txt s with
  | none => none
  | some (n, u) => some (s.extract u (u + n), s.extract (u + n) s.size)
theorem datI_out (s : ByteArray) : textOut s = (match datI s with | none => .tuple #[.string ⟨#[]⟩, .string ⟨#[]⟩, .bool false] | some (d, r) => .tuple #[.string d, .string r, .bool true]) := by
  unfold textOut datI
  cases txt s with
  | none => rfl
  | some p => obtain ⟨n, u⟩ := p; rfl
theorem datI_bd {s d r : ByteArray} (h : datI s = some (d, r)) : d.size ≤ s.size ∧ r.size ≤ s.size := by
  unfold datI at h
  cases ht : txt s with
  | none => rw [ht] at h; cases h
  | some p =>
    obtain ⟨n, u⟩ := p
    rw [ht] at h
    simp only [Option.some.injEq, Prod.mk.injEq] at h
    rw [← h.1, ← h.2, ByteArray.size_extract, ByteArray.size_extract]; omega
/-- a piece that a text begins with -/
noncomputable def pieI (s : ByteArray) : Option (PcI × ByteArray) := match datI s with
  | none => none
  | some (d, r) => open Classical in if d = ⟨#[]⟩ then
      (match numI r with
      | none => none
      | some (f, r1) => match numI r1 with
        | none => none
        | some (l, r2) => some (⟨(f : Int), (l : Int), ⟨#[]⟩⟩, r2))
    else some (⟨0, 0, d⟩, r)
theorem pieI_bad {s : ByteArray} (h : datI s = none) : pieI s = none := by unfold pieI; rw [h]
theorem pieI_dat {s d r : ByteArray} (h : datI s = some (d, r)) (hd : d ≠ ⟨#[]⟩) : pieI s = some (⟨0, 0, d⟩, r) := by unfold pieI; rw [h]; exact if_neg hd
theorem pieI_no1 {s r : ByteArray} (h : datI s = some (⟨#[]⟩, r)) (h1 : numI r = none) : pieI s = none := by
  unfold pieI; rw [h]; simp only; rw [if_pos trivial, h1]
theorem pieI_no2 {s r r1 : ByteArray} {f : Nat} (h : datI s = some (⟨#[]⟩, r)) (h1 : numI r = some (f, r1)) (h2 : numI r1 = none) : pieI s = none := by
  unfold pieI; rw [h]; simp only; rw [if_pos trivial, h1]; simp only; rw [h2]
theorem pieI_yes {s r r1 r2 : ByteArray} {f l : Nat} (h : datI s = some (⟨#[]⟩, r)) (h1 : numI r = some (f, r1)) (h2 : numI r1 = some (l, r2)) : pieI s = some (⟨(f : Int), (l : Int), ⟨#[]⟩⟩, r2) := by
  unfold pieI; rw [h]; simp only; rw [if_pos trivial, h1]; simp only; rw [h2]
theorem pieI_bd {s r : ByteArray} {p : PcI} (h : pieI s = some (p, r)) : p.d.size ≤ s.size ∧ r.size ≤ s.size := by
  cases hd : datI s with
  | none => rw [pieI_bad hd] at h; cases h
  | some q =>
    obtain ⟨d, r0⟩ := q
    obtain ⟨b1, b2⟩ := datI_bd hd
    by_cases he : d = ⟨#[]⟩
    · subst he
      cases h1 : numI r0 with
      | none => rw [pieI_no1 hd h1] at h; cases h
      | some q1 =>
        obtain ⟨f, r1⟩ := q1
        cases h2 : numI r1 with
        | none => rw [pieI_no2 hd h1 h2] at h; cases h
        | some q2 =>
          obtain ⟨l, r2⟩ := q2
          rw [pieI_yes hd h1 h2] at h
          simp only [Option.some.injEq, Prod.mk.injEq] at h
          obtain ⟨rfl, rfl⟩ := h
          have c1 := (numI_bd h1).2
          have c2 := (numI_bd h2).2
          exact ⟨Nat.zero_le _, by omega⟩
    · rw [pieI_dat hd he] at h
      simp only [Option.some.injEq, Prod.mk.injEq] at h
      obtain ⟨rfl, rfl⟩ := h
      exact ⟨b1, b2⟩
/-- so many pieces, one behind the other -/
noncomputable def piesI (s : ByteArray) : Nat → Option (List PcI × ByteArray)
  | 0 => some ([], s)
  | i + 1 => match piesI s i with
    | none => none
    | some (L, r) => match pieI r with
      | none => none
      | some (p, r') => some (L ++ [p], r')
theorem piesI_none {s : ByteArray} {i : Nat} (h : piesI s i = none) : ∀ j, piesI s (i + j) = none
  | 0 => h
  | j + 1 => by
    have := piesI_none h j
    show (match piesI s (i + j) with | none => none | some (L, r) => match pieI r with | none => none | some (p, r') => some (L ++ [p], r')) = none
    rw [this]
theorem piesI_go {s r r' : ByteArray} {i : Nat} {L : List PcI} {p : PcI} (h : piesI s i = some (L, r)) (h2 : pieI r = some (p, r')) : piesI s (i + 1) = some (L ++ [p], r') := by
  show (match piesI s i with | none => none | some (L, r) => match pieI r with | none => none | some (p, r') => some (L ++ [p], r')) = _
  rw [h]; simp only; rw [h2]
theorem piesI_stop {s r : ByteArray} {i : Nat} {L : List PcI} (h : piesI s i = some (L, r)) (h2 : pieI r = none) : piesI s (i + 1) = none := by
  show (match piesI s i with | none => none | some (L, r) => match pieI r with | none => none | some (p, r') => some (L ++ [p], r')) = _
  rw [h]; simp only; rw [h2]
theorem piesI_bd {s r : ByteArray} {i : Nat} {L : List PcI} (h : piesI s i = some (L, r)) : L.length = i ∧ r.size ≤ s.size ∧ ∀ p ∈ L, p.d.size ≤ s.size := by
  induction i generalizing L r with
  | zero =>
    simp only [piesI, Option.some.injEq, Prod.mk.injEq] at h
    obtain ⟨rfl, rfl⟩ := h
    exact ⟨rfl, Nat.le_refl _, fun p hp => by cases hp⟩
  | succ i ih =>
    cases h1 : piesI s i with
    | none => have := piesI_none h1 1; rw [this] at h; cases h
    | some q =>
      obtain ⟨L0, r0⟩ := q
      obtain ⟨b1, b2, b3⟩ := ih h1
      cases h2 : pieI r0 with
      | none => rw [piesI_stop h1 h2] at h; cases h
      | some q2 =>
        obtain ⟨p, r1⟩ := q2
        rw [piesI_go h1 h2] at h
        simp only [Option.some.injEq, Prod.mk.injEq] at h
        obtain ⟨rfl, rfl⟩ := h
        obtain ⟨c1, c2⟩ := pieI_bd h2
        refine ⟨by rw [List.length_append, b1]; rfl, by omega, fun x hx => ?_⟩
        rcases List.mem_append.1 hx with hx | hx
        · exact b3 x hx
        · simp at hx; subst hx; omega
/-- what ReadDelta tells -/
noncomputable def rdD (s : ByteArray) : Option (List PcI) := match numI s with
  | none => none
  | some (n, r) => if n ≤ 500 then (match piesI r n with
    | none => none
    | some (L, r') => open Classical in if r' = ⟨#[]⟩ ∧ pcR (pcF L) n 4000 then some L else none) else none
theorem rdD_no1 {s : ByteArray} (h : numI s = none) : rdD s = none := by unfold rdD; rw [h]
theorem rdD_no2 {s r : ByteArray} {n : Nat} (h : numI s = some (n, r)) (hn : ¬ n ≤ 500) : rdD s = none := by unfold rdD; rw [h]; exact if_neg hn
theorem rdD_no3 {s r : ByteArray} {n : Nat} (h : numI s = some (n, r)) (h2 : piesI r n = none) : rdD s = none := by
  unfold rdD; rw [h]; simp only
  split
  · rw [h2]
  · rfl
theorem rdD_no4 {s r r' : ByteArray} {n : Nat} {L : List PcI} (h : numI s = some (n, r)) (h2 : piesI r n = some (L, r')) (h3 : ¬ (r' = ⟨#[]⟩ ∧ pcR (pcF L) n 4000)) : rdD s = none := by
  unfold rdD; rw [h]; simp only
  split
  · rw [h2]; exact if_neg h3
  · rfl
theorem rdD_yes {s r : ByteArray} {n : Nat} {L : List PcI} (h : numI s = some (n, r)) (hn : n ≤ 500) (h2 : piesI r n = some (L, ⟨#[]⟩)) (h3 : pcR (pcF L) n 4000) : rdD s = some L := by
  unfold rdD; rw [h]; simp only; rw [if_pos hn, h2]; exact if_pos ⟨rfl, h3⟩
end Go.Proofs.Ytpeddaljgmkomaa
