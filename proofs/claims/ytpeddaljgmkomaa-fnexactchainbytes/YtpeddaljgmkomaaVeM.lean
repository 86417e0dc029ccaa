/-
  What the links of a chain are as versions: plain mathematics.
-/
import Derived.Test.YtpeddaljgmkomaaLkC
import Derived.Test.YtpeddaljgmkomaaPatM
namespace Go.Proofs.Ytpeddaljgmkomaa
open Go.RowKit
set_option linter.unusedVariables false
structure VerI where
  t : ByteArray
  d : Int
open Classical in
/-- the version that a link makes behind others -/
noncomputable def mkV (V : List VerI) (l : LkI) : Option VerI :=
  if l.b = -1 then (if l.p.length = 0 ∧ l.d.size ≤ 4000 then some ⟨l.d, 0⟩ else none)
  else if 0 ≤ l.b then
    match V[l.b.toNat]? with
    | none => none
    | some o => if l.d = ⟨#[]⟩ ∧ pcR (pcF l.p) l.p.length (o.t.size : Int) ∧ o.d + 1 ≤ 6 then some ⟨patB o.t (pcF l.p) l.p.length, o.d + 1⟩ else none
  else none
/-- the first versions of a chain -/
noncomputable def vF (L : List LkI) : Nat → Option (List VerI)
  | 0 => some []
  | i + 1 => match vF L i, L[i]? with
    | some V, some l => (mkV V l).map fun v => V ++ [v]
    | _, _ => none
noncomputable def vAll (L : List LkI) : Option (List VerI) := if L.length ≤ 30 then vF L L.length else none
theorem vF_succ {L : List LkI} {i : Nat} {V : List VerI} {l : LkI} (h : vF L i = some V) (hl : L[i]? = some l) : vF L (i + 1) = (mkV V l).map fun v => V ++ [v] := by
  show (match vF L i, L[i]? with | some V, some l => (mkV V l).map fun v => V ++ [v] | _, _ => none) = _
  rw [h, hl]
theorem vF_none {L : List LkI} {i j : Nat} (h : vF L i = none) (hj : i ≤ j) : vF L j = none := by
  induction j with
  | zero =>
    obtain rfl : i = 0 := by omega
    exact h
  | succ j ih =>
    by_cases e : i = j + 1
    · subst e; exact h
    · show (match vF L j, L[j]? with | some V, some l => (mkV V l).map fun v => V ++ [v] | _, _ => none) = _
      rw [ih (by omega)]
theorem vF_len {L : List LkI} : ∀ {i : Nat} {V : List VerI}, vF L i = some V → V.length = i
  | 0, V, h => by
    have : (some [] : Option (List VerI)) = some V := h
    injection this with this
    subst this; rfl
  | i + 1, V, h => by
    cases h1 : vF L i with
    | none => rw [vF_none h1 (by omega)] at h; cases h
    | some W =>
      cases h2 : L[i]? with
      | none =>
        exfalso
        have e : vF L (i + 1) = none := by
          show (match vF L i, L[i]? with | some V, some l => (mkV V l).map fun v => V ++ [v] | _, _ => none) = _
          rw [h1, h2]
        rw [e] at h; cases h
      | some l =>
        rw [vF_succ h1 h2] at h
        cases h3 : mkV W l with
        | none => rw [h3] at h; cases h
        | some v =>
          rw [h3] at h
          injection h with h
          subst h
          rw [List.length_append, vF_len h1]; rfl
theorem vAll_long {L : List LkI} (h : ¬ L.length ≤ 30) : vAll L = none := by unfold vAll; rw [if_neg h]
theorem vAll_bad {L : List LkI} {i : Nat} {V : List VerI} {l : LkI} (h : vF L i = some V) (hl : L[i]? = some l) (hm : mkV V l = none) : vAll L = none := by
  unfold vAll
  split
  · have hi := (List.getElem?_eq_some_iff.1 hl).1
    apply vF_none (i := i + 1) _ (by omega)
    rw [vF_succ h hl, hm]; rfl
  · rfl
theorem vAll_good {L : List LkI} {V : List VerI} (h : vF L L.length = some V) (hl : L.length ≤ 30) : vAll L = some V := by unfold vAll; rw [if_pos hl, h]
theorem vAll_some {L : List LkI} {V : List VerI} (h : vAll L = some V) : L.length ≤ 30 ∧ vF L L.length = some V ∧ V.length = L.length := by
  unfold vAll at h
  split at h
  · rename_i hl
    exact ⟨hl, h, vF_len h⟩
  · cases h
/-- what all versions keep to -/
def VerB (V : List VerI) : Prop := ∀ v ∈ V, v.t.size ≤ 4000 ∧ 0 ≤ v.d ∧ v.d ≤ 6
theorem mkV_bd {V : List VerI} {l : LkI} {v : VerI} (hV : VerB V) (h : mkV V l = some v) : v.t.size ≤ 4000 ∧ 0 ≤ v.d ∧ v.d ≤ 6 := by
  unfold mkV at h
  split at h
  · split at h
    · rename_i h1
      injection h with h
      subst h
      exact ⟨h1.2, Int.le_refl _, by show (0 : Int) ≤ 6; decide⟩
    · cases h
  · split at h
    · split at h
      · cases h
      · rename_i o ho
        split at h
        · rename_i h1
          injection h with h
          subst h
          have h2 := patB_size h1.2.1.2.2.2.1
          have h3 := h1.2.1.2.2.2.2
          have h4 := hV o (List.mem_of_getElem? ho)
          exact ⟨by show (patB _ _ _).size ≤ 4000; omega, by show 0 ≤ o.d + 1; omega, h1.2.2⟩
        · cases h
    · cases h
theorem vF_bd {L : List LkI} : ∀ {i : Nat} {V : List VerI}, vF L i = some V → VerB V
  | 0, V, h => by
    have : (some [] : Option (List VerI)) = some V := h
    injection this with this
    subst this
    exact fun v hv => by cases hv
  | i + 1, V, h => by
    cases h1 : vF L i with
    | none => rw [vF_none h1 (by omega)] at h; cases h
    | some W =>
      cases h2 : L[i]? with
      | none =>
        exfalso
        have e : vF L (i + 1) = none := by
          show (match vF L i, L[i]? with | some V, some l => (mkV V l).map fun v => V ++ [v] | _, _ => none) = _
          rw [h1, h2]
        rw [e] at h; cases h
      | some l =>
        rw [vF_succ h1 h2] at h
        cases h3 : mkV W l with
        | none => rw [h3] at h; cases h
        | some v =>
          rw [h3] at h
          injection h with h
          subst h
          intro x hx
          rcases List.mem_append.1 hx with hx | hx
          · exact vF_bd h1 x hx
          · have e : x = v := by simpa using hx
            subst e
            exact mkV_bd (vF_bd h1) h3
theorem mkV_base {V : List VerI} {l : LkI} (h : l.b = -1) (h1 : l.p.length = 0) (h2 : l.d.size ≤ 4000) : mkV V l = some ⟨l.d, 0⟩ := by
  unfold mkV; rw [if_pos h, if_pos ⟨h1, h2⟩]
theorem mkV_base_no {V : List VerI} {l : LkI} (h : l.b = -1) (h1 : ¬ (l.p.length = 0 ∧ l.d.size ≤ 4000)) : mkV V l = none := by
  unfold mkV; rw [if_pos h, if_neg h1]
theorem mkV_low {V : List VerI} {l : LkI} (h : l.b ≠ -1) (h1 : ¬ 0 ≤ l.b) : mkV V l = none := by
  unfold mkV; rw [if_neg h, if_neg h1]
theorem mkV_out {V : List VerI} {l : LkI} (h : l.b ≠ -1) (h1 : V[l.b.toNat]? = none) : mkV V l = none := by
  unfold mkV
  rw [if_neg h]
  split
  · rw [h1]
  · rfl
theorem mkV_on {V : List VerI} {l : LkI} {o : VerI} (h : 0 ≤ l.b) (h1 : V[l.b.toNat]? = some o) (h2 : l.d = ⟨#[]⟩) (h3 : pcR (pcF l.p) l.p.length (o.t.size : Int)) (h4 : o.d + 1 ≤ 6) : mkV V l = some ⟨patB o.t (pcF l.p) l.p.length, o.d + 1⟩ := by
  unfold mkV
  rw [if_neg (by omega), if_pos h, h1]
  exact if_pos ⟨h2, h3, h4⟩
theorem mkV_on_no {V : List VerI} {l : LkI} {o : VerI} (h : 0 ≤ l.b) (h1 : V[l.b.toNat]? = some o) (h2 : ¬ (l.d = ⟨#[]⟩ ∧ pcR (pcF l.p) l.p.length (o.t.size : Int) ∧ o.d + 1 ≤ 6)) : mkV V l = none := by
  unfold mkV
  rw [if_neg (by omega), if_pos h, h1]
  exact if_neg h2
theorem vF_take {L : List LkI} : ∀ {j : Nat} {V : List VerI}, vF L j = some V → ∀ i, i ≤ j → vF L i = some (V.take i)
  | 0, V, h, i, hi => by
    obtain rfl : i = 0 := by omega
    rfl
  | j + 1, V, h, i, hi => by
    by_cases e : i = j + 1
    · subst e
      rw [List.take_of_length_le (by rw [vF_len h]; exact Nat.le_refl _)]; exact h
    · cases h1 : vF L j with
      | none => rw [vF_none h1 (by omega)] at h; cases h
      | some W =>
        cases h2 : L[j]? with
        | none =>
          exfalso
          have e : vF L (j + 1) = none := by
            show (match vF L j, L[j]? with | some V, some l => (mkV V l).map fun v => V ++ [v] | _, _ => none) = _
            rw [h1, h2]
          rw [e] at h; cases h
        | some l =>
          rw [vF_succ h1 h2] at h
          cases h3 : mkV W l with
          | none => rw [h3] at h; cases h
          | some v =>
            rw [h3] at h
            injection h with h
            subst h
            rw [vF_take h1 i (by omega), List.take_append_of_le_length (by rw [vF_len h1]; omega)]
theorem vF_mk {L : List LkI} {j i : Nat} {V : List VerI} {l : LkI} (h : vF L j = some V) (hi : i < j) (hl : L[i]? = some l) : ∃ v, V[i]? = some v ∧ mkV (V.take i) l = some v := by
  have h1 := vF_take h i (by omega)
  have h2 := vF_take h (i + 1) (by omega)
  rw [vF_succ h1 hl] at h2
  cases h3 : mkV (V.take i) l with
  | none => rw [h3] at h2; cases h2
  | some v =>
    rw [h3] at h2
    have h2 : V.take i ++ [v] = V.take (i + 1) := Option.some.inj h2
    refine ⟨v, ?_, rfl⟩
    have hv : (V.take (i + 1))[i]? = some v := by
      rw [← h2, List.getElem?_append_right (by simp; omega)]
      have : (V.take i).length = i := by rw [List.length_take, vF_len h]; omega
      rw [this]; simp
    rw [List.getElem?_take_of_lt (by omega)] at hv
    exact hv
/-- how deep a version is, by its base -/
theorem vF_deep {L : List LkI} {j i : Nat} {V : List VerI} {l : LkI} (h : vF L j = some V) (hi : i < j) (hl : L[i]? = some l) : ∃ v, V[i]? = some v ∧ ((l.b = -1 ∧ v.d = 0) ∨ (0 ≤ l.b ∧ l.b.toNat < i ∧ ∃ o, V[l.b.toNat]? = some o ∧ v.d = o.d + 1)) := by
  obtain ⟨v, hv, hm⟩ := vF_mk h hi hl
  refine ⟨v, hv, ?_⟩
  unfold mkV at hm
  split at hm
  · rename_i hb
    split at hm
    · injection hm with hm
      subst hm
      exact Or.inl ⟨hb, rfl⟩
    · cases hm
  · split at hm
    · rename_i h0
      split at hm
      · cases hm
      · rename_i o ho
        split at hm
        · injection hm with hm
          subst hm
          have hlt := (List.getElem?_eq_some_iff.1 ho).1
          have hlt2 : l.b.toNat < i := by rw [List.length_take] at hlt; omega
          rw [List.getElem?_take_of_lt hlt2] at ho
          exact Or.inr ⟨h0, hlt2, o, ho, rfl⟩
        · cases hm
    · cases hm
end Go.Proofs.Ytpeddaljgmkomaa
