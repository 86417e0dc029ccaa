/-
  A link made to skip its base: what is told.
-/
import Derived.Test.YtpeddaljgmkomaaPk17
import Derived.Test.YtpeddaljgmkomaaPk10
namespace Go.Proofs.Ytpeddaljgmkomaa
open Go.RowKit
set_option linter.unusedVariables false
set_option linter.unusedSimpArgs false
noncomputable def skP (l b : LkI) : Option (List PcI) := cmR (pcF b.p) b.p.length (pcF l.p) l.p.length
noncomputable def skR (L : List LkI) (k : Int) : Option (List LkI) :=
  (verOf L k).bind fun y => if y.d < 2 then none else
    (L[k.toNat]?).bind fun l => (L[l.b.toNat]?).bind fun b => (skP l b).map fun P => L.set k.toNat ⟨b.b, ⟨#[]⟩, P⟩
theorem skR_none {L : List LkI} {k : Int} (h : verOf L k = none) : skR L k = none := by unfold skR; rw [h]; rfl
theorem skR_low {L : List LkI} {k : Int} {y : VerI} (h : verOf L k = some y) (hd : y.d < 2) : skR L k = none := by unfold skR; rw [h]; exact if_pos hd
theorem skR_at {L : List LkI} {m j : Nat} {y : VerI} {l b : LkI} (h : verOf L (m : Int) = some y) (hd : ¬ y.d < 2) (hl : L[m]? = some l) (hj : l.b = (j : Int)) (hb : L[j]? = some b) : skR L (m : Int) = (skP l b).map fun P => L.set m ⟨b.b, ⟨#[]⟩, P⟩ := by
  unfold skR
  rw [h]
  show (if y.d < 2 then none else _) = _
  rw [if_neg hd]
  simp only [Int.toNat_natCast]
  rw [hl]
  show (L[l.b.toNat]?).bind _ = _
  rw [hj]
  simp only [Int.toNat_natCast]
  rw [hb]
  rfl
theorem sk_case {L : List LkI} {V : List VerI} {m : Nat} {l : LkI} {y : VerI} (hA : vAll L = some V) (hm : m < L.length) (hl : L[m]? = some l) (hy : V[m]? = some y) :
    (l.b = -1 ∧ y.d < 2) ∨ ∃ (j : Nat) (b : LkI), l.b = (j : Int) ∧ j < m ∧ L[j]? = some b ∧ ((b.b = -1 ∧ y.d < 2) ∨ (0 ≤ b.b ∧ ¬ y.d < 2)) := by
  have hVF := (vAll_some hA).2.1
  obtain ⟨v, hv, hc⟩ := vF_deep hVF hm hl
  rw [hy] at hv
  injection hv with hv
  subst hv
  rcases hc with ⟨h1, h2⟩ | ⟨h1, h2, o, ho, h3⟩
  · exact Or.inl ⟨h1, by omega⟩
  · have hj : l.b.toNat < L.length := by omega
    have hb := List.getElem?_eq_getElem hj
    refine Or.inr ⟨l.b.toNat, L[l.b.toNat], by omega, h2, hb, ?_⟩
    obtain ⟨v2, hv2, hc2⟩ := vF_deep hVF hj hb
    rw [ho] at hv2
    injection hv2 with hv2
    subst hv2
    rcases hc2 with ⟨g1, g2⟩ | ⟨g1, g2, o2, ho2, g3⟩
    · exact Or.inl ⟨g1, by omega⟩
    · have := (vF_bd hVF o2 (List.mem_of_getElem? ho2)).2.1
      exact Or.inr ⟨g1, by omega⟩
theorem skR_form {L M : List LkI} {k : Int} (h : skR L k = some M) : ∃ V n x, vAll L = some V ∧ M = L.set n x ∧ x.p.length ≤ 500 := by
  unfold skR at h
  cases hv : verOf L k with
  | none => rw [hv] at h; cases h
  | some y =>
    rw [hv] at h
    obtain ⟨V, hA, _⟩ := verOf_in hv
    have h : (if y.d < 2 then none else (L[k.toNat]?).bind fun l => (L[l.b.toNat]?).bind fun b => (skP l b).map fun P => L.set k.toNat ⟨b.b, ⟨#[]⟩, P⟩) = some M := h
    split at h
    · cases h
    · cases hl : L[k.toNat]? with
      | none => rw [hl] at h; cases h
      | some l =>
        rw [hl] at h
        have h : ((L[l.b.toNat]?).bind fun b => (skP l b).map fun P => L.set k.toNat ⟨b.b, ⟨#[]⟩, P⟩) = some M := h
        cases hb : L[l.b.toNat]? with
        | none => rw [hb] at h; cases h
        | some b =>
          rw [hb] at h
          have h : ((skP l b).map fun P => L.set k.toNat ⟨b.b, ⟨#[]⟩, P⟩) = some M := h
          cases hp : skP l b with
          | none => rw [hp] at h; cases h
          | some P =>
            rw [hp] at h
            have h : some (L.set k.toNat ⟨b.b, ⟨#[]⟩, P⟩) = some M := h
            injection h with h
            refine ⟨V, k.toNat, ⟨b.b, ⟨#[]⟩, P⟩, hA, h.symm, ?_⟩
            show P.length ≤ 500
            unfold skP at hp
            by_cases hc : cmP (pcF b.p) b.p.length (pcF l.p) l.p.length
            · rw [cmR_yes hc] at hp
              injection hp with hp
              subst hp
              exact hc.2
            · rw [cmR_no hc] at hp
              cases hp
theorem sk_bd {L : List LkI} {k : Int} (hl : LkLe L) : ((skR L k).getD []).length ≤ 1048576 ∧ (∀ x ∈ (skR L k).getD [], x.p.length ≤ 1048576) ∧ 1 + lkMN ((skR L k).getD []) ≤ 4000000 := by
  cases hR : skR L k with
  | none => exact bd_none
  | some M =>
    obtain ⟨V, n, x, hA, rfl, hx⟩ := skR_form hR
    exact bd_set hl hA _ _ hx
end Go.Proofs.Ytpeddaljgmkomaa
