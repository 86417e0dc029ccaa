/-
  A link made to skip its base: what is told of the chain.
-/
import Derived.Test.YtpeddaljgmkomaaPk31
import Derived.Test.YtpeddaljgmkomaaPk23
import Derived.Test.YtpeddaljgmkomaaComM
namespace Go.Proofs.Ytpeddaljgmkomaa
open Go.RowKit
set_option linter.unusedVariables false
set_option linter.unusedSimpArgs false
open Classical in
theorem mkV_old {V : List VerI} {l : LkI} {v : VerI} (h : mkV V l = some v) (h0 : 0 ≤ l.b) : ∃ o, V[l.b.toNat]? = some o ∧ v = ⟨patB o.t (pcF l.p) l.p.length, o.d + 1⟩ ∧ l.d = ⟨#[]⟩ ∧ pcR (pcF l.p) l.p.length (o.t.size : Int) ∧ o.d + 1 ≤ 6 := by
  unfold mkV at h
  rw [if_neg (by omega), if_pos h0] at h
  cases ho : V[l.b.toNat]? with
  | none => rw [ho] at h; cases h
  | some o =>
    rw [ho] at h
    have h : (if l.d = ⟨#[]⟩ ∧ pcR (pcF l.p) l.p.length (o.t.size : Int) ∧ o.d + 1 ≤ 6 then some (⟨patB o.t (pcF l.p) l.p.length, o.d + 1⟩ : VerI) else none) = some v := h
    split at h
    · rename_i hc
      injection h with h
      exact ⟨o, rfl, h.symm, hc.1, hc.2.1, hc.2.2⟩
    · cases h
open Classical in
theorem mkV_new {V : List VerI} {l : LkI} {o : VerI} (h0 : 0 ≤ l.b) (ho : V[l.b.toNat]? = some o) (hd : l.d = ⟨#[]⟩) (hp : pcR (pcF l.p) l.p.length (o.t.size : Int)) (h6 : o.d + 1 ≤ 6) : mkV V l = some ⟨patB o.t (pcF l.p) l.p.length, o.d + 1⟩ := by
  unfold mkV
  rw [if_neg (by omega), if_pos h0, ho]
  exact if_pos ⟨hd, hp, h6⟩
theorem VS.takes {k : Nat} {V V' : List VerI} (h : VS k V V') : VS k (V.take k) (V'.take k) := by
  intro i o hi
  rw [List.getElem?_take] at hi
  split at hi
  · rename_i hlt
    obtain ⟨o', h1, h2⟩ := h i o hi
    exact ⟨o', by rw [List.getElem?_take, if_pos hlt]; exact h1, h2⟩
  · cases hi
theorem take_at {V : List VerI} {k i : Nat} {o : VerI} (h : (V.take k)[i]? = some o) : V[i]? = some o := by
  rw [List.getElem?_take] at h
  split at h
  · exact h
  · cases h
theorem sk_good {L M : List LkI} {k : Int} (hl : LkLe L) (h : skR L k = some M) : M.length = L.length ∧ LkLe M ∧ depI M k = depI L k - 1 ∧ Same L M := by
  cases hv : verOf L k with
  | none => rw [skR_none hv] at h; cases h
  | some y =>
    obtain ⟨V, hA, hk0, hkl, hy⟩ := verOf_in hv
    obtain ⟨m, hm⟩ : ∃ m, m = k.toNat := ⟨_, rfl⟩
    rw [← hm] at hkl hy
    obtain rfl : (m : Int) = k := by omega
    by_cases hd : y.d < 2
    · rw [skR_low hv hd] at h; cases h
    · have hl1 := List.getElem?_eq_getElem hkl
      obtain ⟨l, hle⟩ : ∃ l, l = L[m] := ⟨_, rfl⟩
      rw [← hle] at hl1
      obtain ⟨j, b, hlb, hjm, hb, hb0⟩ : ∃ (j : Nat) (b : LkI), l.b = (j : Int) ∧ j < m ∧ L[j]? = some b ∧ 0 ≤ b.b := by
        rcases sk_case hA hkl hl1 hy with ⟨_, c⟩ | ⟨j, b, h1, h2, h3, ⟨_, c⟩ | ⟨h4, _⟩⟩
        · exact absurd c hd
        · exact absurd c hd
        · exact ⟨j, b, h1, h2, h3, h4⟩
      rw [skR_at hv hd hl1 hlb hb] at h
      cases hp : skP l b with
      | none => rw [hp] at h; cases h
      | some P =>
        rw [hp] at h
        have h : some (L.set m ⟨b.b, ⟨#[]⟩, P⟩) = some M := h
        injection h with h
        unfold skP at hp
        by_cases hc : cmP (pcF b.p) b.p.length (pcF l.p) l.p.length
        · rw [cmR_yes hc] at hp
          injection hp with hp
          obtain ⟨_, hVF, hVl⟩ := vAll_some hA
          obtain ⟨y2, hy2, hmk⟩ := vF_mk hVF hkl hl1
          rw [hy] at hy2
          injection hy2 with hy2
          subst hy2
          obtain ⟨oj, hoj, hye, _, hpl, h6⟩ := mkV_old hmk (by omega)
          have hlj : l.b.toNat = j := by omega
          rw [hlj] at hoj
          obtain ⟨oj2, hoj2, hmkj⟩ := vF_mk hVF (show j < L.length by omega) hb
          rw [take_at hoj] at hoj2
          injection hoj2 with hoj2
          subst hoj2
          obtain ⟨o, ho, hoje, _, hpb, h6j⟩ := mkV_old hmkj hb0
          obtain ⟨ob, hob, hbd⟩ : ∃ v, V[j]? = some v ∧ ((b.b = -1 ∧ v.d = 0) ∨ (0 ≤ b.b ∧ b.b.toNat < j ∧ ∃ o, V[b.b.toNat]? = some o ∧ v.d = o.d + 1)) := vF_deep hVF (show j < L.length by omega) hb
          have hbj : b.b.toNat < j := by
            rcases hbd with ⟨c, _⟩ | ⟨_, c, _⟩
            · omega
            · exact c
          have hok := com_ok (old := o.t) hpb hc.1.2 hc.2
          have htx := com_tx (old := o.t) hpb hc.1.2
          have hojt : oj.t = patB o.t (pcF b.p) b.p.length := by rw [hoje]
          have hojd : oj.d = o.d + 1 := by rw [hoje]
          have hyt : y.t = patB oj.t (pcF l.p) l.p.length := by rw [hye]
          have hyd : y.d = oj.d + 1 := by rw [hye]
          have hx : ∀ U', VS m (V.take m) U' → mkV U' ⟨b.b, ⟨#[]⟩, P⟩ = some ⟨y.t, y.d - 1⟩ := fun U' hs => by
            have hom : (V.take m)[b.b.toNat]? = some o := by
              rw [List.getElem?_take, if_pos (by omega)]
              exact take_at ho
            obtain ⟨o', ho', _, _, he⟩ := hs _ _ hom
            have e := he (by omega)
            subst e
            have h9 := mkV_new (l := ⟨b.b, ⟨#[]⟩, P⟩) hb0 ho' rfl (by rw [← hp]; exact hok) h6j
            rw [h9]
            congr 1
            have e1 : patB o'.t (pcF P) P.length = y.t := by rw [← hp, htx, hyt, hojt]
            have e2 : o'.d + 1 = y.d - 1 := by omega
            show (⟨patB o'.t (pcF P) P.length, o'.d + 1⟩ : VerI) = _
            rw [e1, e2]
          obtain ⟨V', h1, h2⟩ := vs_set (x := ⟨b.b, ⟨#[]⟩, P⟩) hA hkl fun U' _ hs z hz => by
            rw [hy] at hz
            injection hz with hz
            subst hz
            exact ⟨_, hx U' hs, rfl, by show y.d - 1 ≤ y.d; omega⟩
          obtain ⟨_, hVF', _⟩ := vAll_some h1
          obtain ⟨v, hv1, hv2⟩ := vF_mk hVF' (show m < (L.set m ⟨b.b, ⟨#[]⟩, P⟩).length by rw [List.length_set]; exact hkl) (List.getElem?_set_self hkl)
          rw [hx _ h2.takes] at hv2
          injection hv2 with hv2
          subst hv2
          subst h
          have hbo := hl.one b (List.mem_of_getElem? hb)
          refine ⟨by simp, hl.set (show (⟨#[]⟩ : ByteArray).size ≤ 1048576 by decide) hbo.2.1 (pcLe_of (by show pcR (pcF P) P.length (o.t.size : Int); rw [← hp]; exact hok)), ?_, h2.same hA h1⟩
          rw [depI_yes hv, depI_yes (by rw [verOf_nat h1]; exact hv1)]
        · rw [cmR_no hc] at hp; cases hp
theorem depI_bd (L : List LkI) (k : Int) : -1 ≤ depI L k ∧ depI L k ≤ 6 := by
  cases hv : verOf L k with
  | none => unfold depI; rw [hv]; decide
  | some y =>
    obtain ⟨V, hA, _, _, hy⟩ := verOf_in hv
    have hb := (vF_bd (vAll_some hA).2.1 y (List.mem_of_getElem? hy)).2
    rw [depI_yes hv]
    omega
end Go.Proofs.Ytpeddaljgmkomaa
