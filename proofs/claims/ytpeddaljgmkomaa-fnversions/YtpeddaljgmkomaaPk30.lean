/-
  Several texts of this seat as one: SkM, VsM, SvC.
-/
import Derived.Test.YtpeddaljgmkomaaPk17
import Derived.Test.YtpeddaljgmkomaaPk10
import Derived.WalkArith
import Derived.Test.YtpeddaljgmkomaaPk14

/-!   A link made to skip its base: what is told. -/
namespace Go.Proofs.Ytpeddaljgmkomaa
open Go.RowKit
set_option linter.unusedVariables false
set_option linter.unusedSimpArgs false
noncomputable def skP (l b : LkI) : Option (List PcI) := cmR (pcF b.p) b.p.length (pcF l.p) l.p.length
noncomputable def skR (L : List LkI) (k : Int) : Option (List LkI) :=
  (verOf L k).bind fun y => if y.d < 2 then none else
    (L[k.toNat]?).bind fun l => (L[l.b.toNat]?).bind fun b => (skP l b).map fun P => L.set k.toNat ⟨b.b, ⟨#[]⟩, P⟩
theorem skR_none {L : List LkI} {k : Int} (h : verOf L k = none) : skR L k = none := by unfold skR; rw [h]; rfl
theorem skR_low {L : List LkI} {k : Int} {y : VerI} (h : verOf L k = some y) (hd : y.d < 2) : skR L k = none := by unfold skR; rw [h]; exact if_pos hd
theorem skR_at {L : List LkI} {m j : Nat} {y : VerI} {l b : LkI} (h : verOf L (m : Int) = some y) (hd : ¬ y.d < 2) (hl : L[m]? = some l) (hj : l.b = (j : Int)) (hb : L[j]? = some b) : skR L (m : Int) = (skP l b).map fun P => L.set m ⟨b.b, ⟨#[]⟩, P⟩ := by
  unfold skR
  rw [h]
  show (if y.d < 2 then none else _) = _
  rw [if_neg hd]
  simp only [Int.toNat_natCast]
  rw [hl]
  show (L[l.b.toNat]?).bind _ = _
  rw [hj]
  simp only [Int.toNat_natCast]
  rw [hb]
  rfl
theorem sk_case {L : List LkI} {V : List VerI} {m : Nat} {l : LkI} {y : VerI} (hA : vAll L = some V) (hm : m < L.length) (hl : L[m]? = some l) (hy : V[m]? = some y) :
    (l.b = -1 ∧ y.d < 2) ∨ ∃ (j : Nat) (b : LkI), l.b = (j : Int) ∧ j < m ∧ L[j]? = some b ∧ ((b.b = -1 ∧ y.d < 2) ∨ (0 ≤ b.b ∧ ¬ y.d < 2)) := by
  have hVF := (vAll_some hA).2.1
  obtain ⟨v, hv, hc⟩ := vF_deep hVF hm hl
  rw [hy] at hv
  injection hv with hv
  subst hv
  rcases hc with ⟨h1, h2⟩ | ⟨h1, h2, o, ho, h3⟩
  · exact Or.inl ⟨h1, by omega⟩
  · have hj : l.b.toNat < L.length := by omega
    have hb := List.getElem?_eq_getElem hj
    refine Or.inr ⟨l.b.toNat, L[l.b.toNat], by omega, h2, hb, ?_⟩
    obtain ⟨v2, hv2, hc2⟩ := vF_deep hVF hj hb
    rw [ho] at hv2
    injection hv2 with hv2
    subst hv2
    rcases hc2 with ⟨g1, g2⟩ | ⟨g1, g2, o2, ho2, g3⟩
    · exact Or.inl ⟨g1, by omega⟩
    · have := (vF_bd hVF o2 (List.mem_of_getElem? ho2)).2.1
      exact Or.inr ⟨g1, by omega⟩
theorem skR_form {L M : List LkI} {k : Int} (h : skR L k = some M) : ∃ V n x, vAll L = some V ∧ M = L.set n x ∧ x.p.length ≤ 500 := by
  unfold skR at h
  cases hv : verOf L k with
  | none => rw [hv] at h; cases h
  | some y =>
    rw [hv] at h
    obtain ⟨V, hA, _⟩ := verOf_in hv
    have h : (if y.d < 2 then none else (L[k.toNat]?).bind fun l => (L[l.b.toNat]?).bind fun b => (skP l b).map fun P => L.set k.toNat ⟨b.b, ⟨#[]⟩, P⟩) = some M := h
    split at h
    · cases h
    · cases hl : L[k.toNat]? with
      | none => rw [hl] at h; cases h
      | some l =>
        rw [hl] at h
        have h : ((L[l.b.toNat]?).bind fun b => (skP l b).map fun P => L.set k.toNat ⟨b.b, ⟨#[]⟩, P⟩) = some M := h
        cases hb : L[l.b.toNat]? with
        | none => rw [hb] at h; cases h
        | some b =>
          rw [hb] at h
          have h : ((skP l b).map fun P => L.set k.toNat ⟨b.b, ⟨#[]⟩, P⟩) = some M := h
          cases hp : skP l b with
          | none => rw [hp] at h; cases h
          | some P =>
            rw [hp] at h
            have h : some (L.set k.toNat ⟨b.b, ⟨#[]⟩, P⟩) = some M := h
            injection h with h
            refine ⟨V, k.toNat, ⟨b.b, ⟨#[]⟩, P⟩, hA, h.symm, ?_⟩
            show P.length ≤ 500
            unfold skP at hp
            by_cases hc : cmP (pcF b.p) b.p.length (pcF l.p) l.p.length
            · rw [cmR_yes hc] at hp
              injection hp with hp
              subst hp
              exact hc.2
            · rw [cmR_no hc] at hp
              cases hp
theorem sk_bd {L : List LkI} {k : Int} (hl : LkLe L) : ((skR L k).getD []).length ≤ 1048576 ∧ (∀ x ∈ (skR L k).getD [], x.p.length ≤ 1048576) ∧ 1 + lkMN ((skR L k).getD []) ≤ 4000000 := by
  cases hR : skR L k with
  | none => exact bd_none
  | some M =>
    obtain ⟨V, n, x, hA, rfl, hx⟩ := skR_form hR
    exact bd_set hl hA _ _ hx
end Go.Proofs.Ytpeddaljgmkomaa

/-!   Two chains whose versions are told alike. -/
namespace Go.Proofs.Ytpeddaljgmkomaa
open Go.RowKit
set_option linter.unusedVariables false
set_option linter.unusedSimpArgs false
/-- told alike, none deeper, those ahead of k the same -/
def VS (k : Nat) (V V' : List VerI) : Prop := ∀ i o, V[i]? = some o → ∃ o', V'[i]? = some o' ∧ o'.t = o.t ∧ o'.d ≤ o.d ∧ (i < k → o' = o)
open Classical in
theorem mkV_same {k : Nat} {U U' : List VerI} {l : LkI} {v : VerI} (h : mkV U l = some v) (hs : VS k U U') : ∃ v', mkV U' l = some v' ∧ v'.t = v.t ∧ v'.d ≤ v.d ∧ (l.b < (k : Int) → v' = v) := by
  by_cases h1 : l.b = -1
  · refine ⟨v, ?_, rfl, Int.le_refl _, fun _ => rfl⟩
    unfold mkV at h ⊢
    rw [if_pos h1] at h ⊢
    exact h
  · by_cases h2 : 0 ≤ l.b
    · unfold mkV at h ⊢
      rw [if_neg h1, if_pos h2] at h ⊢
      cases ho : U[l.b.toNat]? with
      | none => rw [ho] at h; cases h
      | some o =>
        rw [ho] at h
        obtain ⟨o', ho', ht, hd, he⟩ := hs _ _ ho
        have h : (if l.d = ⟨#[]⟩ ∧ pcR (pcF l.p) l.p.length (o.t.size : Int) ∧ o.d + 1 ≤ 6 then some (⟨patB o.t (pcF l.p) l.p.length, o.d + 1⟩ : VerI) else none) = some v := h
        split at h
        · rename_i hc
          injection h with h
          subst h
          rw [ho']
          refine ⟨⟨patB o'.t (pcF l.p) l.p.length, o'.d + 1⟩, ?_, ?_, ?_, fun hlt => ?_⟩
          · show (if l.d = ⟨#[]⟩ ∧ pcR (pcF l.p) l.p.length (o'.t.size : Int) ∧ o'.d + 1 ≤ 6 then some (⟨patB o'.t (pcF l.p) l.p.length, o'.d + 1⟩ : VerI) else none) = _
            rw [if_pos ⟨hc.1, by rw [ht]; exact hc.2.1, by omega⟩]
          · show patB o'.t _ _ = patB o.t _ _
            rw [ht]
          · show o'.d + 1 ≤ o.d + 1
            omega
          · rw [he (by omega)]
        · cases h
    · unfold mkV at h
      rw [if_neg h1, if_neg h2] at h
      cases h
theorem VS.take {k : Nat} {V V' : List VerI} {i : Nat} (h : VS k (V.take i) V') : ∀ j o, j < i → V[j]? = some o → ∃ o', V'[j]? = some o' ∧ o'.t = o.t ∧ o'.d ≤ o.d ∧ (j < k → o' = o) := fun j o hj ho => h j o (by rw [List.getElem?_take]; rw [if_pos hj]; exact ho)
theorem vs_go {L M : List LkI} {V : List VerI} {k : Nat} (hA : vAll L = some V) (hl : L.length ≤ M.length) (hk : k < L.length) (hsame : ∀ i l, i < L.length → i ≠ k → L[i]? = some l → M[i]? = some l)
    (hat : ∀ U', U'.length = k → VS k (V.take k) U' → ∀ y, V[k]? = some y → ∃ m v', M[k]? = some m ∧ mkV U' m = some v' ∧ v'.t = y.t ∧ v'.d ≤ y.d) :
    ∀ i, i ≤ L.length → ∃ V', vF M i = some V' ∧ V'.length = i ∧ VS k (V.take i) V' := by
  obtain ⟨_, hVF, hVl⟩ := vAll_some hA
  intro i
  induction i with
  | zero => intro _; exact ⟨[], rfl, rfl, fun j o h => by simp at h⟩
  | succ i ih =>
    intro hi
    obtain ⟨U', hU, hUl, hs⟩ := ih (by omega)
    have hiL := List.getElem?_eq_getElem (show i < L.length by omega)
    obtain ⟨v, hv, hm⟩ := vF_mk hVF (show i < L.length by omega) hiL
    obtain ⟨m, v', hM, hmv, ht, hd, he⟩ : ∃ m v', M[i]? = some m ∧ mkV U' m = some v' ∧ v'.t = v.t ∧ v'.d ≤ v.d ∧ (i < k → v' = v) := by
      by_cases hik : i = k
      · subst hik
        obtain ⟨m, v', h1, h2, h3, h4⟩ := hat U' hUl hs v hv
        exact ⟨m, v', h1, h2, h3, h4, fun c => absurd c (Nat.lt_irrefl _)⟩
      · obtain ⟨v', h1, h2, h3, h4⟩ := mkV_same hm hs
        refine ⟨_, v', hsame i _ (by omega) hik hiL, h1, h2, h3, fun hlt => h4 ?_⟩
        obtain ⟨v2, hv2, hc⟩ := vF_deep hVF (show i < L.length by omega) hiL
        rcases hc with ⟨c1, _⟩ | ⟨c1, c2, _⟩
        · omega
        · omega
    refine ⟨U' ++ [v'], by rw [vF_succ hU hM, hmv]; rfl, by simp [hUl], fun j o hj => ?_⟩
    rw [List.getElem?_take] at hj
    split at hj
    · rename_i hji
      by_cases hje : j = i
      · subst hje
        rw [hv] at hj
        injection hj with hj
        subst hj
        exact ⟨v', by rw [List.getElem?_append_right (by omega), hUl]; simp, ht, hd, he⟩
      · obtain ⟨o', h1, h2⟩ := hs.take j o (by omega) hj
        exact ⟨o', by rw [List.getElem?_append_left (by omega)]; exact h1, h2⟩
    · cases hj
theorem vs_set {L : List LkI} {V : List VerI} {k : Nat} {x : LkI} (hA : vAll L = some V) (hk : k < L.length) (hat : ∀ U', U'.length = k → VS k (V.take k) U' → ∀ y, V[k]? = some y → ∃ v', mkV U' x = some v' ∧ v'.t = y.t ∧ v'.d ≤ y.d) :
    ∃ V', vAll (L.set k x) = some V' ∧ VS k V V' := by
  have h30 := (vAll_some hA).1
  have hVl := (vAll_some hA).2.2
  obtain ⟨V', h1, h2, h3⟩ := vs_go (M := L.set k x) hA (by simp) hk (fun i l hi hne hl => by rw [List.getElem?_set_ne (Ne.symm hne)]; exact hl) (fun U' h1 h2 y hy => by
    obtain ⟨v', h3, h4, h5⟩ := hat U' h1 h2 y hy
    exact ⟨x, v', by rw [List.getElem?_set_self hk], h3, h4, h5⟩) L.length (Nat.le_refl _)
  refine ⟨V', ?_, ?_⟩
  · unfold vAll
    rw [List.length_set]
    rw [if_pos h30]
    exact h1
  · rw [List.take_of_length_le (by omega)] at h3
    exact h3
/-- a version made whole -/
theorem vs_whole {L : List LkI} {V : List VerI} {k : Nat} {y : VerI} (hA : vAll L = some V) (hk : k < L.length) (hy : V[k]? = some y) : ∃ V', vAll (L.set k ⟨-1, y.t, []⟩) = some V' ∧ VS k V V' ∧ V'[k]? = some ⟨y.t, 0⟩ := by
  have hb := vF_bd (vAll_some hA).2.1 y (List.mem_of_getElem? hy)
  have hm : ∀ U', mkV U' ⟨-1, y.t, []⟩ = some ⟨y.t, 0⟩ := fun U' => mkV_base rfl rfl hb.1
  obtain ⟨V', h1, h2⟩ := vs_set (x := ⟨-1, y.t, []⟩) hA hk fun U' _ _ z hz => by
    rw [hy] at hz
    injection hz with hz
    subst hz
    exact ⟨_, hm U', rfl, hb.2.1⟩
  refine ⟨V', h1, h2, ?_⟩
  obtain ⟨_, hVF, _⟩ := vAll_some h1
  obtain ⟨v, hv, hv2⟩ := vF_mk hVF (show k < (L.set k ⟨-1, y.t, []⟩).length by rw [List.length_set]; exact hk) (List.getElem?_set_self hk)
  rw [hm] at hv2
  injection hv2 with hv2
  subst hv2
  exact hv
/-- what is told of each number: of both the same text -/
def Same (L M : List LkI) : Prop := ∀ i : Nat, i < L.length → i < M.length → ∃ x y, verOf L (i : Int) = some x ∧ verOf M (i : Int) = some y ∧ x.t = y.t
theorem verOf_nat {L : List LkI} {V : List VerI} (hA : vAll L = some V) (i : Nat) : verOf L (i : Int) = V[i]? := by
  unfold verOf
  rw [hA]
  show (if 0 ≤ (i : Int) then V[(i : Int).toNat]? else none) = _
  rw [if_pos (by omega), Int.toNat_natCast]
theorem VS.same {L M : List LkI} {V V' : List VerI} {k : Nat} (hA : vAll L = some V) (hB : vAll M = some V') (h : VS k V V') : Same L M := by
  intro i hi _
  have hVl := (vAll_some hA).2.2
  have hx := List.getElem?_eq_getElem (show i < V.length by omega)
  obtain ⟨o', h1, h2, _⟩ := h i _ hx
  exact ⟨_, o', by rw [verOf_nat hA]; exact hx, by rw [verOf_nat hB]; exact h1, h2.symm⟩
end Go.Proofs.Ytpeddaljgmkomaa

/-!   The law's own question whether two chains tell the same versions. -/
namespace Go.Proofs.Ytpeddaljgmkomaa
open Go.RowKit
set_option linter.unusedVariables false
set_option linter.unusedSimpArgs false
set_option maxRecDepth 100000 in
set_option maxHeartbeats 1000000 in
theorem sameV_any (va vb : Value) (L M : List LkI) (ba bb : List Nat) (w : World) (hL : LkLe L) (hM : LkLe M) (ha : Hd w (lksD L) va ba) (hb : Hd w (lksD M) vb bb) (hs : Same L M) :
    Calls Try.prog 34 #[va, vb] w fun e w' => e = .returned (.bool true) ∧ Below w.heap.size w w' := by
  obtain ⟨a1, c1, rfl, _⟩ := lks_at ha
  obtain ⟨a2, c2, rfl, _⟩ := lks_at hb
  have HVA : Hid (∀ (k : Nat) w', k ≤ 1048576 → Below w.heap.size w w' → Calls Try.prog 19 #[.slice a1 L.length c1, .int .i64 (k : Int)] w' fun e w2 => e = .returned (.tuple #[.string ((verOf L (k : Int)).getD ver0).t, .bool (verOf L (k : Int)).isSome]) ∧ Below w'.heap.size w' w2) := fun k w' hk h => verAt_any _ L ba (k : Int) w' (Go.WalkArith.wf_i64 (by omega)) hL (ha.under h)
  have HVB : Hid (∀ (k : Nat) w', k ≤ 1048576 → Below w.heap.size w w' → Calls Try.prog 19 #[.slice a2 M.length c2, .int .i64 (k : Int)] w' fun e w2 => e = .returned (.tuple #[.string ((verOf M (k : Int)).getD ver0).t, .bool (verOf M (k : Int)).isSome]) ∧ Below w'.heap.size w' w2) := fun k w' hk h => verAt_any _ M bb (k : Int) w' (Go.WalkArith.wf_i64 (by omega)) hM (hb.under h)
  have HLL := hL.len
  have HML := hM.len
  have HS := dhid hs
  obtain ⟨n, hn⟩ : ∃ n, n = L.length := ⟨_, rfl⟩
  obtain ⟨m, hm⟩ : ∃ m, m = M.length := ⟨_, rfl⟩
  rw [← hn] at HVA HLL ⊢
  rw [← hm] at HVB HML ⊢
  have HX : Hid (n = L.length ∧ m = M.length) := ⟨hn, hm⟩
  clear ha hb hs hL hM hn hm
  go_enter Try.func34, Try.ntmps34
  go_wp2_with fail
  go_loopw [5] (fun v wr => ∃ i : Nat, i ≤ n ∧ i ≤ m ∧ v = .int .i64 (i : Int) ∧ Hid (Below w.heap.size w wr)) (fun v _ => n - (intN v).toNat)
  case atStart => exact ⟨0, by omega, by omega, rfl, Below.refl _ _⟩
  case round =>
    obtain ⟨i, hi, hj, rfl, HB⟩ := hrel
    by_cases hin : i < n
    · by_cases him : i < m
      · have h1 : (i : Int) < (n : Int) := by omega
        have h2 : (i : Int) < (m : Int) := by omega
        obtain ⟨x, y, hx, hy, ht⟩ := HS.out i (by rw [← HX.out.1]; exact hin) (by rw [← HX.out.2]; exact him)
        have HA1 := HVA.out i wr (by omega) HB.out
        rw [hx] at HA1
        have HA2 : Hid (Calls Try.prog 19 #[.slice a1 n c1, .int .i64 (i : Int)] wr fun e w2 => e = .returned (.tuple #[.string x.t, .bool true]) ∧ Below wr.heap.size wr w2) := HA1
        have HC2 : Hid (∀ w', Below w.heap.size w w' → Calls Try.prog 19 #[.slice a2 m c2, .int .i64 (i : Int)] w' fun e w2 => e = .returned (.tuple #[.string x.t, .bool true]) ∧ Below w'.heap.size w' w2) := fun w' hb => by
          have h := HVB.out i w' (by omega) hb
          rw [hy] at h
          have h : Calls Try.prog 19 #[.slice a2 m c2, .int .i64 (i : Int)] w' fun e w2 => e = .returned (.tuple #[.string y.t, .bool true]) ∧ Below w'.heap.size w' w2 := h
          rw [← ht] at h
          exact h
        clear HA1 hx hy ht
        generalize x.t = t at HA2 HC2
        go_wp2_with fail
        refine HA2.out.mono ?_
        rintro e w1 ⟨rfl, hb1⟩
        have HB1 := dhid (dblow HB.out hb1 HB.out.size)
        clear hb1 HA2
        go_wp2_with fail
        refine (HC2.out _ HB1.out).mono ?_
        rintro e w2 ⟨rfl, hb2⟩
        have HB2 := dhid (dblow HB1.out hb2 HB1.out.size)
        clear hb2 HC2 HB1
        go_wp2_with fail
        go_roundw
        case rel => exact ⟨i + 1, by omega, by omega, by go_num, HB2⟩
        case measure => simp [intN]; omega
      · obtain rfl : i = m := by omega
        have h1 : (i : Int) < (n : Int) := by omega
        go_wp2_with fail
        go_ret
        exact ⟨rfl, HB.out⟩
    · obtain rfl : i = n := by omega
      go_wp2_with fail
      go_ret
      exact ⟨rfl, HB.out⟩
end Go.Proofs.Ytpeddaljgmkomaa
