/-
  Several texts of this seat as one: LkC, PatM, VeM.
-/
import Derived.Test.YtpeddaljgmkomaaPk08
import Derived.Test.YtpeddaljgmkomaaPk06

/-!   How much a list of links holds: the law's own measure. -/
namespace Go.Proofs.Ytpeddaljgmkomaa
open Go.RowKit
set_option linter.unusedVariables false
set_option linter.unusedSimpArgs false
def pcN (p : List PcI) : Nat := p.length + pcTot (pcF p) p.length
def lkW (x : LkI) : Nat := x.d.size + pcN x.p
def lkN (L : List LkI) : Nat := L.length + (L.map lkW).sum
/-- no text and no list that is longer than there may be -/
structure PcZ (p : List PcI) : Prop where
  len : p.length ≤ maxLen
  d : ∀ i, i < p.length → (pcF p i).d.size ≤ maxLen
structure LkZ (x : LkI) : Prop where
  b : (Lit.int .i64 x.b).wf = true
  d : x.d.size ≤ maxLen
  p : PcZ x.p
theorem szPc_deep (v : Value) (p : List PcI) (L : Nat) (w : World) (hL : L ≤ 1048576) (hz : PcZ p) (h : Rd w (pcsD p) v) :
    Calls Try.prog 67 #[v, .int .i64 (L : Int)] w fun e w' => e = .returned (szV L (pcN p)) ∧ Below w.heap.size w w' :=
  szPcS_any v p.length L (pcF p) w hL hz.len hz.d (pcs_rd h)
set_option maxRecDepth 100000 in
set_option maxHeartbeats 1000000 in
theorem szLk_one (x : LkI) (pv : Value) (L : Nat) (w : World) (hL : L ≤ 1048576) (hz : LkZ x) (h : Rd w (pcsD x.p) pv) :
    Calls Try.prog 37 #[.agg #[.int .i64 x.b, .string x.d, pv], .int .i64 (L : Int)] w fun e w' => e = .returned (szV L (lkW x)) ∧ Below w.heap.size w w' := by
  obtain ⟨b, d, p⟩ := x
  obtain ⟨_, hd, hp⟩ := hz
  simp only at hd hp h ⊢
  have hd' : d.size ≤ 9223372036854775807 := hd
  obtain ⟨a, n, c, rfl, _⟩ := h.slice
  have HZ : Hid (∀ (L : Nat) w', L ≤ 1048576 → Below w.heap.size w w' → Calls Try.prog 67 #[.slice a n c, .int .i64 (L : Int)] w' fun e w2 => e = .returned (szV L (pcN p)) ∧ Below w'.heap.size w' w2) := fun L w' h1 hb => szPc_deep _ p L w' h1 hp (h.under hb)
  have HB1 : Hid (Below w.heap.size w (w.alloc (.cells #[.int .i64 b, .string d, .slice a n c] 48))) := (Below.refl _ _).alloc (Nat.le_refl _) _
  clear h hp
  by_cases h1 : d.size ≤ L
  · have hw : IntKind.i64.wrap ((L : Int) - (d.size : Int)) = ((L - d.size : Nat) : Int) := by rw [IntKind.wrap_i64]; omega
    have hl : ¬ ((L - d.size : Nat) : Int) < 0 := by omega
    obtain ⟨M, hM⟩ : ∃ M, M = L - d.size := ⟨_, rfl⟩
    rw [← hM] at hw hl
    have HM := dhid hM
    have hML : M ≤ 1048576 := by omega
    clear hM
    go_enter Try.func37, Try.ntmps37
    go_wp2_with fail
    refine (HZ.out M _ hML HB1.out).mono ?_
    rintro e w3 ⟨rfl, hb3⟩
    have HB3 := dhid (dblow HB1.out hb3 HB1.out.size)
    clear hb3 HB1
    by_cases h2 : pcN p ≤ M
    · have e1 : szV M (pcN p) = .int .i64 ((M - pcN p : Nat) : Int) := by unfold szV; rw [if_pos h2]
      rw [e1]
      have hl2 : ¬ ((M - pcN p : Nat) : Int) < 0 := by omega
      have HR : Hid (szV L (lkW ⟨b, d, p⟩) = .int .i64 ((M - pcN p : Nat) : Int)) := by
        have := HM.out
        unfold szV lkW
        simp only
        rw [if_pos (by omega), show L - (d.size + pcN p) = M - pcN p by omega]
        exact rfl
      generalize M - pcN p = Z at hl2 HR
      clear e1 h2
      go_wp2_with fail
      go_ret
      exact ⟨by rw [HR.out]; rfl, HB3.out⟩
    · have e1 : szV M (pcN p) = .int .i64 (-1) := by unfold szV; rw [if_neg h2]
      rw [e1]
      have HR : Hid (szV L (lkW ⟨b, d, p⟩) = .int .i64 (-1)) := by
        have := HM.out
        unfold szV lkW
        simp only
        rw [if_neg (by omega)]
        exact rfl
      clear e1 h2
      go_wp2_with fail
      go_ret
      exact ⟨by rw [HR.out]; rfl, HB3.out⟩
  · have hw : IntKind.i64.wrap ((L : Int) - (d.size : Int)) = (L : Int) - (d.size : Int) := by rw [IntKind.wrap_i64]; omega
    have hl : (L : Int) - (d.size : Int) < 0 := by omega
    have HR : Hid (szV L (lkW ⟨b, d, p⟩) = .int .i64 (-1)) := by
      unfold szV lkW
      simp only
      rw [if_neg (by omega)]
      exact rfl
    clear h1 HZ
    go_enter Try.func37, Try.ntmps37
    go_wp2_with fail
    go_ret
    exact ⟨by rw [HR.out]; rfl, HB1.out⟩
set_option maxRecDepth 100000 in
set_option maxHeartbeats 1000000 in
theorem szLkS_some (g off c n M : Nat) (L : List LkI) (hLn : n = L.length) (w : World) (hM : M ≤ 1048576) (hn : n ≤ M) (hz : ∀ x ∈ L, LkZ x) (hg : g < w.heap.size)
    (h0 : ∀ i x, L[i]? = some x → ∃ pv, w.cell? ⟨g, off + i * 3, none⟩ = some (.int .i64 x.b) ∧ w.cell? ⟨g, off + i * 3 + 1, none⟩ = some (.string x.d) ∧ w.cell? ⟨g, off + i * 3 + 2, none⟩ = some pv ∧ Rd w (pcsD x.p) pv) :
    Calls Try.prog 13 #[.slice (some ⟨g, off, none⟩) n c, .int .i64 (M : Int)] w fun e w' => e = .returned (szV M (lkN L)) ∧ Below w.heap.size w w' := by
  have HZ : Hid (∀ (x : LkI) (pv : Value) (L : Nat) w, L ≤ 1048576 → LkZ x → Rd w (pcsD x.p) pv → Calls Try.prog 37 #[.agg #[.int .i64 x.b, .string x.d, pv], .int .i64 (L : Int)] w fun e w' => e = .returned (szV L (lkW x)) ∧ Below w.heap.size w w') := fun x pv L w h1 h2 h3 => szLk_one x pv L w h1 h2 h3
  have HC : Hid (n = L.length ∧ (∀ x ∈ L, LkZ x) ∧ ∀ i x, L[i]? = some x → ∃ pv, w.cell? ⟨g, off + i * 3, none⟩ = some (.int .i64 x.b) ∧ w.cell? ⟨g, off + i * 3 + 1, none⟩ = some (.string x.d) ∧ w.cell? ⟨g, off + i * 3 + 2, none⟩ = some pv ∧ Rd w (pcsD x.p) pv) := ⟨hLn, hz, h0⟩
  have hw : IntKind.i64.wrap ((M : Int) - (n : Int)) = ((M - n : Nat) : Int) := by rw [IntKind.wrap_i64]; omega
  have hl : ¬ ((M - n : Nat) : Int) < 0 := by omega
  clear h0 hz hLn
  go_enter Try.func13, Try.ntmps13
  go_wp2_with fail
  go_loopw [1, 5] (fun u v wr => ∃ (i : Nat), i ≤ n ∧ v = .int .i64 (i : Int) ∧ u = .int .i64 ((M - n - ((L.take i).map lkW).sum : Nat) : Int) ∧ n + ((L.take i).map lkW).sum ≤ M ∧ Hid (Below w.heap.size w wr)) (fun _ v _ => n - (intN v).toNat)
  case atStart => exact ⟨0, by omega, rfl, rfl, by show n + 0 ≤ M; omega, Below.refl _ _⟩
  case round =>
    obtain ⟨i, hi, rfl, rfl, hle, HB⟩ := hrel
    by_cases hlt : i < n
    · have hltI : (i : Int) < (n : Int) := by omega
      have hx := List.getElem?_eq_getElem (l := L) (i := i) (by have := HC.out.1; omega)
      have hzx := HC.out.2.1 _ (List.mem_of_getElem? hx)
      obtain ⟨pv, x0, x1, x2, hrd⟩ := HC.out.2.2 i _ hx
      generalize L[i]'_ = x at hx hzx x0 x1 x2 hrd
      rw [← HB.out.cell (p := ⟨g, off + i * 3, none⟩) hg] at x0
      rw [← HB.out.cell (p := ⟨g, off + i * 3 + 1, none⟩) hg] at x1
      rw [← HB.out.cell (p := ⟨g, off + i * 3 + 2, none⟩) hg] at x2
      obtain ⟨a1, n1, c1, rfl, _⟩ := hrd.slice
      have HSS : Hid (((L.take (i + 1)).map lkW).sum = ((L.take i).map lkW).sum + lkW x) := sum_take lkW hx
      have HMN : Hid (((L.take (i + 1)).map lkW).sum ≤ (L.map lkW).sum) := sum_take_le lkW L (i + 1)
      obtain ⟨R, hR⟩ : ∃ R, R = M - n - ((L.take i).map lkW).sum := ⟨_, rfl⟩
      rw [← hR]
      have HR : Hid (R = M - n - ((L.take i).map lkW).sum ∧ n + ((L.take i).map lkW).sum ≤ M) := ⟨hR, hle⟩
      have hRL : R ≤ 1048576 := by omega
      have HTT : Hid (Calls Try.prog 37 #[.agg #[.int .i64 x.b, .string x.d, .slice a1 n1 c1], .int .i64 (R : Int)] wr fun e w' => e = .returned (szV R (lkW x)) ∧ Below wr.heap.size wr w') := HZ.out x _ R wr hRL hzx (hrd.under HB.out)
      clear hR hle hx hzx hrd
      go_wp2_with fail
      refine HTT.out.mono ?_
      rintro e w3 ⟨rfl, hb3⟩
      have HB3 : Hid (Below w.heap.size w w3) := dblow HB.out hb3 HB.out.size
      clear hb3 x0 x1 x2 HB HTT
      by_cases hq : lkW x ≤ R
      · have e1 : szV R (lkW x) = .int .i64 ((R - lkW x : Nat) : Int) := by unfold szV; rw [if_pos hq]
        rw [e1]
        have hnn : ¬ ((R - lkW x : Nat) : Int) < 0 := by omega
        have HQ : Hid (lkW x ≤ R) := hq
        obtain ⟨R2, hR2⟩ : ∃ R2, R2 = R - lkW x := ⟨_, rfl⟩
        rw [← hR2] at hnn ⊢
        have HR2 : Hid (R2 = R - lkW x) := hR2
        clear hR2 hq e1
        go_wp2_with fail
        go_roundw
        case rel => exact ⟨i + 1, by omega, by go_num, by rw [HSS.out, HR2.out, HR.out.1, Nat.sub_sub (M - n)], by have := HR.out; have := HQ.out; rw [HSS.out]; omega, HB3⟩
        case measure => simp [intN]; omega
      · have e1 : szV R (lkW x) = .int .i64 (-1) := by unfold szV; rw [if_neg hq]
        rw [e1]
        have HQ : Hid (¬ lkW x ≤ R) := hq
        clear hq e1
        go_wp2_with fail
        go_ret
        have h1 := HQ.out
        have h2 := HR.out
        have h3 := HMN.out
        have h4 := HSS.out
        have h5 := HC.out.1
        refine ⟨?_, HB3.out⟩
        unfold szV lkN
        rw [if_neg (by omega)]
        rfl
    · obtain rfl : i = n := by omega
      go_wp2_with fail
      go_ret
      refine ⟨?_, HB.out⟩
      have h5 := HC.out.1
      unfold szV lkN
      rw [List.take_of_length_le (by omega)] at hle ⊢
      rw [if_pos (by omega), Nat.sub_sub, h5]
      rfl
set_option maxRecDepth 100000 in
theorem szLkS_no (a : Option Addr) (n c L : Nat) (w : World) (hL : L ≤ 1048576) (hn : L < n) (hm : n ≤ maxLen) :
    Calls Try.prog 13 #[.slice a n c, .int .i64 (L : Int)] w fun e w' => e = .returned (.int .i64 (-1)) ∧ w' = w := by
  have hm' : n ≤ 9223372036854775807 := hm
  have hw : IntKind.i64.wrap ((L : Int) - (n : Int)) = (L : Int) - (n : Int) := by rw [IntKind.wrap_i64]; omega
  have hl : (L : Int) - (n : Int) < 0 := by omega
  go_enter Try.func13, Try.ntmps13
  go_wp2_with fail
  go_ret
  exact ⟨rfl, rfl⟩
set_option maxRecDepth 100000 in
theorem szLkS_zero (a : Option Addr) (c L : Nat) (w : World) (hL : L ≤ 1048576) :
    Calls Try.prog 13 #[.slice a 0 c, .int .i64 (L : Int)] w fun e w' => e = .returned (.int .i64 (L : Int)) ∧ w' = w := by
  have hw : IntKind.i64.wrap (L : Int) = (L : Int) := by rw [IntKind.wrap_i64]; omega
  have hl : ¬ (L : Int) < 0 := by omega
  go_enter Try.func13, Try.ntmps13
  go_wp2_with fail
  refine wp_loop_rounds 1 ?_
  rw [rounds_succ]
  go_wp2_with fail
  go_ret
  exact ⟨rfl, rfl⟩
theorem szLkS_deep (v : Value) (L : List LkI) (M : Nat) (w : World) (hM : M ≤ 1048576) (hm : L.length ≤ maxLen) (hz : ∀ x ∈ L, LkZ x) (h : Rd w (lksD L) v) :
    Calls Try.prog 13 #[v, .int .i64 (M : Int)] w fun e w' => e = .returned (szV M (lkN L)) ∧ Below w.heap.size w w' := by
  obtain ⟨a, c, rfl, hr⟩ := lks_rd h
  by_cases hn : L.length ≤ M
  · by_cases h0 : 0 < L.length
    · obtain ⟨g, off, rfl, hg, hx⟩ := hr h0
      exact szLkS_some g off c L.length M L rfl w hM hn hz hg hx
    · have e0 : L = [] := List.length_eq_zero_iff.1 (by omega)
      subst e0
      refine (szLkS_zero a c M w hM).mono ?_
      rintro e w' ⟨rfl, rfl⟩
      exact ⟨by unfold szV lkN; rw [if_pos (by simp)]; simp, Below.refl _ _⟩
  · refine (szLkS_no a L.length c M w hM (by omega) hm).mono ?_
    rintro e w' ⟨rfl, rfl⟩
    exact ⟨by unfold szV lkN; rw [if_neg (by omega)], Below.refl _ _⟩
end Go.Proofs.Ytpeddaljgmkomaa

/-!   What pieces make, as a text. -/
namespace Go.Proofs.Ytpeddaljgmkomaa
open Go.RowKit
set_option linter.unusedVariables false
noncomputable def pcTx (old : ByteArray) (p : PcI) : ByteArray := open Classical in if p.d = ⟨#[]⟩ then old.extract p.f.toNat (p.f + p.l).toNat else p.d
theorem pcTx_no {old : ByteArray} {p : PcI} (h : p.d = ⟨#[]⟩) : pcTx old p = old.extract p.f.toNat (p.f + p.l).toNat := by unfold pcTx; rw [if_pos h]
theorem pcTx_yes {old : ByteArray} {p : PcI} (h : p.d ≠ ⟨#[]⟩) : pcTx old p = p.d := by unfold pcTx; rw [if_neg h]
noncomputable def patB (old : ByteArray) (F : Nat → PcI) : Nat → ByteArray
  | 0 => ⟨#[]⟩
  | i + 1 => patB old F i ++ pcTx old (F i)
theorem pcTx_size {old : ByteArray} {p : PcI} (h : pcP p (old.size : Int)) : ((pcTx old p).size : Int) = pcSz p := by
  rcases h with ⟨h, h1, h2, h3, h4⟩ | ⟨h, h1, h2⟩
  · rw [pcTx_no h, pcSz_no h, ByteArray.size_extract]; omega
  · rw [pcTx_yes h, pcSz_yes h]
theorem patB_size {old : ByteArray} {F : Nat → PcI} {n : Nat} (h : ∀ i, i < n → pcP (F i) (old.size : Int)) : ((patB old F n).size : Int) = pcSum F n := by
  induction n with
  | zero => rfl
  | succ n ih =>
    show ((patB old F n ++ pcTx old (F n)).size : Int) = pcSum F n + pcSz (F n)
    rw [ByteArray.size_append, ← ih fun i hi => h i (by omega), ← pcTx_size (h n (by omega))]; omega
theorem patB_le {old : ByteArray} {F : Nat → PcI} {i n : Nat} (h : pcR F n (old.size : Int)) (hi : i ≤ n) : (patB old F i).size ≤ 4000 := by
  have h1 := patB_size (old := old) (n := i) fun j hj => h.2.2.2.1 j (by omega)
  have h2 := pcSum_mono hi h.2.2.2.1
  have h3 := h.2.2.2.2
  omega
noncomputable def patV (old : ByteArray) (F : Nat → PcI) (n : Nat) : ByteArray := if pcB F n (old.size : Int) then patB old F n else ⟨#[]⟩
end Go.Proofs.Ytpeddaljgmkomaa

/-!   What the links of a chain are as versions: plain mathematics. -/
namespace Go.Proofs.Ytpeddaljgmkomaa
open Go.RowKit
set_option linter.unusedVariables false
structure VerI where
  t : ByteArray
  d : Int
open Classical in
/-- the version that a link makes behind others -/
noncomputable def mkV (V : List VerI) (l : LkI) : Option VerI :=
  if l.b = -1 then (if l.p.length = 0 ∧ l.d.size ≤ 4000 then some ⟨l.d, 0⟩ else none)
  else if 0 ≤ l.b then
    match V[l.b.toNat]? with
    | none => none
    | some o => if l.d = ⟨#[]⟩ ∧ pcR (pcF l.p) l.p.length (o.t.size : Int) ∧ o.d + 1 ≤ 6 then some ⟨patB o.t (pcF l.p) l.p.length, o.d + 1⟩ else none
  else none
/-- the first versions of a chain -/
noncomputable def vF (L : List LkI) : Nat → Option (List VerI)
  | 0 => some []
  | i + 1 => match vF L i, L[i]? with
    | some V, some l => (mkV V l).map fun v => V ++ [v]
    | _, _ => none
noncomputable def vAll (L : List LkI) : Option (List VerI) := if L.length ≤ 30 then vF L L.length else none
theorem vF_succ {L : List LkI} {i : Nat} {V : List VerI} {l : LkI} (h : vF L i = some V) (hl : L[i]? = some l) : vF L (i + 1) = (mkV V l).map fun v => V ++ [v] := by
  show (match vF L i, L[i]? with | some V, some l => (mkV V l).map fun v => V ++ [v] | _, _ => none) = _
  rw [h, hl]
theorem vF_none {L : List LkI} {i j : Nat} (h : vF L i = none) (hj : i ≤ j) : vF L j = none := by
  induction j with
  | zero =>
    obtain rfl : i = 0 := by omega
    exact h
  | succ j ih =>
    by_cases e : i = j + 1
    · subst e; exact h
    · show (match vF L j, L[j]? with | some V, some l => (mkV V l).map fun v => V ++ [v] | _, _ => none) = _
      rw [ih (by omega)]
theorem vF_len {L : List LkI} : ∀ {i : Nat} {V : List VerI}, vF L i = some V → V.length = i
  | 0, V, h => by
    have : (some [] : Option (List VerI)) = some V := h
    injection this with this
    subst this; rfl
  | i + 1, V, h => by
    cases h1 : vF L i with
    | none => rw [vF_none h1 (by omega)] at h; cases h
    | some W =>
      cases h2 : L[i]? with
      | none =>
        exfalso
        have e : vF L (i + 1) = none := by
          show (match vF L i, L[i]? with | some V, some l => (mkV V l).map fun v => V ++ [v] | _, _ => none) = _
          rw [h1, h2]
        rw [e] at h; cases h
      | some l =>
        rw [vF_succ h1 h2] at h
        cases h3 : mkV W l with
        | none => rw [h3] at h; cases h
        | some v =>
          rw [h3] at h
          injection h with h
          subst h
          rw [List.length_append, vF_len h1]; rfl
theorem vAll_long {L : List LkI} (h : ¬ L.length ≤ 30) : vAll L = none := by unfold vAll; rw [if_neg h]
theorem vAll_bad {L : List LkI} {i : Nat} {V : List VerI} {l : LkI} (h : vF L i = some V) (hl : L[i]? = some l) (hm : mkV V l = none) : vAll L = none := by
  unfold vAll
  split
  · have hi := (List.getElem?_eq_some_iff.1 hl).1
    apply vF_none (i := i + 1) _ (by omega)
    rw [vF_succ h hl, hm]; rfl
  · rfl
theorem vAll_good {L : List LkI} {V : List VerI} (h : vF L L.length = some V) (hl : L.length ≤ 30) : vAll L = some V := by unfold vAll; rw [if_pos hl, h]
theorem vAll_some {L : List LkI} {V : List VerI} (h : vAll L = some V) : L.length ≤ 30 ∧ vF L L.length = some V ∧ V.length = L.length := by
  unfold vAll at h
  split at h
  · rename_i hl
    exact ⟨hl, h, vF_len h⟩
  · cases h
/-- what all versions keep to -/
def VerB (V : List VerI) : Prop := ∀ v ∈ V, v.t.size ≤ 4000 ∧ 0 ≤ v.d ∧ v.d ≤ 6
theorem mkV_bd {V : List VerI} {l : LkI} {v : VerI} (hV : VerB V) (h : mkV V l = some v) : v.t.size ≤ 4000 ∧ 0 ≤ v.d ∧ v.d ≤ 6 := by
  unfold mkV at h
  split at h
  · split at h
    · rename_i h1
      injection h with h
      subst h
      exact ⟨h1.2, Int.le_refl _, by show (0 : Int) ≤ 6; decide⟩
    · cases h
  · split at h
    · split at h
      · cases h
      · rename_i o ho
        split at h
        · rename_i h1
          injection h with h
          subst h
          have h2 := patB_size h1.2.1.2.2.2.1
          have h3 := h1.2.1.2.2.2.2
          have h4 := hV o (List.mem_of_getElem? ho)
          exact ⟨by show (patB _ _ _).size ≤ 4000; omega, by show 0 ≤ o.d + 1; omega, h1.2.2⟩
        · cases h
    · cases h
theorem vF_bd {L : List LkI} : ∀ {i : Nat} {V : List VerI}, vF L i = some V → VerB V
  | 0, V, h => by
    have : (some [] : Option (List VerI)) = some V := h
    injection this with this
    subst this
    exact fun v hv => by cases hv
  | i + 1, V, h => by
    cases h1 : vF L i with
    | none => rw [vF_none h1 (by omega)] at h; cases h
    | some W =>
      cases h2 : L[i]? with
      | none =>
        exfalso
        have e : vF L (i + 1) = none := by
          show (match vF L i, L[i]? with | some V, some l => (mkV V l).map fun v => V ++ [v] | _, _ => none) = _
          rw [h1, h2]
        rw [e] at h; cases h
      | some l =>
        rw [vF_succ h1 h2] at h
        cases h3 : mkV W l with
        | none => rw [h3] at h; cases h
        | some v =>
          rw [h3] at h
          injection h with h
          subst h
          intro x hx
          rcases List.mem_append.1 hx with hx | hx
          · exact vF_bd h1 x hx
          · have e : x = v := by simpa using hx
            subst e
            exact mkV_bd (vF_bd h1) h3
theorem mkV_base {V : List VerI} {l : LkI} (h : l.b = -1) (h1 : l.p.length = 0) (h2 : l.d.size ≤ 4000) : mkV V l = some ⟨l.d, 0⟩ := by
  unfold mkV; rw [if_pos h, if_pos ⟨h1, h2⟩]
theorem mkV_base_no {V : List VerI} {l : LkI} (h : l.b = -1) (h1 : ¬ (l.p.length = 0 ∧ l.d.size ≤ 4000)) : mkV V l = none := by
  unfold mkV; rw [if_pos h, if_neg h1]
theorem mkV_low {V : List VerI} {l : LkI} (h : l.b ≠ -1) (h1 : ¬ 0 ≤ l.b) : mkV V l = none := by
  unfold mkV; rw [if_neg h, if_neg h1]
theorem mkV_out {V : List VerI} {l : LkI} (h : l.b ≠ -1) (h1 : V[l.b.toNat]? = none) : mkV V l = none := by
  unfold mkV
  rw [if_neg h]
  split
  · rw [h1]
  · rfl
theorem mkV_on {V : List VerI} {l : LkI} {o : VerI} (h : 0 ≤ l.b) (h1 : V[l.b.toNat]? = some o) (h2 : l.d = ⟨#[]⟩) (h3 : pcR (pcF l.p) l.p.length (o.t.size : Int)) (h4 : o.d + 1 ≤ 6) : mkV V l = some ⟨patB o.t (pcF l.p) l.p.length, o.d + 1⟩ := by
  unfold mkV
  rw [if_neg (by omega), if_pos h, h1]
  exact if_pos ⟨h2, h3, h4⟩
theorem mkV_on_no {V : List VerI} {l : LkI} {o : VerI} (h : 0 ≤ l.b) (h1 : V[l.b.toNat]? = some o) (h2 : ¬ (l.d = ⟨#[]⟩ ∧ pcR (pcF l.p) l.p.length (o.t.size : Int) ∧ o.d + 1 ≤ 6)) : mkV V l = none := by
  unfold mkV
  rw [if_neg (by omega), if_pos h, h1]
  exact if_neg h2
theorem vF_take {L : List LkI} : ∀ {j : Nat} {V : List VerI}, vF L j = some V → ∀ i, i ≤ j → vF L i = some (V.take i)
  | 0, V, h, i, hi => by
    obtain rfl : i = 0 := by omega
    rfl
  | j + 1, V, h, i, hi => by
    by_cases e : i = j + 1
    · subst e
      rw [List.take_of_length_le (by rw [vF_len h]; exact Nat.le_refl _)]; exact h
    · cases h1 : vF L j with
      | none => rw [vF_none h1 (by omega)] at h; cases h
      | some W =>
        cases h2 : L[j]? with
        | none =>
          exfalso
          have e : vF L (j + 1) = none := by
            show (match vF L j, L[j]? with | some V, some l => (mkV V l).map fun v => V ++ [v] | _, _ => none) = _
            rw [h1, h2]
          rw [e] at h; cases h
        | some l =>
          rw [vF_succ h1 h2] at h
          cases h3 : mkV W l with
          | none => rw [h3] at h; cases h
          | some v =>
            rw [h3] at h
            injection h with h
            subst h
            rw [vF_take h1 i (by omega), List.take_append_of_le_length (by rw [vF_len h1]; omega)]
theorem vF_mk {L : List LkI} {j i : Nat} {V : List VerI} {l : LkI} (h : vF L j = some V) (hi : i < j) (hl : L[i]? = some l) : ∃ v, V[i]? = some v ∧ mkV (V.take i) l = some v := by
  have h1 := vF_take h i (by omega)
  have h2 := vF_take h (i + 1) (by omega)
  rw [vF_succ h1 hl] at h2
  cases h3 : mkV (V.take i) l with
  | none => rw [h3] at h2; cases h2
  | some v =>
    rw [h3] at h2
    have h2 : V.take i ++ [v] = V.take (i + 1) := Option.some.inj h2
    refine ⟨v, ?_, rfl⟩
    have hv : (V.take (i + 1))[i]? = some v := by
      rw [← h2, List.getElem?_append_right (by simp; omega)]
      have : (V.take i).length = i := by rw [List.length_take, vF_len h]; omega
      rw [this]; simp
    rw [List.getElem?_take_of_lt (by omega)] at hv
    exact hv
/-- how deep a version is, by its base -/
theorem vF_deep {L : List LkI} {j i : Nat} {V : List VerI} {l : LkI} (h : vF L j = some V) (hi : i < j) (hl : L[i]? = some l) : ∃ v, V[i]? = some v ∧ ((l.b = -1 ∧ v.d = 0) ∨ (0 ≤ l.b ∧ l.b.toNat < i ∧ ∃ o, V[l.b.toNat]? = some o ∧ v.d = o.d + 1)) := by
  obtain ⟨v, hv, hm⟩ := vF_mk h hi hl
  refine ⟨v, hv, ?_⟩
  unfold mkV at hm
  split at hm
  · rename_i hb
    split at hm
    · injection hm with hm
      subst hm
      exact Or.inl ⟨hb, rfl⟩
    · cases hm
  · split at hm
    · rename_i h0
      split at hm
      · cases hm
      · rename_i o ho
        split at hm
        · injection hm with hm
          subst hm
          have hlt := (List.getElem?_eq_some_iff.1 ho).1
          have hlt2 : l.b.toNat < i := by rw [List.length_take] at hlt; omega
          rw [List.getElem?_take_of_lt hlt2] at ho
          exact Or.inr ⟨h0, hlt2, o, ho, rfl⟩
        · cases hm
    · cases hm
end Go.Proofs.Ytpeddaljgmkomaa
