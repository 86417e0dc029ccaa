/-
  Pieces are read back from their text; what is read has just its text: plain mathematics.
-/
import Derived.Test.YtadimakdjndcdaeRdLC
import Derived.Test.YtadimakdjndcdaeTextBack
import Derived.Test.YtadimakdjndcdaeDtM
namespace Go.Proofs.Ytadimakdjndcdae
open Go.RowKit
set_option linter.unusedVariables false
set_option linter.unusedSimpArgs false
theorem numI_put (n : Nat) (hn : n ≤ 1000000000000) (r : ByteArray) : numI (putB n ++ r) = some (n, r) := by
  have h := num_put n (by omega) r
  have h2 := numI_some h (by omega)
  rw [Int.toNat_natCast] at h2
  have e : (⟨(put n).toArray⟩ : ByteArray) = putB n := rfl
  rw [e] at h2
  rw [h2]
  have h3 := ext_tail2 (put n) r
  rw [e] at h3
  rw [h3]
theorem numI_back {s r : ByteArray} {n : Nat} (h : numI s = some (n, r)) : putB n ++ r = s := by
  unfold numI at h
  cases hn : num s with
  | none => rw [hn] at h; cases h
  | some p =>
    obtain ⟨X, u⟩ := p
    rw [hn] at h
    simp only at h
    split at h
    · simp only [Option.some.injEq, Prod.mk.injEq] at h
      obtain ⟨m, rfl, hm, hb⟩ := num_back hn
      obtain ⟨h1, h2⟩ := h
      rw [Int.toNat_natCast] at h1
      subst h1 h2
      exact hb
    · cases h
theorem datI_put (s r : ByteArray) (h : s.size ≤ 100000) : datI (putTextOut s ++ r) = some (s, r) := by
  have h1 := text_put s r h
  rw [datI_out] at h1
  cases hd : datI (putTextOut s ++ r) with
  | none => rw [hd] at h1; simp at h1
  | some p =>
    obtain ⟨d, q⟩ := p
    rw [hd] at h1
    simp at h1
    rw [h1.1, h1.2]
theorem datI_back {s d r : ByteArray} (h : datI s = some (d, r)) : putTextOut d ++ r = s ∧ d.size ≤ 100000 := by
  unfold datI at h
  cases ht : txt s with
  | none => rw [ht] at h; cases h
  | some p =>
    obtain ⟨n, u⟩ := p
    rw [ht] at h
    simp only [Option.some.injEq, Prod.mk.injEq] at h
    obtain ⟨h1, h2, h3⟩ := text_back ht
    obtain ⟨rfl, rfl⟩ := h
    exact ⟨h1, by rw [ByteArray.size_extract]; omega⟩
theorem ba_assoc (a b c : ByteArray) : (a ++ b) ++ c = a ++ (b ++ c) := app_assoc a b c
theorem ba_nil (a : ByteArray) : a ++ (⟨#[]⟩ : ByteArray) = a := by
  apply bytes_ext
  rw [app_data]; simp
theorem ba_nil0 (a : ByteArray) : (⟨#[]⟩ : ByteArray) ++ a = a := by
  apply bytes_ext
  rw [app_data]; simp
/-- the text of one piece -/
noncomputable def pieB (p : PcI) : ByteArray := open Classical in if p.d = ⟨#[]⟩ then (putTextOut ⟨#[]⟩ ++ putB p.f.toNat) ++ putB p.l.toNat else putTextOut p.d
theorem pieB_no {p : PcI} (h : p.d = ⟨#[]⟩) : pieB p = (putTextOut ⟨#[]⟩ ++ putB p.f.toNat) ++ putB p.l.toNat := by unfold pieB; rw [if_pos h]
theorem pieB_yes {p : PcI} (h : p.d ≠ ⟨#[]⟩) : pieB p = putTextOut p.d := by unfold pieB; rw [if_neg h]
theorem pieI_put (p : PcI) (r : ByteArray) (h : pcP p 4000) (hd : p.d.size ≤ 100000) : pieI (pieB p ++ r) = some (p, r) := by
  rcases h with ⟨h, h1, h2, h3, h4⟩ | ⟨h, h1, h2⟩
  · rw [pieB_no h, ba_assoc, ba_assoc]
    have e1 := datI_put ⟨#[]⟩ (putB p.f.toNat ++ (putB p.l.toNat ++ r)) (by show 0 ≤ _; omega)
    have e2 := numI_put p.f.toNat (by omega) (putB p.l.toNat ++ r)
    have e3 := numI_put p.l.toNat (by omega) r
    rw [pieI_yes e1 e2 e3, Int.toNat_of_nonneg h3, Int.toNat_of_nonneg (by omega), ← h]
  · rw [pieB_yes h, pieI_dat (datI_put p.d r hd) h, ← h1]
    obtain ⟨f, l, d⟩ := p
    simp only at h1 h2
    subst h1 h2
    rfl
theorem pieI_back {s r : ByteArray} {p : PcI} (h : pieI s = some (p, r)) : pieB p ++ r = s := by
  cases hd : datI s with
  | none => rw [pieI_bad hd] at h; cases h
  | some q =>
    obtain ⟨d, r0⟩ := q
    obtain ⟨b1, _⟩ := datI_back hd
    by_cases he : d = ⟨#[]⟩
    · subst he
      cases h1 : numI r0 with
      | none => rw [pieI_no1 hd h1] at h; cases h
      | some q1 =>
        obtain ⟨f, r1⟩ := q1
        cases h2 : numI r1 with
        | none => rw [pieI_no2 hd h1 h2] at h; cases h
        | some q2 =>
          obtain ⟨l, r2⟩ := q2
          rw [pieI_yes hd h1 h2] at h
          simp only [Option.some.injEq, Prod.mk.injEq] at h
          obtain ⟨rfl, rfl⟩ := h
          rw [pieB_no rfl]
          simp only [Int.toNat_natCast]
          rw [ba_assoc, ba_assoc, numI_back h2, numI_back h1, b1]
    · rw [pieI_dat hd he] at h
      simp only [Option.some.injEq, Prod.mk.injEq] at h
      obtain ⟨rfl, rfl⟩ := h
      rw [pieB_yes he]
      exact b1
/-- the texts of the first pieces -/
noncomputable def dtC (F : Nat → PcI) : Nat → ByteArray
  | 0 => ⟨#[]⟩
  | i + 1 => dtC F i ++ pieB (F i)
theorem dtB_dtC (F : Nat → PcI) (n i : Nat) : dtB F n i = putB n ++ dtC F i := by
  induction i with
  | zero => exact (ba_nil _).symm
  | succ i ih =>
    show _ = putB n ++ (dtC F i ++ pieB (F i))
    by_cases h : (F i).d = ⟨#[]⟩
    · rw [dtB_no h, ih, pieB_no h]; simp only [ba_assoc]
    · rw [dtB_yes h, ih, pieB_yes h, ba_assoc]
theorem dtC_congr {F G : Nat → PcI} {n : Nat} (h : ∀ i, i < n → F i = G i) : dtC F n = dtC G n := by
  induction n with
  | zero => rfl
  | succ n ih =>
    show dtC F n ++ pieB (F n) = dtC G n ++ pieB (G n)
    rw [ih (fun i hi => h i (by omega)), h n (by omega)]
theorem pcF_snoc_lt (L : List PcI) (p : PcI) {i : Nat} (h : i < L.length) : pcF (L ++ [p]) i = pcF L i := by
  unfold pcF
  rw [List.getD_eq_getElem?_getD, List.getD_eq_getElem?_getD, List.getElem?_append_left h]
theorem pcF_snoc_eq (L : List PcI) (p : PcI) : pcF (L ++ [p]) L.length = p := by
  unfold pcF
  rw [List.getD_eq_getElem?_getD, List.getElem?_append_right (Nat.le_refl _)]; simp
theorem piesI_put (F : Nat → PcI) (n : Nat) (hp : ∀ i, i < n → pcP (F i) 4000) (hd : ∀ i, i < n → (F i).d.size ≤ 100000) (r : ByteArray) : piesI (dtC F n ++ r) n = some ((List.range n).map F, r) := by
  induction n generalizing r with
  | zero => show some ([], _) = _; rw [show dtC F 0 ++ r = r from ba_nil0 r]; rfl
  | succ n ih =>
    have h1 := ih (fun i hi => hp i (by omega)) (fun i hi => hd i (by omega)) (pieB (F n) ++ r)
    have e : dtC F (n + 1) ++ r = dtC F n ++ (pieB (F n) ++ r) := ba_assoc _ _ _
    rw [e, piesI_go h1 (pieI_put _ r (hp n (by omega)) (hd n (by omega))), List.range_succ, List.map_append]
    rfl
theorem piesI_back {s r : ByteArray} {n : Nat} {L : List PcI} (h : piesI s n = some (L, r)) : dtC (pcF L) n ++ r = s := by
  induction n generalizing L r with
  | zero =>
    simp only [piesI, Option.some.injEq, Prod.mk.injEq] at h
    obtain ⟨rfl, rfl⟩ := h
    exact ba_nil0 _
  | succ n ih =>
    cases h1 : piesI s n with
    | none => have := piesI_none h1 1; rw [this] at h; cases h
    | some q =>
      obtain ⟨L0, r0⟩ := q
      have b := ih h1
      have bl := (piesI_bd h1).1
      cases h2 : pieI r0 with
      | none => rw [piesI_stop h1 h2] at h; cases h
      | some q2 =>
        obtain ⟨p, r1⟩ := q2
        rw [piesI_go h1 h2] at h
        simp only [Option.some.injEq, Prod.mk.injEq] at h
        obtain ⟨rfl, rfl⟩ := h
        show (dtC _ n ++ pieB (pcF (L0 ++ [p]) n)) ++ r1 = s
        rw [ba_assoc, dtC_congr (G := pcF L0) (fun i hi => pcF_snoc_lt L0 p (by omega)), ← bl, pcF_snoc_eq, pieI_back h2, bl, b]
theorem pcF_map (L : List PcI) : (List.range L.length).map (pcF L) = L := by
  apply List.ext_getElem
  · simp
  · intro i h1 h2
    simp [pcF, h2]
theorem pcSum_one {F : Nat → PcI} {old : Int} {i n : Nat} (h : i < n) (hg : ∀ j, j < n → pcP (F j) old) : pcSz (F i) ≤ pcSum F n := by
  have h1 := pcSum_mono (i := i + 1) (n := n) h hg
  have h2 : 0 ≤ pcSum F i := by
    have := pcSum_mono (F := F) (i := 0) (n := i) (Nat.zero_le _) (fun j hj => hg j (by omega))
    exact this
  have h3 : pcSum F (i + 1) = pcSum F i + pcSz (F i) := rfl
  omega
theorem pcR_data {F : Nat → PcI} {n : Nat} {old : Int} (h : pcR F n old) {i : Nat} (hi : i < n) : (F i).d.size ≤ 4000 := by
  by_cases e : (F i).d = ⟨#[]⟩
  · rw [e]; show 0 ≤ _; omega
  · have h1 := pcSum_one hi h.2.2.2.1
    rw [pcSz_yes e] at h1
    have := h.2.2.2.2
    omega
theorem rdD_put (L : List PcI) (h : pcR (pcF L) L.length 4000) : rdD (dtB (pcF L) L.length L.length) = some L := by
  have h1 := numI_put L.length (by have := h.2.2.1; omega) (dtC (pcF L) L.length)
  rw [← dtB_dtC] at h1
  have h2 := piesI_put (pcF L) L.length h.2.2.2.1 (fun i hi => by have := pcR_data h hi; omega) ⟨#[]⟩
  rw [ba_nil, pcF_map] at h2
  exact rdD_yes h1 h.2.2.1 h2 h
theorem rdD_back {s : ByteArray} {L : List PcI} (h : rdD s = some L) : pcR (pcF L) L.length 4000 ∧ dtB (pcF L) L.length L.length = s := by
  unfold rdD at h
  cases hn : numI s with
  | none => rw [hn] at h; cases h
  | some p =>
    obtain ⟨n, r⟩ := p
    rw [hn] at h
    simp only at h
    split at h
    · cases h2 : piesI r n with
      | none => rw [h2] at h; cases h
      | some q =>
        obtain ⟨L0, r'⟩ := q
        rw [h2] at h
        simp only at h
        split at h
        · rename_i hc
          injection h with h
          subst h
          obtain ⟨rfl, hc⟩ := hc
          have bl := (piesI_bd h2).1
          have b := piesI_back h2
          rw [ba_nil] at b
          rw [bl, dtB_dtC, b]
          exact ⟨hc, numI_back hn⟩
        · cases h
    · cases h
theorem rdD_none0 : rdD ⟨#[]⟩ = none := rdD_no1 rfl
end Go.Proofs.Ytadimakdjndcdae
