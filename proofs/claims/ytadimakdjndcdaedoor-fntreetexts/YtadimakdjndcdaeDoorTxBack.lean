/-
  A tree is read back from its text; what is read has just its text: plain mathematics.
-/
import Derived.Test.YtadimakdjndcdaeDoorRtM
import Derived.Test.YtadimakdjndcdaeDoorTextBack
import Derived.Test.YtadimakdjndcdaeDoorTxM
namespace Go.Proofs.YtadimakdjndcdaeDoor
open Go.RowKit
set_option linter.unusedVariables false
set_option linter.unusedSimpArgs false
theorem numI_put (n : Nat) (hn : n ≤ 1000000000000) (r : ByteArray) : numI (pnB n ++ r) = some (n, r) := by
  have h := num_put n (by omega) r
  have h2 := numI_some h (by omega)
  rw [Int.toNat_natCast] at h2
  have e : (⟨(put n).toArray⟩ : ByteArray) = pnB n := rfl
  rw [e] at h2
  rw [h2]
  have h3 := ext_tail2 (put n) r
  rw [e] at h3
  rw [h3]
theorem numI_back {s r : ByteArray} {n : Nat} (h : numI s = some (n, r)) : pnB n ++ r = s := by
  unfold numI at h
  cases hn : num s with
  | none => rw [hn] at h; cases h
  | some p =>
    obtain ⟨X, u⟩ := p
    rw [hn] at h
    simp only at h
    split at h
    · simp only [Option.some.injEq, Prod.mk.injEq] at h
      obtain ⟨m, rfl, hm, hb⟩ := num_back hn
      obtain ⟨h1, h2⟩ := h
      rw [Int.toNat_natCast] at h1
      subst h1 h2
      exact hb
    · cases h
theorem datI_put (s r : ByteArray) (h : s.size ≤ 100000) : datI (putTextOut s ++ r) = some (s, r) := by
  have h1 := text_put s r h
  rw [datI_out] at h1
  cases hd : datI (putTextOut s ++ r) with
  | none => rw [hd] at h1; simp at h1
  | some p =>
    obtain ⟨d, q⟩ := p
    rw [hd] at h1
    simp at h1
    rw [h1.1, h1.2]
theorem datI_back {s d r : ByteArray} (h : datI s = some (d, r)) : putTextOut d ++ r = s ∧ d.size ≤ 100000 := by
  unfold datI at h
  cases ht : txt s with
  | none => rw [ht] at h; cases h
  | some p =>
    obtain ⟨n, u⟩ := p
    rw [ht] at h
    simp only [Option.some.injEq, Prod.mk.injEq] at h
    obtain ⟨h1, h2, h3⟩ := text_back ht
    obtain ⟨rfl, rfl⟩ := h
    exact ⟨h1, by rw [ByteArray.size_extract]; omega⟩
theorem ba_assoc (a b c : ByteArray) : (a ++ b) ++ c = a ++ (b ++ c) := app_assoc a b c
theorem ba_nil (a : ByteArray) : a ++ (⟨#[]⟩ : ByteArray) = a := by
  apply bytes_ext
  rw [app_data]; simp
theorem ba_nil0 (a : ByteArray) : (⟨#[]⟩ : ByteArray) ++ a = a := by
  apply bytes_ext
  rw [app_data]; simp
theorem txN_dir {p : NdI} (h : p.r = true) : txN p = putTextOut p.p ++ pnB (2 * p.m.toNat + 1) := by unfold txN; rw [if_pos h]
theorem txN_file {p : NdI} (h : p.r = false) : txN p = (putTextOut p.p ++ pnB (2 * p.m.toNat)) ++ putTextOut p.d := by unfold txN; rw [if_neg (by rw [h]; decide)]
theorem nodI_put (p : NdI) (r : ByteArray) (h : ndOk p) (hp : p.p.size ≤ 100000) : nodI (txN p ++ r) = some (p, r) := by
  obtain ⟨_, ⟨h0, h1⟩, h2, h3⟩ := h
  obtain ⟨a, b, m, d⟩ := p
  simp only at h0 h1 h2 h3 hp
  obtain ⟨k, rfl⟩ : ∃ k : Nat, m = (k : Int) := ⟨m.toNat, by omega⟩
  cases b with
  | true =>
    rw [txN_dir rfl, ba_assoc]
    simp only [Int.toNat_natCast]
    have e1 := datI_put a (pnB (2 * k + 1) ++ r) hp
    have e2 := numI_put (2 * k + 1) (by omega) r
    rw [nodI_dir e1 e2 (by omega), h3 rfl, show (2 * k + 1) / 2 = k by omega]
  | false =>
    rw [txN_file rfl, ba_assoc, ba_assoc]
    simp only [Int.toNat_natCast]
    have e1 := datI_put a (pnB (2 * k) ++ (putTextOut d ++ r)) hp
    have e2 := numI_put (2 * k) (by omega) (putTextOut d ++ r)
    have e3 := datI_put d r (by omega)
    rw [nodI_file e1 e2 (by omega) e3, show (2 * k) / 2 = k by omega]
theorem nodI_back {s r : ByteArray} {p : NdI} (h : nodI s = some (p, r)) : txN p ++ r = s := by
  cases hd : datI s with
  | none => rw [nodI_no1 hd] at h; cases h
  | some q =>
    obtain ⟨a, r0⟩ := q
    obtain ⟨b1, _⟩ := datI_back hd
    cases hn : numI r0 with
    | none => rw [nodI_no2 hd hn] at h; cases h
    | some q1 =>
      obtain ⟨k, r1⟩ := q1
      have b2 := numI_back hn
      by_cases hk : k % 2 = 1
      · rw [nodI_dir hd hn hk] at h
        simp only [Option.some.injEq, Prod.mk.injEq] at h
        obtain ⟨rfl, rfl⟩ := h
        rw [txN_dir rfl]
        simp only [Int.toNat_natCast]
        rw [ba_assoc, show 2 * (k / 2) + 1 = k by omega, b2, b1]
      · cases h2 : datI r1 with
        | none => rw [nodI_no3 hd hn hk h2] at h; cases h
        | some q2 =>
          obtain ⟨d, r2⟩ := q2
          obtain ⟨b3, _⟩ := datI_back h2
          rw [nodI_file hd hn hk h2] at h
          simp only [Option.some.injEq, Prod.mk.injEq] at h
          obtain ⟨rfl, rfl⟩ := h
          rw [txN_file rfl]
          simp only [Int.toNat_natCast]
          rw [ba_assoc, ba_assoc, show 2 * (k / 2) = k by omega, b3, b2, b1]
/-- the texts of the first nodes -/
def txK (F : Nat → NdI) : Nat → ByteArray
  | 0 => ⟨#[]⟩
  | i + 1 => txK F i ++ txN (F i)
theorem txB_txK (F : Nat → NdI) (n i : Nat) : txB F n i = pnB n ++ txK F i := by
  induction i with
  | zero => exact (ba_nil _).symm
  | succ i ih =>
    show _ = pnB n ++ (txK F i ++ txN (F i))
    cases h : (F i).r with
    | true => rw [txB_dir h, ih, txN_dir h]; simp only [ba_assoc]
    | false => rw [txB_file h, ih, txN_file h]; simp only [ba_assoc]
theorem txK_congr {F G : Nat → NdI} {n : Nat} (h : ∀ i, i < n → F i = G i) : txK F n = txK G n := by
  induction n with
  | zero => rfl
  | succ n ih =>
    show txK F n ++ txN (F n) = txK G n ++ txN (G n)
    rw [ih (fun i hi => h i (by omega)), h n (by omega)]
theorem nodsI_put (F : Nat → NdI) (n : Nat) (hp : ∀ i, i < n → ndOk (F i)) (hd : ∀ i, i < n → (F i).p.size ≤ 100000) (r : ByteArray) : nodsI (txK F n ++ r) n = some ((List.range n).map F, r) := by
  induction n generalizing r with
  | zero => show some ([], _) = _; rw [show txK F 0 ++ r = r from ba_nil0 r]; rfl
  | succ n ih =>
    have h1 := ih (fun i hi => hp i (by omega)) (fun i hi => hd i (by omega)) (txN (F n) ++ r)
    have e : txK F (n + 1) ++ r = txK F n ++ (txN (F n) ++ r) := ba_assoc _ _ _
    rw [e, nodsI_go h1 (nodI_put _ r (hp n (by omega)) (hd n (by omega))), List.range_succ, List.map_append]
    rfl
theorem nodsI_back {s r : ByteArray} {n : Nat} {L : List NdI} (h : nodsI s n = some (L, r)) : txK (ndF L) n ++ r = s := by
  induction n generalizing L r with
  | zero =>
    simp only [nodsI, Option.some.injEq, Prod.mk.injEq] at h
    obtain ⟨rfl, rfl⟩ := h
    exact ba_nil0 _
  | succ n ih =>
    cases h1 : nodsI s n with
    | none => have := nodsI_none h1 1; rw [this] at h; cases h
    | some q =>
      obtain ⟨L0, r0⟩ := q
      have b := ih h1
      have bl := (nodsI_bd h1).1
      cases h2 : nodI r0 with
      | none => rw [nodsI_stop h1 h2] at h; cases h
      | some q2 =>
        obtain ⟨p, r1⟩ := q2
        rw [nodsI_go h1 h2] at h
        simp only [Option.some.injEq, Prod.mk.injEq] at h
        obtain ⟨rfl, rfl⟩ := h
        show (txK _ n ++ txN (ndF (L0 ++ [p]) n)) ++ r1 = s
        rw [ba_assoc, txK_congr (G := ndF L0) (fun i hi => ndF_low L0 p (by omega)), ← bl, ndF_new, nodI_back h2, bl, b]
theorem ndF_map (F : Nat → NdI) (n : Nat) {i : Nat} (h : i < n) : ndF ((List.range n).map F) i = F i := by
  simp [ndF, List.getD_eq_getElem?_getD, h]
theorem trV_congr {F G : Nat → NdI} {n : Nat} (h : ∀ i, i < n → F i = G i) (ht : trV F n) : trV G n := fun j hj => by
  obtain ⟨h1, h2, h3⟩ := ht j hj
  refine ⟨by rw [← h j hj]; exact h1, fun h0 => ?_, ?_⟩
  · rw [← h j hj, ← h (j - 1) (by omega)]; exact h2 h0
  · unfold ndUp at h3 ⊢
    rw [← h j hj]
    rcases h3 with h3 | ⟨k, hk, e1, e2⟩
    · exact Or.inl h3
    · exact Or.inr ⟨k, hk, by rw [← h k (by omega)]; exact e1, by rw [← h k (by omega)]; exact e2⟩
theorem ndR_congr {F G : Nat → NdI} {n : Nat} (h : ∀ i, i < n → F i = G i) (ht : ndR F n) : ndR G n := ⟨ht.1, trV_congr h ht.2⟩
theorem rtD_put (F : Nat → NdI) (n : Nat) (h : ndR F n) (hd : ∀ i, i < n → (F i).p.size ≤ 100000) : rtD (txB F n n) = some ((List.range n).map F) := by
  have h1 := numI_put n (by have := h.1; omega) (txK F n)
  rw [← txB_txK] at h1
  have h2 := nodsI_put F n (fun i hi => (h.2 i hi).1) hd ⟨#[]⟩
  rw [ba_nil] at h2
  exact rtD_yes h1 h.1 h2 (ndR_congr (fun i hi => (ndF_map F n hi).symm) h)
theorem rtD_back {s : ByteArray} {L : List NdI} (h : rtD s = some L) : ndR (ndF L) L.length ∧ txB (ndF L) L.length L.length = s := by
  unfold rtD at h
  cases hn : numI s with
  | none => rw [hn] at h; cases h
  | some p =>
    obtain ⟨n, r⟩ := p
    rw [hn] at h
    simp only at h
    split at h
    · cases h2 : nodsI r n with
      | none => rw [h2] at h; cases h
      | some q =>
        obtain ⟨L0, r'⟩ := q
        rw [h2] at h
        simp only at h
        split at h
        · rename_i hc
          injection h with h
          subst h
          obtain ⟨rfl, hc⟩ := hc
          have bl := (nodsI_bd h2).1
          have b := nodsI_back h2
          rw [ba_nil] at b
          rw [bl, txB_txK, b]
          exact ⟨hc, numI_back hn⟩
        · cases h
    · cases h
theorem rtD_none0 : rtD ⟨#[]⟩ = none := rtD_no1 rfl
end Go.Proofs.YtadimakdjndcdaeDoor
