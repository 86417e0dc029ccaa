/-
  What DeltaOf answers makes the new text of the old one: plain mathematics.
-/
import Derived.Test.YtibciflmalfbjaaDoM
import Derived.Test.YtibciflmalfbjaaPatM
namespace Go.Proofs.Ytibciflmalfbjaa
open Go.RowKit
set_option linter.unusedVariables false
set_option linter.unusedSimpArgs false
theorem ba_bs {x y : ByteArray} (hs : x.size = y.size) (h : ∀ j, j < x.size → bsOf x j = bsOf y j) : x = y := by
  have hx : x.data.toList.length = x.size := by show _ = x.data.size; simp
  have hy : y.data.toList.length = y.size := by show _ = y.data.size; simp
  apply ByteArray.ext
  apply Array.ext'
  apply List.ext_getElem (by omega)
  intro i h1 h2
  have h3 := h i (by omega)
  unfold bsOf at h3
  rw [List.getD_eq_getElem?_getD, List.getD_eq_getElem?_getD, List.getElem?_eq_getElem h1, List.getElem?_eq_getElem h2] at h3
  exact UInt8.toNat_inj.1 h3
theorem patB_same {o : ByteArray} {F G : Nat → PcI} : ∀ n, (∀ i, i < n → F i = G i) → patB o F n = patB o G n
  | 0, _ => rfl
  | n + 1, h => by
    show patB o F n ++ pcTx o (F n) = patB o G n ++ pcTx o (G n)
    rw [patB_same n (fun i hi => h i (by omega)), h n (by omega)]
theorem pcF_lo (L : List PcI) (p : PcI) {i : Nat} (h : i < L.length) : pcF (L ++ [p]) i = pcF L i := by
  unfold pcF
  rw [List.getD_eq_getElem?_getD, List.getD_eq_getElem?_getD, List.getElem?_append_left h]
theorem pcF_hi (L : List PcI) (p : PcI) : pcF (L ++ [p]) L.length = p := by
  unfold pcF
  rw [List.getD_eq_getElem?_getD, List.getElem?_append_right (Nat.le_refl _), Nat.sub_self]; rfl
theorem patB_snoc (o : ByteArray) (L : List PcI) (p : PcI) : patB o (pcF (L ++ [p])) (L ++ [p]).length = patB o (pcF L) L.length ++ pcTx o p := by
  have e : (L ++ [p]).length = L.length + 1 := by simp
  rw [e]
  show patB o (pcF (L ++ [p])) L.length ++ pcTx o (pcF (L ++ [p]) L.length) = _
  rw [patB_same L.length (fun i hi => pcF_lo L p hi), pcF_hi]
/-- what is told so far makes the new text up to t -/
def Good (o s : ByteArray) (acc : List PcI) (t : Nat) : Prop := (∀ p ∈ acc, pcP p (o.size : Int)) ∧ patB o (pcF acc) acc.length = s.extract 0 t
theorem Good.snoc {o s : ByteArray} {acc : List PcI} {t a : Nat} {p : PcI} (h : Good o s acc t) (hp : pcP p (o.size : Int)) (ht : pcTx o p = s.extract t a) (h1 : t ≤ a) (h2 : a ≤ s.size) : Good o s (acc ++ [p]) a := by
  refine ⟨fun x hx => ?_, ?_⟩
  · rcases List.mem_append.1 hx with c | c
    · exact h.1 x c
    · obtain rfl : x = p := by simpa using c
      exact hp
  · rw [patB_snoc, h.2, ht]
    exact do_ext s 0 t a (by omega) h1 h2
theorem Good.wDat {o s : ByteArray} {acc : List PcI} {t a : Nat} (h : Good o s acc t) (h1 : t ≤ a) (h2 : a ≤ s.size) : Good o s (wDat acc (s.extract t a)) a := by
  have hz : (s.extract t a).size = a - t := by rw [ByteArray.size_extract]; omega
  by_cases h0 : (s.extract t a).size = 0
  · rw [wDat_no h0]
    obtain rfl : t = a := by omega
    exact h
  · rw [wDat_yes h0]
    have hne : s.extract t a ≠ ⟨#[]⟩ := fun e => h0 (by rw [e]; rfl)
    exact h.snoc (Or.inr ⟨hne, rfl, rfl⟩) (pcTx_yes hne) h1 h2
theorem good_copy {o s : ByteArray} {acc : List PcI} {a : Nat} (ha : a < s.size) (h : Good o s acc a) (h6 : ¬ (bo o s a).2 < 6) : Good o s (acc ++ [⟨((bo o s a).1 - 1 : Nat), ((bo o s a).2 : Nat), ⟨#[]⟩⟩]) (a + (bo o s a).2) := by
  obtain ⟨h1, h2, h3⟩ := bo_le o s a
  rcases h3 with h3 | ⟨h3, h4⟩
  · omega
  · obtain ⟨k1, k2, k3⟩ := cl_spec o s ((bo o s a).1 - 1) a
    rw [h4] at k1 k2
    unfold clM at k1
    generalize (bo o s a).1 - 1 = p at k1 k2 ⊢
    generalize (bo o s a).2 = n at h6 h2 k1 k2 ⊢
    refine h.snoc (Or.inl ⟨rfl, by show (1 : Int) ≤ (n : Int); omega, by show (n : Int) ≤ _; omega, by show (0 : Int) ≤ (p : Int); omega, by show (p : Int) ≤ _ - (n : Int); omega⟩) ?_ (by omega) (by omega)
    rw [pcTx_no rfl]
    show o.extract (p : Int).toNat ((p : Int) + (n : Int)).toNat = _
    rw [Int.toNat_natCast, show ((p : Int) + (n : Int)).toNat = p + n by omega]
    have z1 : (o.extract p (p + n)).size = n := by rw [ByteArray.size_extract]; omega
    have z2 : (s.extract a (a + n)).size = n := by rw [ByteArray.size_extract]; omega
    refine ba_bs (by omega) fun j hj => ?_
    rw [bsOf_ext _ _ _ _ (by omega), bsOf_ext _ _ _ _ (by omega)]
    exact k2 j (by omega)
theorem good_dl {o s : ByteArray} : ∀ (k a t : Nat) (acc : List PcI), t ≤ a → a ≤ s.size → s.size ≤ a + k → Good o s acc t → Good o s (dl o s k a t acc) s.size
  | 0, a, t, acc, h1, h2, h3, h => by
    have e : dl o s 0 a t acc = wDat acc (s.extract t s.size) := rfl
    rw [e]
    exact h.wDat (by omega) (Nat.le_refl _)
  | k + 1, a, t, acc, h1, h2, h3, h => by
    by_cases hlt : a < s.size
    · by_cases h6 : (bo o s a).2 < 6
      · rw [dl_byte hlt h6]
        exact good_dl k (a + 1) t acc (by omega) (by omega) (by omega) h
      · rw [dl_piece hlt h6]
        have hb := (bo_le o s a).2.1
        exact good_dl k _ _ _ (Nat.le_refl _) (by omega) (by omega) (good_copy hlt (h.wDat h1 (by omega)) h6)
    · rw [dl_end hlt]
      exact h.wDat (by omega) (Nat.le_refl _)
theorem doL_good (o s : ByteArray) (ho : o.size ≤ 4000) (hs : s.size ≤ 4000) (hl : (doL o s).length ≤ 500) : pcR (pcF (doL o s)) (doL o s).length (o.size : Int) ∧ patB o (pcF (doL o s)) (doL o s).length = s := by
  have h : Good o s (doL o s) s.size := good_dl s.size 0 0 [] (Nat.le_refl _) (Nat.zero_le _) (by omega) ⟨fun p hp => (by cases hp), (do_zero (by rw [ByteArray.size_extract]; omega)).symm⟩
  have hp : ∀ i, i < (doL o s).length → pcP (pcF (doL o s) i) (o.size : Int) := fun i hi => by
    have e : pcF (doL o s) i = (doL o s)[i] := by unfold pcF; rw [List.getD_eq_getElem?_getD, List.getElem?_eq_getElem hi]; rfl
    rw [e]; exact h.1 _ (List.getElem_mem hi)
  have hx := h.2
  rw [ByteArray.extract_zero_size] at hx
  have hz := patB_size hp
  rw [hx] at hz
  exact ⟨⟨by omega, by omega, hl, hp, by omega⟩, hx⟩
theorem doL_same (o : ByteArray) (h : 6 ≤ o.size) : doL o o = [⟨0, (o.size : Int), ⟨#[]⟩⟩] := by
  have hf1 : fo o o 0 1 = o.size := by
    show cl o o (1 - 1) 0 = _
    exact cl_eq (by unfold clM; omega) (fun j _ => rfl) (Or.inl (by unfold clM; omega))
  have hb : IsB (fo o o 0) o.size 1 o.size := by
    refine ⟨fun e _ _ => ?_, fun e h1 h2 => by omega, Or.inr ⟨Nat.le_refl _, by omega, hf1, by omega⟩⟩
    have := (cl_spec o o (e - 1) 0).1
    unfold clM at this
    show cl o o (e - 1) 0 ≤ o.size
    omega
  obtain ⟨e1, e2⟩ := (best_is (fo o o 0) o.size).uniq hb
  have eb : bo o o 0 = best (fo o o 0) o.size := rfl
  rw [← eb] at e1 e2
  have hk : ∃ k, o.size = k + 1 := ⟨o.size - 1, by omega⟩
  obtain ⟨k, hk⟩ := hk
  have e3 : doL o o = dl o o (k + 1) 0 0 [] := by unfold doL; rw [hk]
  rw [e3, dl_piece (by omega) (by omega), e1, e2, dl_end (by omega)]
  have z0 : (o.extract 0 0).size = 0 := by rw [ByteArray.size_extract]; omega
  have z1 : (o.extract (0 + o.size) o.size).size = 0 := by rw [ByteArray.size_extract]; omega
  rw [wDat_no z0, wDat_no z1]; rfl
theorem dl_len {o s : ByteArray} : ∀ (k a t : Nat) (acc : List PcI), t ≤ a → a ≤ s.size → s.size ≤ a + k → (dl o s k a t acc).length ≤ acc.length + (s.size - t) + 1
  | 0, a, t, acc, h1, h2, h3 => by
    have e : dl o s 0 a t acc = wDat acc (s.extract t s.size) := rfl
    rw [e]
    have := wDat_len acc (s.extract t s.size)
    omega
  | k + 1, a, t, acc, h1, h2, h3 => by
    by_cases hlt : a < s.size
    · by_cases h6 : (bo o s a).2 < 6
      · rw [dl_byte hlt h6]
        exact dl_len k (a + 1) t acc (by omega) (by omega) (by omega)
      · rw [dl_piece hlt h6]
        have hb := (bo_le o s a).2.1
        have hw := wDat_len acc (s.extract t a)
        have := dl_len (o := o) (s := s) k (a + (bo o s a).2) (a + (bo o s a).2) (wDat acc (s.extract t a) ++ [⟨((bo o s a).1 - 1 : Nat), ((bo o s a).2 : Nat), ⟨#[]⟩⟩]) (Nat.le_refl _) (by omega) (by omega)
        rw [List.length_append] at this
        have e1 : ([(⟨((bo o s a).1 - 1 : Nat), ((bo o s a).2 : Nat), ⟨#[]⟩⟩ : PcI)]).length = 1 := rfl
        omega
    · rw [dl_end hlt]
      have := wDat_len acc (s.extract t s.size)
      omega
theorem doL_self (o : ByteArray) : (doL o o).length ≤ 500 := by
  by_cases h : 6 ≤ o.size
  · rw [doL_same o h]; show 1 ≤ 500; omega
  · have := dl_len (o := o) (s := o) o.size 0 0 [] (Nat.le_refl _) (Nat.zero_le _) (by omega)
    show (dl o o o.size 0 0 []).length ≤ 500
    have e : ([] : List PcI).length = 0 := rfl
    omega
end Go.Proofs.Ytibciflmalfbjaa
