/-
  What the parts of pieces make: a part of what the pieces make.
-/
import Derived.Test.YtpeddaljgmkomaaPk11
import Derived.Test.YtpeddaljgmkomaaPk09
import Derived.Test.YtpeddaljgmkomaaPk10
namespace Go.Proofs.Ytpeddaljgmkomaa
open Go.RowKit
set_option linter.unusedVariables false
noncomputable def tP (old : ByteArray) (p : PcI) : List UInt8 := (pcTx old p).data.toList
noncomputable def pL (old : ByteArray) (F : Nat → PcI) : Nat → List UInt8
  | 0 => []
  | n + 1 => pL old F n ++ tP old (F n)
theorem patB_list (old : ByteArray) (F : Nat → PcI) (n : Nat) : (patB old F n).data.toList = pL old F n := by
  induction n with
  | zero => rfl
  | succ n ih =>
    show (patB old F n ++ pcTx old (F n)).data.toList = pL old F n ++ tP old (F n)
    rw [ByteArray.data_append, Array.toList_append, ih]; rfl
theorem ext_list (b : ByteArray) (s e : Nat) : (b.extract s e).data.toList = (b.data.toList.drop s).take (e - s) := by
  rw [ByteArray.data_extract, Array.toList_extract]
  try exact List.extract_eq_take_drop
theorem tP_len {old : ByteArray} {p : PcI} (h : pcP p (old.size : Int)) : ((tP old p).length : Int) = pcSz p := by
  rw [← pcTx_size h]; show (((pcTx old p).data.toList.length : Nat) : Int) = ((pcTx old p).data.size : Int); simp
theorem tP_part {old : ByteArray} {p : PcI} {x y : Int} (h : pcP p (old.size : Int)) (hx : 0 ≤ x) (hxy : x < y) (hy : y ≤ pcSz p) : tP old (partI p x y) = ((tP old p).drop x.toNat).take (y - x).toNat := by
  rcases h with ⟨h, h1, h2, h3, h4⟩ | ⟨h, h1, h2⟩
  · rw [pcSz_no h] at hy
    unfold tP
    rw [partI_no h, pcTx_no rfl, pcTx_no h, ext_list, ext_list]
    show (old.data.toList.drop (p.f + x).toNat).take ((p.f + x + (y - x)).toNat - (p.f + x).toNat) = _
    rw [List.drop_take, List.drop_drop, List.take_take]
    rw [show p.f.toNat + x.toNat = (p.f + x).toNat by omega, show min (y - x).toNat ((p.f + p.l).toNat - p.f.toNat - x.toNat) = (p.f + x + (y - x)).toNat - (p.f + x).toNat by omega]
  · rw [pcSz_yes h] at hy
    have hne : p.d.extract x.toNat y.toNat ≠ ⟨#[]⟩ := fun c => by
      have h5 : (p.d.extract x.toNat y.toNat).size = 0 := by rw [c]; rfl
      rw [ByteArray.size_extract] at h5
      omega
    unfold tP
    rw [partI_yes h, pcTx_yes hne, pcTx_yes h]
    show (p.d.extract x.toNat y.toNat).data.toList = _
    rw [ext_list, show y.toNat - x.toNat = (y - x).toNat by omega]
theorem pL_len {old : ByteArray} {F : Nat → PcI} {n : Nat} (h : ∀ i, i < n → pcP (F i) (old.size : Int)) : ((pL old F n).length : Int) = pcSum F n := by
  rw [← patB_list, ← patB_size h]; show (((patB old F n).data.toList.length : Nat) : Int) = ((patB old F n).data.size : Int); simp
theorem prtL_tx {old : ByteArray} {F : Nat → PcI} {a b : Int} (ha : 0 ≤ a) (hab : a ≤ b) (n : Nat) (h : ∀ i, i < n → pcP (F i) (old.size : Int)) : (prtL F a b n).flatMap (tP old) = ((pL old F n).drop a.toNat).take (b - a).toNat := by
  induction n with
  | zero => show [] = _; simp [pL]
  | succ n ih =>
    have h0 := fun i hi => h i (Nat.lt_succ_of_lt hi)
    have ih := ih h0
    have hS := pL_len h0
    have hY := tP_len (h n (by omega))
    show _ = ((pL old F n ++ tP old (F n)).drop a.toNat).take (b - a).toNat
    rw [List.drop_append, List.take_append, List.length_drop]
    by_cases hc : lowP F a n < highP F b n
    · rw [stepP_yes hc, List.flatMap_append, ih]
      congr 1
      have hc2 := hc
      have e1 : lowP F a n = max (a - pcSum F n) 0 := rfl
      have e2 : highP F b n = min (b - pcSum F n) (pcSz (F n)) := rfl
      show tP old (partI (F n) (lowP F a n) (highP F b n)) ++ [] = _
      rw [List.append_nil, tP_part (h n (by omega)) (by omega) hc (by omega)]
      rw [show a.toNat - (pL old F n).length = (lowP F a n).toNat by omega]
      rw [List.take_eq_take_iff, List.length_drop]
      omega
    · rw [stepP_no hc, ih]
      have e1 : lowP F a n = max (a - pcSum F n) 0 := rfl
      have e2 : highP F b n = min (b - pcSum F n) (pcSz (F n)) := rfl
      have hn : ((tP old (F n)).drop (a.toNat - (pL old F n).length)).take ((b - a).toNat - ((pL old F n).length - a.toNat)) = [] := by
        apply List.eq_nil_of_length_eq_zero
        rw [List.length_take, List.length_drop]
        omega
      rw [hn, List.append_nil]
theorem pcP_part {old : Int} {p : PcI} {x y : Int} (h : pcP p old) (hx : 0 ≤ x) (hxy : x < y) (hy : y ≤ pcSz p) : pcP (partI p x y) old := by
  rcases h with ⟨h, h1, h2, h3, h4⟩ | ⟨h, h1, h2⟩
  · rw [pcSz_no h] at hy
    rw [partI_no h]
    refine Or.inl ⟨rfl, ?_, ?_, ?_, ?_⟩ <;> simp only <;> omega
  · rw [pcSz_yes h] at hy
    rw [partI_yes h]
    refine Or.inr ⟨fun c => ?_, rfl, rfl⟩
    have h5 : (p.d.extract x.toNat y.toNat).size = 0 := by rw [show p.d.extract x.toNat y.toNat = ⟨#[]⟩ from c]; rfl
    rw [ByteArray.size_extract] at h5
    omega
theorem prtL_ok {old : Int} {F : Nat → PcI} {a b : Int} (n : Nat) (h : ∀ i, i < n → pcP (F i) old) : ∀ p ∈ prtL F a b n, pcP p old := by
  induction n with
  | zero => intro p hp; cases hp
  | succ n ih =>
    have ih := ih fun i hi => h i (by omega)
    by_cases hc : lowP F a n < highP F b n
    · rw [stepP_yes hc]
      intro p hp
      rcases List.mem_append.1 hp with hp | hp
      · exact ih p hp
      · obtain rfl := List.mem_singleton.1 hp
        have e1 : lowP F a n = max (a - pcSum F n) 0 := rfl
        have e2 : highP F b n = min (b - pcSum F n) (pcSz (F n)) := rfl
        exact pcP_part (h n (by omega)) (by omega) hc (by omega)
    · rw [stepP_no hc]; exact ih
theorem pL_rows (old : ByteArray) (L : List PcI) : pL old (pcF L) L.length = L.flatMap (tP old) := by
  suffices h : ∀ k, k ≤ L.length → pL old (pcF L) k = (L.take k).flatMap (tP old) by
    have := h L.length (Nat.le_refl _)
    rwa [List.take_length] at this
  intro k
  induction k with
  | zero => intro _; rfl
  | succ k ih =>
    intro hk
    have e : pcF L k = L[k] := by unfold pcF; simp; rw [List.getElem?_eq_getElem (by omega)]; rfl
    show pL old (pcF L) k ++ tP old (pcF L k) = _
    rw [ih (by omega), e, List.take_add_one, List.flatMap_append, List.getElem?_eq_getElem (by omega)]
    congr 1
    simp
theorem cmL_tx {old : ByteArray} {Fa Fb : Nat → PcI} {na : Nat} (ha : ∀ i, i < na → pcP (Fa i) (old.size : Int)) (nb : Nat) (hb : ∀ i, i < nb → pcP (Fb i) (pcSum Fa na)) : pL (patB old Fa na) Fb nb = (cmL Fa na Fb nb).flatMap (tP old) := by
  induction nb with
  | zero => rfl
  | succ j ih =>
    have ih := ih fun i hi => hb i (by omega)
    show pL (patB old Fa na) Fb j ++ tP (patB old Fa na) (Fb j) = (cmL Fa na Fb j ++ stepC Fa na (Fb j)).flatMap (tP old)
    rw [List.flatMap_append, ih]
    congr 1
    rcases hb j (by omega) with ⟨h, h1, h2, h3, h4⟩ | ⟨h, h1, h2⟩
    · rw [stepC_no h, prtL_tx h3 (by omega) na ha]
      unfold tP
      rw [pcTx_no h, ext_list, patB_list, show ((Fb j).f + (Fb j).l).toNat - (Fb j).f.toNat = ((Fb j).f + (Fb j).l - (Fb j).f).toNat by omega]
    · rw [stepC_yes h]
      unfold tP
      rw [pcTx_yes h]
      show _ = (pcTx old (Fb j)).data.toList ++ []
      rw [pcTx_yes h, List.append_nil]
theorem cmL_ok {old : Int} {Fa Fb : Nat → PcI} {na : Nat} {m : Int} (ha : ∀ i, i < na → pcP (Fa i) old) (nb : Nat) (hb : ∀ i, i < nb → pcP (Fb i) m) : ∀ p ∈ cmL Fa na Fb nb, pcP p old := by
  induction nb with
  | zero => intro p hp; cases hp
  | succ j ih =>
    have ih := ih fun i hi => hb i (by omega)
    intro p hp
    have hp : p ∈ cmL Fa na Fb j ++ stepC Fa na (Fb j) := hp
    rcases List.mem_append.1 hp with hp | hp
    · exact ih p hp
    · rcases hb j (by omega) with ⟨h, h1, h2, h3, h4⟩ | ⟨h, h1, h2⟩
      · rw [stepC_no h] at hp
        exact prtL_ok na ha p hp
      · rw [stepC_yes h] at hp
        obtain rfl := List.mem_singleton.1 hp
        exact Or.inr ⟨h, h1, h2⟩
/-- what two deltas make one behind the other, the delta of both makes at once -/
theorem com_tx {old : ByteArray} {Fa Fb : Nat → PcI} {na nb : Nat} (ha : pcR Fa na (old.size : Int)) (hb : pcR Fb nb (pcSum Fa na)) : patB old (pcF (cmL Fa na Fb nb)) (cmL Fa na Fb nb).length = patB (patB old Fa na) Fb nb := by
  apply ByteArray.ext
  apply Array.toList_inj.1
  rw [patB_list, patB_list, pL_rows, cmL_tx ha.2.2.2.1 nb hb.2.2.2.1]
theorem com_ok {old : ByteArray} {Fa Fb : Nat → PcI} {na nb : Nat} (ha : pcR Fa na (old.size : Int)) (hb : pcR Fb nb (pcSum Fa na)) (hl : (cmL Fa na Fb nb).length ≤ 500) : pcR (pcF (cmL Fa na Fb nb)) (cmL Fa na Fb nb).length (old.size : Int) := by
  have hok : ∀ i, i < (cmL Fa na Fb nb).length → pcP (pcF (cmL Fa na Fb nb) i) (old.size : Int) := fun i hi => by
    have e : pcF (cmL Fa na Fb nb) i = (cmL Fa na Fb nb)[i] := by unfold pcF; simp; rw [List.getElem?_eq_getElem hi]; rfl
    rw [e]
    exact cmL_ok ha.2.2.2.1 nb hb.2.2.2.1 _ (List.getElem_mem hi)
  refine ⟨ha.1, ha.2.1, hl, hok, ?_⟩
  have hX : ((patB old Fa na).size : Int) = pcSum Fa na := patB_size ha.2.2.2.1
  rw [← patB_size (old := old) hok, com_tx ha hb, patB_size (old := patB old Fa na) (by rw [hX]; exact hb.2.2.2.1)]
  exact hb.2.2.2.2
end Go.Proofs.Ytpeddaljgmkomaa
