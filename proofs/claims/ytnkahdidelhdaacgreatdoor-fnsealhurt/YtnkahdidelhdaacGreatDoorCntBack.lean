/-
  What is masked twice is as it was; a beginning is masked as within the whole.
-/
import Derived.Test.YtnkahdidelhdaacGreatDoorCntS
namespace Go.Proofs.YtnkahdidelhdaacGreatDoor
open Go.RowKit
set_option linter.unusedVariables false

theorem cntB_size (nonce : ByteArray) (W : Nat → Nat) (d : ByteArray) : (cntB nonce W d).size = d.size := by
  show (cntL nonce W d).toArray.size = d.size
  rw [List.size_toArray, cntL_len]
theorem cntB_bs (nonce : ByteArray) (W : Nat → Nat) (d : ByteArray) (j : Nat) (hj : j < d.size) : bsOf (cntB nonce W d) j = cntF nonce W (bsOf d) j := by
  have hl : j < (cntL nonce W d).length := by rw [cntL_len]; exact hj
  have e := cntL_at nonce W d j hl
  generalize cntF nonce W (bsOf d) j = c at e ⊢
  unfold bsOf
  show ((cntL nonce W d).toArray.toList.getD j 0).toNat = _
  rw [List.getD_eq_getElem?_getD, List.getElem?_eq_getElem (by simpa using hl)]
  have e2 : ((cntL nonce W d)[j]).toNat = c := by omega
  simpa using e2
theorem bytes_ext {s t : ByteArray} (hs : s.size = t.size) (h : ∀ j, j < s.size → bsOf s j = bsOf t j) : s = t := by
  apply ByteArray.ext
  apply Array.ext
  · exact hs
  · intro i hi1 hi2
    have e := h i hi1
    have a := bsOf_at s i hi1
    have b := bsOf_at t i hi2
    rw [← a, ← b] at e
    exact UInt8.toNat_inj.1 e
theorem cnt_twice (nonce : ByteArray) (W : Nat → Nat) (d : ByteArray) : cntB nonce W (cntB nonce W d) = d := by
  have hs := cntB_size nonce W d
  refine bytes_ext (by rw [cntB_size, hs]) fun j hj => ?_
  rw [cntB_size, hs] at hj
  rw [cntB_bs _ _ _ _ (by rw [hs]; exact hj)]
  unfold cntF
  rw [cntB_bs _ _ _ _ hj]
  unfold cntF
  rw [Nat.xor_assoc, Nat.xor_self, Nat.xor_zero]
theorem bsOf_sub (s : ByteArray) (n j : Nat) (h : j < n) (hn : n ≤ s.size) : bsOf (s.extract 0 n) j = bsOf s j := by
  unfold bsOf
  rw [show (s.extract 0 n).data.toList = s.data.toList.take n by simp, List.getD_eq_getElem?_getD, List.getD_eq_getElem?_getD, List.getElem?_take, if_pos h]
theorem cnt_cut (nonce : ByteArray) (W : Nat → Nat) (d : ByteArray) (n : Nat) (hn : n ≤ d.size) : cntB nonce W (d.extract 0 n) = (cntB nonce W d).extract 0 n := by
  have hs := cntB_size nonce W d
  have h1 : (d.extract 0 n).size = n := by simp; omega
  have h2 : ((cntB nonce W d).extract 0 n).size = n := by simp; omega
  refine bytes_ext (by rw [cntB_size, h1, h2]) fun j hj => ?_
  rw [cntB_size, h1] at hj
  rw [cntB_bs _ _ _ _ (by omega), bsOf_sub _ _ _ hj (by omega), cntB_bs _ _ _ _ (by omega)]
  unfold cntF
  rw [bsOf_sub _ _ _ hj hn]
end Go.Proofs.YtnkahdidelhdaacGreatDoor
