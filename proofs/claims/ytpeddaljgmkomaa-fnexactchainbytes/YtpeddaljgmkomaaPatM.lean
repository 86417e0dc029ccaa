/-
  What pieces make, as a text.
-/
import Derived.Test.YtpeddaljgmkomaaPcOk
import Derived.Test.YtpeddaljgmkomaaPcsC
namespace Go.Proofs.Ytpeddaljgmkomaa
open Go.RowKit
set_option linter.unusedVariables false
noncomputable def pcTx (old : ByteArray) (p : PcI) : ByteArray := open Classical in if p.d = ⟨#[]⟩ then old.extract p.f.toNat (p.f + p.l).toNat else p.d
theorem pcTx_no {old : ByteArray} {p : PcI} (h : p.d = ⟨#[]⟩) : pcTx old p = old.extract p.f.toNat (p.f + p.l).toNat := by unfold pcTx; rw [if_pos h]
theorem pcTx_yes {old : ByteArray} {p : PcI} (h : p.d ≠ ⟨#[]⟩) : pcTx old p = p.d := by unfold pcTx; rw [if_neg h]
noncomputable def patB (old : ByteArray) (F : Nat → PcI) : Nat → ByteArray
  | 0 => ⟨#[]⟩
  | i + 1 => patB old F i ++ pcTx old (F i)
theorem pcTx_size {old : ByteArray} {p : PcI} (h : pcP p (old.size : Int)) : ((pcTx old p).size : Int) = pcSz p := by
  rcases h with ⟨h, h1, h2, h3, h4⟩ | ⟨h, h1, h2⟩
  · rw [pcTx_no h, pcSz_no h, ByteArray.size_extract]; omega
  · rw [pcTx_yes h, pcSz_yes h]
theorem patB_size {old : ByteArray} {F : Nat → PcI} {n : Nat} (h : ∀ i, i < n → pcP (F i) (old.size : Int)) : ((patB old F n).size : Int) = pcSum F n := by
  induction n with
  | zero => rfl
  | succ n ih =>
    show ((patB old F n ++ pcTx old (F n)).size : Int) = pcSum F n + pcSz (F n)
    rw [ByteArray.size_append, ← ih fun i hi => h i (by omega), ← pcTx_size (h n (by omega))]; omega
theorem patB_le {old : ByteArray} {F : Nat → PcI} {i n : Nat} (h : pcR F n (old.size : Int)) (hi : i ≤ n) : (patB old F i).size ≤ 4000 := by
  have h1 := patB_size (old := old) (n := i) fun j hj => h.2.2.2.1 j (by omega)
  have h2 := pcSum_mono hi h.2.2.2.1
  have h3 := h.2.2.2.2
  omega
noncomputable def patV (old : ByteArray) (F : Nat → PcI) (n : Nat) : ByteArray := if pcB F n (old.size : Int) then patB old F n else ⟨#[]⟩
end Go.Proofs.Ytpeddaljgmkomaa
