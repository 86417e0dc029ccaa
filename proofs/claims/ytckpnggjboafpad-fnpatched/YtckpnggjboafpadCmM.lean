/-
  Parts of pieces, as plain mathematics; and one part, the code's.
-/
import Derived.Test.YtckpnggjboafpadRdL
namespace Go.Proofs.Ytckpnggjboafpad
open Go.RowKit
set_option linter.unusedVariables false
set_option linter.unusedSimpArgs false
noncomputable def partI (p : PcI) (x y : Int) : PcI := open Classical in if p.d = ⟨#[]⟩ then ⟨p.f + x, y - x, ⟨#[]⟩⟩ else ⟨0, 0, p.d.extract x.toNat y.toNat⟩
theorem partI_no {p : PcI} (h : p.d = ⟨#[]⟩) (x y : Int) : partI p x y = ⟨p.f + x, y - x, ⟨#[]⟩⟩ := by unfold partI; rw [if_pos h]
theorem partI_yes {p : PcI} (h : p.d ≠ ⟨#[]⟩) (x y : Int) : partI p x y = ⟨0, 0, p.d.extract x.toNat y.toNat⟩ := by unfold partI; rw [if_neg h]
def loP (F : Nat → PcI) (a : Int) (i : Nat) : Prop := True
noncomputable def lowP (F : Nat → PcI) (a : Int) (i : Nat) : Int := max (a - pcSum F i) 0
noncomputable def highP (F : Nat → PcI) (b : Int) (i : Nat) : Int := min (b - pcSum F i) (pcSz (F i))
noncomputable def stepP (F : Nat → PcI) (a b : Int) (i : Nat) : List PcI := if lowP F a i < highP F b i then [partI (F i) (lowP F a i) (highP F b i)] else []
noncomputable def prtL (F : Nat → PcI) (a b : Int) : Nat → List PcI
  | 0 => []
  | i + 1 => prtL F a b i ++ stepP F a b i
theorem prtL_len (F : Nat → PcI) (a b : Int) (i : Nat) : (prtL F a b i).length ≤ i := by
  induction i with
  | zero => exact Nat.le_refl 0
  | succ i ih =>
    show (prtL F a b i ++ stepP F a b i).length ≤ _
    rw [List.length_append]
    have : (stepP F a b i).length ≤ 1 := by unfold stepP; split <;> simp
    omega
theorem stepP_yes {F : Nat → PcI} {a b : Int} {i : Nat} (h : lowP F a i < highP F b i) : prtL F a b (i + 1) = prtL F a b i ++ [partI (F i) (lowP F a i) (highP F b i)] := by
  show prtL F a b i ++ stepP F a b i = _
  unfold stepP; rw [if_pos h]
theorem stepP_no {F : Nat → PcI} {a b : Int} {i : Nat} (h : ¬ lowP F a i < highP F b i) : prtL F a b (i + 1) = prtL F a b i := by
  show prtL F a b i ++ stepP F a b i = _
  unfold stepP; rw [if_neg h, List.append_nil]
end Go.Proofs.Ytckpnggjboafpad
