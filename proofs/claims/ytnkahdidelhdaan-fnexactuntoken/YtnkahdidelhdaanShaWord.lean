/-
  What wordAt answers: four bytes as a word.
-/
import Derived.Test.YtnkahdidelhdaanShaMath
import Derived.Laws.Rows
import Derived.Lib.Strings
import Derived.Deep.WholeRow
import Derived.WalkSmall
namespace Go.Proofs.Ytnkahdidelhdaan
open Go.RowKit

def bsOf (s : ByteArray) (j : Nat) : Nat := (s.data.toList.getD j 0).toNat
theorem bsOf_lt (s : ByteArray) (j : Nat) : bsOf s j < 256 := UInt8.toNat_lt _
theorem bsOf_at (s : ByteArray) (j : Nat) (h : j < s.size) : s[j].toNat = bsOf s j := by
  unfold bsOf
  rw [List.getD_eq_getElem?_getD, List.getElem?_eq_getElem (by rw [← Lib.size_eq]; exact h)]; rfl
/-- the first bytes of a word -/
def pt (bs : Nat → Nat) (i : Nat) : Nat → Nat
  | 0 => 0
  | j + 1 => pt bs i j * 256 + bs (4 * i + j)
theorem pt_lt {bs : Nat → Nat} (hb : ∀ j, bs j < 256) (i : Nat) : ∀ j, j < 4 → pt bs i j < 16777216 := by
  intro j hj
  have h0 := hb (4 * i + 0)
  have h1 := hb (4 * i + 1)
  have h2 := hb (4 * i + 2)
  match j, hj with
  | 0, _ => simp [pt]
  | 1, _ => simp only [pt]; omega
  | 2, _ => simp only [pt]; omega
  | 3, _ => simp only [pt]; omega

end Go.Proofs.Ytnkahdidelhdaan
