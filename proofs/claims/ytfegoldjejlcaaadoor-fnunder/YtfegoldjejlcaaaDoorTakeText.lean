/-
  What TakeText answers, the specification's.
-/
import Derived.Test.YtfegoldjejlcaaaDoorRead
import Derived.OpenShut
namespace Go.Proofs.YtfegoldjejlcaaaDoor
open Go.RowKit

theorem grp_bd (X : Int) (k : Nat) (c : UInt8) : 0 ≤ grp X k c := (bounds_u64 (wf_bits .or .u64 X _)).1
theorem rd_nn : ∀ (l : List UInt8) (X : Int) (k : Nat) (Y : Int) (u : Nat), rd X k l = some (Y, u) → 0 ≤ Y
  | [], X, k, Y, u, h => by simp [rd] at h
  | c :: cs, X, k, Y, u, h => by
    rw [rd] at h
    by_cases h10 : 10 ≤ k
    · rw [if_pos h10] at h; cases h
    rw [if_neg h10] at h
    by_cases h9 : k = 9 ∧ 1 < c.toNat
    · rw [if_pos h9] at h; cases h
    rw [if_neg h9] at h
    by_cases h1 : c.toNat < 128
    · rw [if_pos h1] at h
      by_cases h0 : 0 < k ∧ c.toNat = 0
      · rw [if_pos h0] at h; cases h
      · rw [if_neg h0] at h
        simp only [Option.some.injEq, Prod.mk.injEq] at h
        rw [← h.1]; exact grp_bd _ _ _
    · rw [if_neg h1] at h
      exact rd_nn cs _ _ _ _ h

/-- the text's length and where it begins, where there is a text -/
def txt (s : ByteArray) : Option (Nat × Nat) := match num s with
  | none => none
  | some (X, u) => if X ≤ 100000 ∧ X ≤ ((s.size - u : Nat) : Int) then some (X.toNat, u) else none
def textOut (s : ByteArray) : Value := match txt s with
  | none => .tuple #[.string ⟨#[]⟩, .string ⟨#[]⟩, .bool false]
  | some (n, u) => .tuple #[.string (s.extract u (u + n)), .string (s.extract (u + n) s.size), .bool true]
theorem textOut_none {s : ByteArray} (h : txt s = none) : textOut s = .tuple #[.string ⟨#[]⟩, .string ⟨#[]⟩, .bool false] := by unfold textOut; rw [h]
theorem textOut_some {s : ByteArray} {n u : Nat} (h : txt s = some (n, u)) : textOut s = .tuple #[.string (s.extract u (u + n)), .string (s.extract (u + n) s.size), .bool true] := by unfold textOut; rw [h]

theorem ext_mid (s : ByteArray) (u n : Nat) (h : u + n ≤ s.size) : (s.extract u s.size).extract 0 n = s.extract u (u + n) := by
  apply ByteArray.ext
  simp [ByteArray.data_extract, Array.extract_extract]
  congr 1
  have : s.data.size = s.size := rfl
  omega
theorem ext_tail (s : ByteArray) (u n : Nat) : (s.extract u s.size).extract n (s.size - u) = s.extract (u + n) s.size := by
  apply ByteArray.ext
  simp [ByteArray.data_extract, Array.extract_extract]
  congr 1
  have : s.data.size = s.size := rfl
  omega

end Go.Proofs.YtfegoldjejlcaaaDoor
