/-
  Several texts of this seat as one: Read, TakeText, TakeTextc.
-/
import Derived.Test.YtpeddaljgmkomaaPk04
import Derived.OpenShut
import Derived.Deep.RegionWith

/-!   What readNum and the code's TakeNum answer, in plain words. -/
namespace Go.Proofs.Ytpeddaljgmkomaa
open Go.RowKit

/-- what readNum tells -/
def numOut (s : ByteArray) : Value := match num s with
  | none => .tuple #[.int .u64 0, .int .i64 0]
  | some (X, u) => .tuple #[.int .u64 X, .int .i64 u]
theorem numOut_none {s : ByteArray} (h : num s = none) : numOut s = .tuple #[.int .u64 0, .int .i64 0] := by unfold numOut; rw [h]
theorem numOut_some {s : ByteArray} {X : Int} {u : Nat} (h : num s = some (X, u)) : numOut s = .tuple #[.int .u64 X, .int .i64 u] := by unfold numOut; rw [h]

end Go.Proofs.Ytpeddaljgmkomaa

/-!   What TakeText answers, the specification's. -/
namespace Go.Proofs.Ytpeddaljgmkomaa
open Go.RowKit

theorem grp_bd (X : Int) (k : Nat) (c : UInt8) : 0 ≤ grp X k c := (bounds_u64 (wf_bits .or .u64 X _)).1
theorem rd_nn : ∀ (l : List UInt8) (X : Int) (k : Nat) (Y : Int) (u : Nat), rd X k l = some (Y, u) → 0 ≤ Y
  | [], X, k, Y, u, h => by simp [rd] at h
  | c :: cs, X, k, Y, u, h => by
    rw [rd] at h
    by_cases h10 : 10 ≤ k
    · rw [if_pos h10] at h; cases h
    rw [if_neg h10] at h
    by_cases h9 : k = 9 ∧ 1 < c.toNat
    · rw [if_pos h9] at h; cases h
    rw [if_neg h9] at h
    by_cases h1 : c.toNat < 128
    · rw [if_pos h1] at h
      by_cases h0 : 0 < k ∧ c.toNat = 0
      · rw [if_pos h0] at h; cases h
      · rw [if_neg h0] at h
        simp only [Option.some.injEq, Prod.mk.injEq] at h
        rw [← h.1]; exact grp_bd _ _ _
    · rw [if_neg h1] at h
      exact rd_nn cs _ _ _ _ h

/-- the text's length and where it begins, where there is a text -/
def txt (s : ByteArray) : Option (Nat × Nat) := match num s with
  | none => none
  | some (X, u) => if X ≤ 100000 ∧ X ≤ ((s.size - u : Nat) : Int) then some (X.toNat, u) else none
def textOut (s : ByteArray) : Value := match txt s with
  | none => .tuple #[.string ⟨#[]⟩, .string ⟨#[]⟩, .bool false]
  | some (n, u) => .tuple #[.string (s.extract u (u + n)), .string (s.extract (u + n) s.size), .bool true]
theorem textOut_none {s : ByteArray} (h : txt s = none) : textOut s = .tuple #[.string ⟨#[]⟩, .string ⟨#[]⟩, .bool false] := by unfold textOut; rw [h]
theorem textOut_some {s : ByteArray} {n u : Nat} (h : txt s = some (n, u)) : textOut s = .tuple #[.string (s.extract u (u + n)), .string (s.extract (u + n) s.size), .bool true] := by unfold textOut; rw [h]

theorem ext_mid (s : ByteArray) (u n : Nat) (h : u + n ≤ s.size) : (s.extract u s.size).extract 0 n = s.extract u (u + n) := by
  apply ByteArray.ext
  simp [ByteArray.data_extract, Array.extract_extract]
  congr 1
  have : s.data.size = s.size := rfl
  omega
theorem ext_tail (s : ByteArray) (u n : Nat) : (s.extract u s.size).extract n (s.size - u) = s.extract (u + n) s.size := by
  apply ByteArray.ext
  simp [ByteArray.data_extract, Array.extract_extract]
  congr 1
  have : s.data.size = s.size := rfl
  omega

end Go.Proofs.Ytpeddaljgmkomaa

/-!   What TakeText answers, the code's. -/
namespace Go.Proofs.Ytpeddaljgmkomaa
open Go.RowKit

theorem clone_in (w : World) (s : ByteArray) (W : World) (hlim : s.size ≤ 281474976710656) (hB : Below w.heap.size w W) :
    Calls Try.prog 50 #[.string s] W fun e w' => e = .returned (.string s) ∧ Below w.heap.size w w' :=
  (clone_any s W hlim).mono fun _ _ ⟨h1, h2⟩ => ⟨h1, hB.trans (h2.mono hB.size)⟩
theorem ext_le {s : ByteArray} {B : Nat} (h : s.size ≤ B) (a b : Nat) : (s.extract a b).size ≤ B := by
  simp; omega

end Go.Proofs.Ytpeddaljgmkomaa
