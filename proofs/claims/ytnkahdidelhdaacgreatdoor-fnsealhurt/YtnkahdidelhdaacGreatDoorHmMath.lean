/-
  Keys masked, and the code of a text by a key, as plain mathematics.
-/
import Derived.Test.YtnkahdidelhdaacGreatDoorShaConst
namespace Go.Proofs.YtnkahdidelhdaacGreatDoor

/-- 64 bytes of a key, noughts behind it, each xored -/
def mk8 (k : ByteArray) (x i : Nat) : Nat := bsOf k i ^^^ x
def maskL (k : ByteArray) (x : Nat) : List UInt8 := (List.range 64).map fun i => UInt8.ofNat (mk8 k x i)
theorem maskL_len (k : ByteArray) (x : Nat) : (maskL k x).length = 64 := by simp [maskL]
theorem mk8_lt (k : ByteArray) {x : Nat} (hx : x < 256) (i : Nat) : mk8 k x i < 256 := Nat.xor_lt_two_pow (n := 8) (bsOf_lt k i) hx
theorem maskL_cells (k : ByteArray) {x : Nat} (hx : x < 256) (i : Nat) (hi : i < 64) : (Lib.byteCells (maskL k x))[i]? = some (.int .u8 (mk8 k x i : Int)) := by
  have h := mk8_lt k hx i
  simp only [Lib.byteCells, maskL, List.map_map, List.getElem?_map, List.getElem?_range hi, Option.map_some, Function.comp]
  congr 2
  rw [UInt8.toNat_ofNat']
  omega
def maskB (k : ByteArray) (x : Nat) : ByteArray := ⟨(maskL k x).toArray⟩
theorem maskB_size (k : ByteArray) (x : Nat) : (maskB k x).size = 64 := by show (maskL k x).toArray.size = 64; rw [List.size_toArray, maskL_len]
theorem bsOf_ge (s : ByteArray) (j : Nat) (h : s.size ≤ j) : bsOf s j = 0 := by
  unfold bsOf
  rw [List.getD_eq_getElem?_getD, List.getElem?_eq_none (by rw [← Lib.size_eq]; exact h)]; rfl
/-- the key that is used -/
def keyB (k : ByteArray) : ByteArray := if 64 < k.size then sumB k else k
theorem keyB_size (k : ByteArray) : (keyB k).size ≤ 64 := by
  unfold keyB
  split
  · rw [sumB_size]; omega
  · omega
def hmacB (k d : ByteArray) : ByteArray := sumB (maskB (keyB k) 92 ++ sumB (maskB (keyB k) 54 ++ d))
theorem hmacB_size (k d : ByteArray) : (hmacB k d).size = 32 := sumB_size _
end Go.Proofs.YtnkahdidelhdaacGreatDoor
