/-
  Bytes in digits, two for each, as plain mathematics.
-/
import Derived.WalkKit
import Derived.Lib.Strings
import Derived.Lib.UnsafeStr
namespace Go.Proofs.YtgemdegdimeniaaDoor

def hexIntOf : Value → Int | .int _ q => q | _ => 0
/-- the digits in their order -/
def digs : List UInt8 := [48, 49, 50, 51, 52, 53, 54, 55, 56, 57, 97, 98, 99, 100, 101, 102]
def dig (n : Nat) : UInt8 := digs.getD n 0
/-- bytes in digits -/
def hexL : List UInt8 → List UInt8
  | [] => []
  | c :: cs => dig (c.toNat / 16) :: dig (c.toNat % 16) :: hexL cs
theorem hexL_snoc (l : List UInt8) (c : UInt8) : hexL (l ++ [c]) = hexL l ++ [dig (c.toNat / 16), dig (c.toNat % 16)] := by
  induction l with
  | nil => rfl
  | cons d l ih => simp [hexL, ih]
theorem hexL_len (l : List UInt8) : (hexL l).length = 2 * l.length := by
  induction l with
  | nil => rfl
  | cons d l ih => simp only [hexL, List.length_cons, ih]; omega
theorem hex_take (s : ByteArray) (k : Nat) (h : k < s.size) : s.data.toList.take (k + 1) = s.data.toList.take k ++ [s[k]] := by
  rw [List.take_succ_eq_append_getElem (by simpa using h)]; rfl
theorem dig_at (i : Nat) (h : i < (⟨#[48, 49, 50, 51, 52, 53, 54, 55, 56, 57, 97, 98, 99, 100, 101, 102]⟩ : ByteArray).size) : (⟨#[48, 49, 50, 51, 52, 53, 54, 55, 56, 57, 97, 98, 99, 100, 101, 102]⟩ : ByteArray)[i]'h = dig i := by
  have h16 : i < 16 := h
  have : ∀ j : Fin 16, (⟨#[48, 49, 50, 51, 52, 53, 54, 55, 56, 57, 97, 98, 99, 100, 101, 102]⟩ : ByteArray)[j.val]'j.isLt = dig j.val := by decide
  exact this ⟨i, h16⟩
theorem snoc_hex {A : List UInt8} {c : UInt8} {i j : Nat} (hi : i = c.toNat / 16) (hj : j = c.toNat % 16) (h1 : i < (⟨#[48, 49, 50, 51, 52, 53, 54, 55, 56, 57, 97, 98, 99, 100, 101, 102]⟩ : ByteArray).size) (h2 : j < (⟨#[48, 49, 50, 51, 52, 53, 54, 55, 56, 57, 97, 98, 99, 100, 101, 102]⟩ : ByteArray).size) :
    Lib.byteCells A ++ [Value.int .u8 (((⟨#[48, 49, 50, 51, 52, 53, 54, 55, 56, 57, 97, 98, 99, 100, 101, 102]⟩ : ByteArray)[i]'h1).toNat : Int), Value.int .u8 (((⟨#[48, 49, 50, 51, 52, 53, 54, 55, 56, 57, 97, 98, 99, 100, 101, 102]⟩ : ByteArray)[j]'h2).toNat : Int)] = Lib.byteCells (A ++ [dig (c.toNat / 16), dig (c.toNat % 16)]) := by
  rw [Lib.byteCells_append, dig_at, dig_at, hi, hj]
  rfl
end Go.Proofs.YtgemdegdimeniaaDoor
