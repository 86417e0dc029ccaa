/-
  Seals: what they are, as plain mathematics.
-/
import Derived.Test.YtnkahdidelhdaacGreatDoorCntBack
import Derived.Test.YtnkahdidelhdaacGreatDoorHmMath
import Derived.Laws.Strings
namespace Go.Proofs.YtnkahdidelhdaacGreatDoor
open Go.RowKit
set_option linter.unusedVariables false

/-- a number as a machine word -/
def u64N (n : Int) : Nat := (n % 18446744073709551616).toNat
theorem u64N_lt (n : Int) : u64N n < 18446744073709551616 := by unfold u64N; omega
theorem u64N_cast (n : Int) : ((u64N n : Nat) : Int) = n % 18446744073709551616 := by unfold u64N; omega
/-- eight and twelve bytes of a number -/
def bigB (n : Int) (k : Nat) : ByteArray := ⟨(bigL (u64N n) k).toArray⟩
theorem bigB_size (n : Int) (k : Nat) : (bigB n k).size = k := by show (bigL (u64N n) k).toArray.size = k; rw [List.size_toArray, bigL_len]
def ciphK (m : ByteArray) : ByteArray := hmacB m ⟨#[99, 105, 112, 104, 101, 114]⟩
def tagK (m : ByteArray) : ByteArray := hmacB m ⟨#[116, 97, 103]⟩
theorem ciphK_size (m : ByteArray) : (ciphK m).size = 32 := hmacB_size _ _
theorem tagK_size (m : ByteArray) : (tagK m).size = 32 := hmacB_size _ _
def tagB (k : ByteArray) (n : Int) (body : ByteArray) : ByteArray := hmacB k (bigB n 8 ++ body)
theorem tagB_size (k : ByteArray) (n : Int) (body : ByteArray) : (tagB k n body).size = 32 := hmacB_size _ _
def maskedB (k : ByteArray) (n : Int) (d : ByteArray) : ByteArray := cntB (bigB n 12) (kw (bsOf k)) d
theorem maskedB_size (k : ByteArray) (n : Int) (d : ByteArray) : (maskedB k n d).size = d.size := cntB_size _ _ _
def sealB (m : ByteArray) (n : Int) (d : ByteArray) : ByteArray := maskedB (ciphK m) n d ++ tagB (tagK m) n (maskedB (ciphK m) n d)
theorem sealB_size (m : ByteArray) (n : Int) (d : ByteArray) : (sealB m n d).size = d.size + 32 := by unfold sealB; rw [ByteArray.size_append, maskedB_size, tagB_size]
def inN (n : Int) : Prop := 0 ≤ n ∧ n ≤ 1000000000000
def sealOk (m : ByteArray) (n : Int) (d : ByteArray) : Prop := m.size = 32 ∧ (0 ≤ n ∧ n ≤ 1000000000000) ∧ d.size ≤ 60000
def bodyOf (s : ByteArray) : ByteArray := s.extract 0 (s.size - 32)
def tailOf (s : ByteArray) : ByteArray := s.extract (s.size - 32) s.size
def openOk (m : ByteArray) (n : Int) (s : ByteArray) : Prop := m.size = 32 ∧ (0 ≤ n ∧ n ≤ 1000000000000) ∧ 32 ≤ s.size ∧ s.size ≤ 60032 ∧ tagB (tagK m) n (bodyOf s) = tailOf s
theorem bodyOf_size {s : ByteArray} (h : 32 ≤ s.size) : (bodyOf s).size = s.size - 32 := by unfold bodyOf; simp
theorem tailOf_size {s : ByteArray} (h : 32 ≤ s.size) : (tailOf s).size = 32 := by unfold tailOf; simp; omega
def openB (m : ByteArray) (n : Int) (s : ByteArray) : ByteArray := maskedB (ciphK m) n (bodyOf s)
theorem ext_list (s : ByteArray) (i j : Nat) : (s.extract i j).data.toList = (s.data.toList.drop i).take (j - i) := by
  rw [ByteArray.data_extract, Array.toList_extract, List.extract_eq_take_drop]
theorem app_body (a b : ByteArray) (h : b.size = 32) : bodyOf (a ++ b) = a := by
  apply ByteArray.ext
  apply Array.toList_inj.1
  unfold bodyOf
  have h1 : (a ++ b).size - 32 = a.data.toList.length := by rw [ByteArray.size_append, h, ← Lib.size_eq]; omega
  rw [h1, ext_list, show (a ++ b).data.toList = a.data.toList ++ b.data.toList by simp, List.drop_zero, Nat.sub_zero, List.take_left]
theorem app_tail (a b : ByteArray) (h : b.size = 32) : tailOf (a ++ b) = b := by
  apply ByteArray.ext
  apply Array.toList_inj.1
  unfold tailOf
  have h1 : (a ++ b).size - 32 = a.data.toList.length := by rw [ByteArray.size_append, h, ← Lib.size_eq]; omega
  have h2 : (a ++ b).size - a.data.toList.length = b.data.toList.length := by rw [ByteArray.size_append, ← Lib.size_eq, ← Lib.size_eq]; omega
  rw [h1, ext_list, h2, show (a ++ b).data.toList = a.data.toList ++ b.data.toList by simp, List.drop_left, List.take_of_length_le (Nat.le_refl _)]
theorem seal_open {m : ByteArray} {n : Int} {d : ByteArray} (h : sealOk m n d) : openOk m n (sealB m n d) ∧ openB m n (sealB m n d) = d := by
  have hz := sealB_size m n d
  obtain ⟨h1, h2, h3⟩ := h
  refine ⟨⟨h1, h2, by omega, by omega, ?_⟩, ?_⟩
  · unfold sealB
    rw [app_body _ _ (tagB_size _ _ _), app_tail _ _ (tagB_size _ _ _)]
  · unfold openB sealB
    rw [app_body _ _ (tagB_size _ _ _)]
    exact cnt_twice _ _ _
theorem toList_ne {a b : ByteArray} (h : a ≠ b) : ¬ a.toList = b.toList := fun e => h (by
  rw [ByteArray.toList_eq, ByteArray.toList_eq] at e
  exact ByteArray.ext (Array.toList_inj.1 e))
end Go.Proofs.YtnkahdidelhdaacGreatDoor
