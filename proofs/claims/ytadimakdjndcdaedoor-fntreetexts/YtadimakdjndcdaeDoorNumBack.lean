/-
  A number is read back from its bytes; what is read has just its bytes: on texts of bytes, plain mathematics.
-/
import Derived.Test.YtadimakdjndcdaeDoorNumMath
namespace Go.Proofs.YtadimakdjndcdaeDoor
open Go.RowKit

theorem put_mono : ∀ (n m : Nat), m ≤ n → (put m).length ≤ (put n).length := by
  intro n
  induction n using Nat.strongRecOn with
  | ind n ih =>
    intro m hm
    by_cases h : n < 128
    · rw [put_low h, put_low (by omega)]; simp
    · by_cases h2 : m < 128
      · rw [put_low h2]; have := put_pos n; simpa using this
      · rw [put_high (n := n) (by omega), put_high (n := m) (by omega)]
        have := ih (n / 128) (by omega) (m / 128) (by omega)
        simp only [List.length_cons]; omega
theorem num_put (n : Nat) (hn : n < 18446744073709551616) (r : ByteArray) : num ((⟨(put n).toArray⟩ : ByteArray) ++ r) = some ((n : Int), (put n).length) := by
  have h := rd_put n 0 0 r.data.toList (by omega) (by decide) (by omega) (Or.inl rfl)
  have e : ((⟨(put n).toArray⟩ : ByteArray) ++ r).data.toList = put n ++ r.data.toList := by simp [ByteArray.data_append]
  unfold num
  rw [e]
  simpa using h
theorem ext_tail2 (l : List UInt8) (r : ByteArray) : ((⟨l.toArray⟩ : ByteArray) ++ r).extract l.length ((⟨l.toArray⟩ : ByteArray) ++ r).size = r := by
  apply ByteArray.ext
  apply Array.ext'
  rw [Lib.extract_data, Lib.size_eq]
  have e : ((⟨l.toArray⟩ : ByteArray) ++ r).data.toList = l ++ r.data.toList := by simp [ByteArray.data_append]
  rw [e]
  simp
  exact List.take_of_length_le (Nat.le_of_eq (Lib.size_eq r).symm)
theorem take_put (n : Nat) (hn : n < 18446744073709551616) (r : ByteArray) : takeOut ((⟨(put n).toArray⟩ : ByteArray) ++ r) = .tuple #[.int .u64 (n : Int), .string r, .bool true] := by
  rw [takeOut_some (num_put n hn r), ext_tail2]
theorem num_back {s : ByteArray} {X : Int} {u : Nat} (h : num s = some (X, u)) :
    ∃ m : Nat, X = (m : Int) ∧ m < 18446744073709551616 ∧ (⟨(put m).toArray⟩ : ByteArray) ++ s.extract u s.size = s := by
  obtain ⟨m, h1, h2, _, _, h5⟩ := put_rd s.data.toList 0 0 X u (by decide) h
  refine ⟨m, by simpa using h1, by omega, ?_⟩
  rw [h2]
  apply ByteArray.ext
  apply Array.ext'
  have hb := num_bd h
  have hs : s.data.size = s.size := rfl
  simp [ByteArray.data_extract, ByteArray.data_append]
  have e : (s.data.toList.drop u).take (s.size - u) = s.data.toList.drop u := List.take_of_length_le (by rw [List.length_drop, ← Lib.size_eq]; exact Nat.le_refl _)
  rw [e, List.take_append_drop]
end Go.Proofs.YtadimakdjndcdaeDoor
