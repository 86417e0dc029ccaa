/-
  A text is read back from its bytes; what is read has just its bytes: plain mathematics.
-/
import Derived.Test.YtbkjcngehhdchaaPk26
import Derived.Test.YtbkjcngehhdchaaPk03
import Derived.Test.YtbkjcngehhdchaaPk27
namespace Go.Proofs.Ytbkjcngehhdchaa
open Go.RowKit

theorem app_data (a b : ByteArray) : (a ++ b).data.toList = a.data.toList ++ b.data.toList := by simp [ByteArray.data_append]
theorem bytes_ext {a b : ByteArray} (h : a.data.toList = b.data.toList) : a = b := by
  apply ByteArray.ext
  exact Array.ext' h
theorem app_assoc (a b c : ByteArray) : (a ++ b) ++ c = a ++ (b ++ c) := bytes_ext (by rw [app_data, app_data, app_data, app_data, List.append_assoc])
theorem ext_end (s : ByteArray) (a : Nat) : (s.extract a s.size).data.toList = s.data.toList.drop a := by
  rw [Lib.extract_data, List.take_of_length_le]
  rw [List.length_drop, ← Lib.size_eq]
  exact Nat.le_refl _
theorem mkl_size (l : List UInt8) : (⟨l.toArray⟩ : ByteArray).size = l.length := by simp [ByteArray.size]
theorem ext_first (l : List UInt8) (s r : ByteArray) : ((⟨l.toArray⟩ : ByteArray) ++ (s ++ r)).extract l.length (l.length + s.size) = s := by
  apply bytes_ext
  rw [Lib.extract_data, app_data, app_data]
  have : ((⟨l.toArray⟩ : ByteArray).data.toList) = l := by simp
  rw [this, List.drop_left, Nat.add_sub_cancel_left]
  have hs : s.size = s.data.toList.length := Lib.size_eq s
  rw [hs, List.take_left]
theorem ext_second (l : List UInt8) (s r : ByteArray) : ((⟨l.toArray⟩ : ByteArray) ++ (s ++ r)).extract (l.length + s.size) ((⟨l.toArray⟩ : ByteArray) ++ (s ++ r)).size = r := by
  apply bytes_ext
  rw [ext_end, app_data, app_data]
  have : ((⟨l.toArray⟩ : ByteArray).data.toList) = l := by simp
  have hs : s.size = s.data.toList.length := Lib.size_eq s
  rw [this, hs, ← List.drop_drop, List.drop_left, List.drop_left]
theorem text_put (s r : ByteArray) (h : s.size ≤ 100000) : textOut (putTextOut s ++ r) = .tuple #[.string s, .string r, .bool true] := by
  have hn := num_put s.size (by omega) (s ++ r)
  have ht : txt ((⟨(put s.size).toArray⟩ : ByteArray) ++ (s ++ r)) = some (s.size, (put s.size).length) := by
    unfold txt
    rw [hn]
    simp only []
    have hsz : ((⟨(put s.size).toArray⟩ : ByteArray) ++ (s ++ r)).size = (put s.size).length + (s.size + r.size) := by
      rw [ByteArray.size_append, ByteArray.size_append, mkl_size (put s.size)]
    rw [hsz, if_pos ⟨by omega, by omega⟩]
    rfl
  unfold putTextOut
  rw [app_assoc, textOut_some ht, ext_first, ext_second]
theorem text_back {b : ByteArray} {n u : Nat} (h : txt b = some (n, u)) : putTextOut (b.extract u (u + n)) ++ b.extract (u + n) b.size = b ∧ n ≤ 100000 ∧ u + n ≤ b.size := by
  unfold txt at h
  rcases hn : num b with _ | ⟨X, v⟩
  · rw [hn] at h; cases h
  · rw [hn] at h
    simp only [] at h
    by_cases hc : X ≤ 100000 ∧ X ≤ ((b.size - v : Nat) : Int)
    · rw [if_pos hc] at h
      simp only [Option.some.injEq, Prod.mk.injEq] at h
      obtain ⟨rfl, rfl⟩ := h
      obtain ⟨m, rfl, hm, hback⟩ := num_back hn
      have hb := num_bd hn
      have hsz : (b.extract v (v + (m : Int).toNat)).size = m := by simp; omega
      refine ⟨?_, by omega, by omega⟩
      unfold putTextOut
      rw [hsz, app_assoc]
      conv => rhs; rw [← hback]
      congr 1
      apply bytes_ext
      rw [app_data, ext_end, ext_end, Lib.extract_data]
      have e1 : v + (m : Int).toNat - v = m := by omega
      have e2 : v + (m : Int).toNat = v + m := by omega
      rw [e1, e2, ← List.drop_drop, List.take_append_drop]
    · rw [if_neg hc] at h; cases h
end Go.Proofs.Ytbkjcngehhdchaa
