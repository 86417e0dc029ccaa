/-
  A number's bytes, the highest first: what highFirst and l1Big answer.
-/
import Derived.Test.YtanlggglbpibfaaConv
import Derived.Laws.MakeOwn
import Derived.Laws.Rows
import Derived.Laws.AppendOwn
import Derived.WalkSmall
namespace Go.Proofs.Ytanlggglbpibfaa
open Go.RowKit

def bigIntOf : Value → Int | .int _ q => q | _ => 0
/-- so many bytes of a number, the highest first -/
def bigL (n : Nat) : Nat → List UInt8
  | 0 => []
  | k + 1 => bigL (n / 256) k ++ [UInt8.ofNat n]
theorem bigL_len (n : Nat) : ∀ k, (bigL n k).length = k := by
  intro k
  induction k generalizing n with
  | zero => rfl
  | succ k ih => rw [bigL, List.length_append, ih]; rfl
theorem div256 (n i : Nat) : n / 256 ^ i / 256 = n / 256 ^ (i + 1) := by rw [Nat.div_div_eq_div_mul, Nat.pow_succ]
theorem bigL_at (n : Nat) : ∀ k j, j < k → (bigL n k)[k - 1 - j]? = some (UInt8.ofNat (n / 256 ^ j)) := by
  intro k
  induction k generalizing n with
  | zero => intro j h; omega
  | succ k ih =>
    intro j h
    rw [bigL]
    by_cases h0 : j = 0
    · subst h0
      rw [List.getElem?_append_right (by rw [bigL_len]; omega), bigL_len]
      simp
    · obtain ⟨i, rfl⟩ : ∃ i, j = i + 1 := ⟨j - 1, by omega⟩
      rw [List.getElem?_append_left (by rw [bigL_len]; omega), show k + 1 - 1 - (i + 1) = k - 1 - i by omega, ih (n / 256) i (by omega)]
      rw [Nat.pow_succ, Nat.mul_comm, Nat.div_div_eq_div_mul]
theorem byteCells_snoc (l : List UInt8) (n : Nat) : Lib.byteCells l ++ [Value.int .u8 ((n % 256 : Nat) : Int)] = Lib.byteCells (l ++ [UInt8.ofNat n]) := by
  simp [Lib.byteCells]

theorem conv_rowb (w : World) (cur : Array Value) (l : List UInt8) (c : Nat) (hl : cur.toList.take l.length = Lib.byteCells l) :
    (convert 22 9 (.slice (some ⟨w.heap.size, 0, none⟩) l.length c)).run Try.prog (w.alloc (.cells cur 5)) = .ok (.string ⟨l.toArray⟩) (w.alloc (.cells cur 5)) := by
  refine run_convert_bytes_back _ 22 9 5 _ c l Try.underlying22 Try.underlying5 Try.underlying9 ?_
  intro j hj
  have h1 : (Lib.byteCells l)[j]? = some (.int .u8 (l[j].toNat : Int)) := by simp [Lib.byteCells, hj]
  have h2 : cur[j]? = some (.int .u8 (l[j].toNat : Int)) := by
    rw [← hl, List.getElem?_take, if_pos hj] at h1
    simpa using h1
  have ea : (⟨w.heap.size, 0, none⟩ : Addr).add j = ⟨w.heap.size, j, none⟩ := by
    unfold Addr.add
    by_cases h0 : j = 0
    · subst h0; simp
    · simp [h0]
  rw [ea, World.cell?_alloc_mark, h2]
end Go.Proofs.Ytanlggglbpibfaa
