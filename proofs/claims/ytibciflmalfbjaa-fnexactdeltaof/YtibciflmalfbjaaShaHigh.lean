/-
  A number's bytes, the highest first: what highFirst and l1Big answer.
-/
import Derived.Test.YtibciflmalfbjaaConv
import Derived.Laws.MakeOwn
import Derived.Laws.Rows
import Derived.Laws.AppendOwn
import Derived.WalkSmall
namespace Go.Proofs.Ytibciflmalfbjaa
open Go.RowKit

def bigIntOf : Value → Int | .int _ q => q | _ => 0
/-- so many bytes of a number, the highest first -/
def bigL (n : Nat) : Nat → List UInt8
  | 0 => []
  | k + 1 => bigL (n / 256) k ++ [UInt8.ofNat n]
theorem bigL_len (n : Nat) : ∀ k, (bigL n k).length = k := by
  intro k
  induction k generalizing n with
  | zero => rfl
  | succ k ih => rw [bigL, List.length_append, ih]; rfl
theorem div256 (n i : Nat) : n / 256 ^ i / 256 = n / 256 ^ (i + 1) := by rw [Nat.div_div_eq_div_mul, Nat.pow_succ]
theorem bigL_at (n : Nat) : ∀ k j, j < k → (bigL n k)[k - 1 - j]? = some (UInt8.ofNat (n / 256 ^ j)) := by
  intro k
  induction k generalizing n with
  | zero => intro j h; omega
  | succ k ih =>
    intro j h
    rw [bigL]
    by_cases h0 : j = 0
    · subst h0
      rw [List.getElem?_append_right (by rw [bigL_len]; omega), bigL_len]
      simp
    · obtain ⟨i, rfl⟩ : ∃ i, j = i + 1 := ⟨j - 1, by omega⟩
      rw [List.getElem?_append_left (by rw [bigL_len]; omega), show k + 1 - 1 - (i + 1) = k - 1 - i by omega, ih (n / 256) i (by omega)]
      rw [Nat.pow_succ, Nat.mul_comm, Nat.div_div_eq_div_mul]
theorem byteCells_snoc (l : List UInt8) (n : Nat) : Lib.byteCells l ++ [Value.int .u8 ((n % 256 : Nat) : Int)] = Lib.byteCells (l ++ [UInt8.ofNat n]) := by
  simp [Lib.byteCells]

theorem conv_rowb (w : World) (cur : Array Value) (l : List UInt8) (c : Nat) (hl : cur.toList.take l.length = Lib.byteCells l) :
    (convert 25 9 (.slice (some ⟨w.heap.size, 0, none⟩) l.length c)).run Try.prog (w.alloc (.cells cur 5)) = .ok (.string ⟨l.toArray⟩) (w.alloc (.cells cur 5)) := by
  refine run_convert_bytes_back _ 25 9 5 _ c l Try.underlying25 Try.underlying5 Try.underlying9 ?_
  intro j hj
  have h1 : (Lib.byteCells l)[j]? = some (.int .u8 (l[j].toNat : Int)) := by simp [Lib.byteCells, hj]
  have h2 : cur[j]? = some (.int .u8 (l[j].toNat : Int)) := by
    rw [← hl, List.getElem?_take, if_pos hj] at h1
    simpa using h1
  have ea : (⟨w.heap.size, 0, none⟩ : Addr).add j = ⟨w.heap.size, j, none⟩ := by
    unfold Addr.add
    by_cases h0 : j = 0
    · subst h0; simp
    · simp [h0]
  rw [ea, World.cell?_alloc_mark, h2]
set_option maxRecDepth 100000 in
set_option maxHeartbeats 2000000 in
theorem high_any (n long : Nat) (w : World) (hn : n < 18446744073709551616) (h1 : 1 ≤ long) (h2 : long ≤ 16) :
    Calls Try.prog 64 #[.int .u64 (n : Int), .int .i64 (long : Int)] w fun e w' => e = .returned (.string ⟨(bigL n long).toArray⟩) ∧ Below w.heap.size w w' := by
  obtain ⟨i0, hi, hz0, hz1, hz2⟩ := info_parts Try.inf5b
  obtain ⟨M, hM⟩ : ∃ M, M = madeCells (Value.int .u8 0).cells ((long : Int).toNat * i0.size) := ⟨_, rfl⟩
  have hMs : M.size = long := by rw [hM, size_madeCells, hz1]; simp
  have hmk : ∀ W : World, (Instr.makeSlice 25 (.int .i64 (long : Int)) (.int .i64 (long : Int))).run Try.prog W = .ok (.slice (some ⟨W.heap.size, 0, none⟩) long long) (W.alloc (.cells M 5)) := fun W => by
    have h := run_make (P := Try.prog) W 25 5 i0 (.int .u8 0) Try.underlying25 hi hz0 .i64 .i64 (long : Int) (long : Int) (by omega) (by omega) (by rw [hz2]; omega) (by omega)
    rw [← hM] at h
    simpa using h
  clear hM
  have HN : Hid (n < 18446744073709551616) := hn
  go_enter Try.func64, Try.ntmps64
  go_wp2_with fail
  clear hmk
  go_loopw [0, 11] (fun x c wr => ∃ (i : Nat) (cur : Array Value), i ≤ long ∧ c = .int .i64 (i : Int) ∧ x = .int .u64 ((n / 256 ^ i : Nat) : Int) ∧ wr = w.alloc (.cells cur 5) ∧ cur.size = long ∧ Hid (∀ j, j < i → cur[long - 1 - j]? = some (.int .u8 ((n / 256 ^ j % 256 : Nat) : Int))))
    (fun _ c _ => long - (bigIntOf c).toNat)
  case atStart => exact ⟨0, M, by omega, rfl, by rw [Nat.pow_zero, Nat.div_one], rfl, hMs, fun j hj => absurd hj (by omega)⟩
  case round =>
    obtain ⟨i, cur, hi16, rfl, rfl, rfl, hcs, HC⟩ := hrel
    by_cases hlt : i < long
    · obtain ⟨m, hm⟩ : ∃ m, long = m + i + 1 := ⟨long - 1 - i, by omega⟩
      have hix : (long : Int) - 1 - (i : Int) = (m : Int) := by omega
      have hml : (m : Int) < (long : Int) := by omega
      obtain ⟨x, hx⟩ : ∃ x, cur[m]? = some x := ⟨_, Array.getElem?_eq_getElem (by omega)⟩
      have hd := div256 n i
      have hle : n / 256 ^ i < 18446744073709551616 := Nat.lt_of_le_of_lt (Nat.div_le_self _ _) hn
      have HC2 : Hid (∀ j, j < i + 1 → (cur.setIfInBounds m (.int .u8 ((n / 256 ^ i % 256 : Nat) : Int)))[long - 1 - j]? = some (.int .u8 ((n / 256 ^ j % 256 : Nat) : Int))) := fun j hj => by
        by_cases e : j = i
        · subst e
          rw [show long - 1 - j = m by omega, Array.getElem?_setIfInBounds_self_of_lt (by omega)]
        · rw [Array.getElem?_setIfInBounds_ne (by omega)]
          exact HC.out j (by omega)
      have HD : Hid (n / 256 ^ (i + 1) = n / 256 ^ i / 256) := hd.symm
      clear hd
      generalize n / 256 ^ i = q at hle HC2 HD
      have HM : Hid (long = m + i + 1) := hm
      clear hm
      go_wp2_with fail
      go_roundw
      case rel => exact ⟨i + 1, _, by omega, by go_num, by rw [HD.out]; go_num, rfl, by simpa using hcs, HC2⟩
      case measure => simp [bigIntOf]; omega
    · obtain rfl : i = long := by omega
      have hcur : cur.toList = Lib.byteCells (bigL n i) := by
        apply List.ext_getElem?
        intro k
        by_cases hk : k < i
        · have h3 := HC.out (i - 1 - k) (by omega)
          rw [show i - 1 - (i - 1 - k) = k by omega] at h3
          have h4 := bigL_at n i (i - 1 - k) (by omega)
          rw [show i - 1 - (i - 1 - k) = k by omega] at h4
          rw [Array.getElem?_toList, h3, Lib.byteCells, List.getElem?_map, h4]
          simp
        · rw [List.getElem?_eq_none (by simpa [hcs] using hk), List.getElem?_eq_none (by simpa [Lib.byteCells, bigL_len] using hk)]
      have hcv := conv_rowb w cur (bigL n i) i (by rw [← hcur, bigL_len, List.take_of_length_le (by simp [hcs])])
      rw [bigL_len] at hcv
      clear hcur
      go_wp2_with fail
      go_ret
      exact ⟨rfl, (Below.refl _ _).alloc (Nat.le_refl _) _⟩

end Go.Proofs.Ytibciflmalfbjaa
