/-
  A number's bytes, the highest first: what highFirst and l1Big answer.
-/
import Derived.Test.YtnkahdidelhdaacGreatDoorConv
import Derived.Laws.MakeOwn
import Derived.Laws.Rows
import Derived.Laws.AppendOwn
import Derived.WalkSmall
namespace Go.Proofs.YtnkahdidelhdaacGreatDoor
open Go.RowKit

def bigIntOf : Value → Int | .int _ q => q | _ => 0
/-- so many bytes of a number, the highest first -/
def bigL (n : Nat) : Nat → List UInt8
  | 0 => []
  | k + 1 => bigL (n / 256) k ++ [UInt8.ofNat n]
theorem bigL_len (n : Nat) : ∀ k, (bigL n k).length = k := by
  intro k
  induction k generalizing n with
  | zero => rfl
  | succ k ih => rw [bigL, List.length_append, ih]; rfl
theorem div256 (n i : Nat) : n / 256 ^ i / 256 = n / 256 ^ (i + 1) := by rw [Nat.div_div_eq_div_mul, Nat.pow_succ]
theorem bigL_at (n : Nat) : ∀ k j, j < k → (bigL n k)[k - 1 - j]? = some (UInt8.ofNat (n / 256 ^ j)) := by
  intro k
  induction k generalizing n with
  | zero => intro j h; omega
  | succ k ih =>
    intro j h
    rw [bigL]
    by_cases h0 : j = 0
    · subst h0
      rw [List.getElem?_append_right (by rw [bigL_len]; omega), bigL_len]
      simp
    · obtain ⟨i, rfl⟩ : ∃ i, j = i + 1 := ⟨j - 1, by omega⟩
      rw [List.getElem?_append_left (by rw [bigL_len]; omega), show k + 1 - 1 - (i + 1) = k - 1 - i by omega, ih (n / 256) i (by omega)]
      rw [Nat.pow_succ, Nat.mul_comm, Nat.div_div_eq_div_mul]
theorem byteCells_snoc (l : List UInt8) (n : Nat) : Lib.byteCells l ++ [Value.int .u8 ((n % 256 : Nat) : Int)] = Lib.byteCells (l ++ [UInt8.ofNat n]) := by
  simp [Lib.byteCells]

theorem conv_rowb (w : World) (cur : Array Value) (l : List UInt8) (c : Nat) (hl : cur.toList.take l.length = Lib.byteCells l) :
    (convert 22 9 (.slice (some ⟨w.heap.size, 0, none⟩) l.length c)).run Tryz.prog (w.alloc (.cells cur 5)) = .ok (.string ⟨l.toArray⟩) (w.alloc (.cells cur 5)) := by
  refine run_convert_bytes_back _ 22 9 5 _ c l Tryz.underlying22 Tryz.underlying5 Tryz.underlying9 ?_
  intro j hj
  have h1 : (Lib.byteCells l)[j]? = some (.int .u8 (l[j].toNat : Int)) := by simp [Lib.byteCells, hj]
  have h2 : cur[j]? = some (.int .u8 (l[j].toNat : Int)) := by
    rw [← hl, List.getElem?_take, if_pos hj] at h1
    simpa using h1
  have ea : (⟨w.heap.size, 0, none⟩ : Addr).add j = ⟨w.heap.size, j, none⟩ := by
    unfold Addr.add
    by_cases h0 : j = 0
    · subst h0; simp
    · simp [h0]
  rw [ea, World.cell?_alloc_mark, h2]
set_option maxRecDepth 100000 in
set_option maxHeartbeats 2000000 in
theorem high_any (n long : Nat) (w : World) (hn : n < 18446744073709551616) (h1 : 1 ≤ long) (h2 : long ≤ 16) :
    Calls Tryz.prog 45 #[.int .u64 (n : Int), .int .i64 (long : Int)] w fun e w' => e = .returned (.string ⟨(bigL n long).toArray⟩) ∧ Below w.heap.size w w' := by
  obtain ⟨i0, hi, hz0, hz1, hz2⟩ := info_parts Tryz.inf5b
  obtain ⟨M, hM⟩ : ∃ M, M = madeCells (Value.int .u8 0).cells ((long : Int).toNat * i0.size) := ⟨_, rfl⟩
  have hMs : M.size = long := by rw [hM, size_madeCells, hz1]; simp
  have hmk : ∀ W : World, (Instr.makeSlice 22 (.int .i64 (long : Int)) (.int .i64 (long : Int))).run Tryz.prog W = .ok (.slice (some ⟨W.heap.size, 0, none⟩) long long) (W.alloc (.cells M 5)) := fun W => by
    have h := run_make (P := Tryz.prog) W 22 5 i0 (.int .u8 0) Tryz.underlying22 hi hz0 .i64 .i64 (long : Int) (long : Int) (by omega) (by omega) (by rw [hz2]; omega) (by omega)
    rw [← hM] at h
    simpa using h
  clear hM
  have HN : Hid (n < 18446744073709551616) := hn
  go_enter Tryz.func45, Tryz.ntmps45
  go_wp2_with fail
  clear hmk
  go_loopw [0, 11] (fun x c wr => ∃ (i : Nat) (cur : Array Value), i ≤ long ∧ c = .int .i64 (i : Int) ∧ x = .int .u64 ((n / 256 ^ i : Nat) : Int) ∧ wr = w.alloc (.cells cur 5) ∧ cur.size = long ∧ Hid (∀ j, j < i → cur[long - 1 - j]? = some (.int .u8 ((n / 256 ^ j % 256 : Nat) : Int))))
    (fun _ c _ => long - (bigIntOf c).toNat)
  case atStart => exact ⟨0, M, by omega, rfl, by rw [Nat.pow_zero, Nat.div_one], rfl, hMs, fun j hj => absurd hj (by omega)⟩
  case round =>
    obtain ⟨i, cur, hi16, rfl, rfl, rfl, hcs, HC⟩ := hrel
    by_cases hlt : i < long
    · obtain ⟨m, hm⟩ : ∃ m, long = m + i + 1 := ⟨long - 1 - i, by omega⟩
      have hix : (long : Int) - 1 - (i : Int) = (m : Int) := by omega
      have hml : (m : Int) < (long : Int) := by omega
      obtain ⟨x, hx⟩ : ∃ x, cur[m]? = some x := ⟨_, Array.getElem?_eq_getElem (by omega)⟩
      have hd := div256 n i
      have hle : n / 256 ^ i < 18446744073709551616 := Nat.lt_of_le_of_lt (Nat.div_le_self _ _) hn
      have HC2 : Hid (∀ j, j < i + 1 → (cur.setIfInBounds m (.int .u8 ((n / 256 ^ i % 256 : Nat) : Int)))[long - 1 - j]? = some (.int .u8 ((n / 256 ^ j % 256 : Nat) : Int))) := fun j hj => by
        by_cases e : j = i
        · subst e
          rw [show long - 1 - j = m by omega, Array.getElem?_setIfInBounds_self_of_lt (by omega)]
        · rw [Array.getElem?_setIfInBounds_ne (by omega)]
          exact HC.out j (by omega)
      have HD : Hid (n / 256 ^ (i + 1) = n / 256 ^ i / 256) := hd.symm
      clear hd
      generalize n / 256 ^ i = q at hle HC2 HD
      have HM : Hid (long = m + i + 1) := hm
      clear hm
      go_wp2_with fail
      go_roundw
      case rel => exact ⟨i + 1, _, by omega, by go_num, by rw [HD.out]; go_num, rfl, by simpa using hcs, HC2⟩
      case measure => simp [bigIntOf]; omega
    · obtain rfl : i = long := by omega
      have hcur : cur.toList = Lib.byteCells (bigL n i) := by
        apply List.ext_getElem?
        intro k
        by_cases hk : k < i
        · have h3 := HC.out (i - 1 - k) (by omega)
          rw [show i - 1 - (i - 1 - k) = k by omega] at h3
          have h4 := bigL_at n i (i - 1 - k) (by omega)
          rw [show i - 1 - (i - 1 - k) = k by omega] at h4
          rw [Array.getElem?_toList, h3, Lib.byteCells, List.getElem?_map, h4]
          simp
        · rw [List.getElem?_eq_none (by simpa [hcs] using hk), List.getElem?_eq_none (by simpa [Lib.byteCells, bigL_len] using hk)]
      have hcv := conv_rowb w cur (bigL n i) i (by rw [← hcur, bigL_len, List.take_of_length_le (by simp [hcs])])
      rw [bigL_len] at hcv
      clear hcur
      go_wp2_with fail
      go_ret
      exact ⟨rfl, (Below.refl _ _).alloc (Nat.le_refl _) _⟩

set_option maxRecDepth 100000 in
set_option maxHeartbeats 2000000 in
theorem sbig_any (n long : Nat) (w : World) (hn : n < 18446744073709551616) (h1 : 1 ≤ long) (h2 : long ≤ 12) :
    Calls Tryz.prog 21 #[.int .u64 (n : Int), .int .i64 (long : Int)] w fun e w' => e = .returned (.string ⟨(bigL n long).toArray⟩) ∧ Below w.heap.size w w' := by
  obtain ⟨i0, hi, hz0, hz1, hz2⟩ := info_parts Tryz.inf5b
  have HN : Hid (n < 18446744073709551616) := hn
  go_enter Tryz.func21, Tryz.ntmps21
  go_wp2_with fail
  go_loopw [5, 6] (fun v c wr => ∃ k : Nat, k ≤ long ∧ c = .int .i64 ((long : Int) - 1 - (k : Int)) ∧ wr.ownsRow w.heap.size 5 1 v k (Lib.byteCells (bigL (n / 256 ^ (long - k)) k)) ∧ Below w.heap.size w wr)
    (fun _ c _ => (bigIntOf c + 1).toNat)
  case atStart => exact ⟨0, by omega, by simp, World.ownsRow_made w #[] 0 (Nat.le_refl _) (by unfold maxLen; omega) rfl, (Below.refl _ _).alloc (Nat.le_refl _) _⟩
  case round =>
    obtain ⟨k, hk, rfl, hown, hb⟩ := hrel
    by_cases hlt : k < long
    · obtain ⟨m, hm⟩ : ∃ m, long = m + k + 1 := ⟨long - 1 - k, by omega⟩
      have hix : (long : Int) - 1 - (k : Int) = (m : Int) := by omega
      rw [hix]
      have hsz := hb.size
      have hm8 : (0 : Int) ≤ 8 * (m : Int) := by omega
      have hm9 : 8 * (m : Int) < 18446744073709551616 := by omega
      have hsh : (n : Int) / 2 ^ min (8 * m) 64 = ((n / 256 ^ m : Nat) : Int) := by
        have e : n / 2 ^ min (8 * m) 64 = n / 256 ^ m := by
          rw [show (256 : Nat) = 2 ^ 8 from rfl, ← Nat.pow_mul]
          by_cases h8 : 8 * m ≤ 64
          · rw [Nat.min_eq_left h8]
          · rw [Nat.min_eq_right (by omega), Nat.div_eq_of_lt (by exact hn), Nat.div_eq_of_lt]
            exact Nat.lt_of_lt_of_le hn (Nat.pow_le_pow_right (n := 2) (by omega) (by omega : 64 ≤ 8 * m))
        rw [← e, Int.natCast_ediv, Int.natCast_pow]; rfl
      have hq : n / 256 ^ m < 18446744073709551616 := Nat.lt_of_le_of_lt (Nat.div_le_self _ _) hn
      have HBB : Hid (bigL (n / 256 ^ (long - (k + 1))) (k + 1) = bigL (n / 256 ^ (long - k)) k ++ [UInt8.ofNat (n / 256 ^ m)]) := by
        show _ = _
        rw [show long - (k + 1) = m by omega, bigL, div256, show long - k = m + 1 by omega]
      generalize bigL (n / 256 ^ (long - k)) k = acc at hown HBB
      generalize n / 256 ^ m = q at hsh hq HBB
      have HM : Hid (long = m + k + 1) := hm
      clear hm
      go_wp2_with (at_builtin; (refine wpList_append_own _ rfl _ _ 22 rfl w.heap.size 5 i0 (.int .u8 0) 1 1 Tryz.underlying22 hi hz0 hz1 hz2 rfl (by decide) _ _ _ rfl (hown.alloc _) ⟨wr.heap.size, 0, none⟩ 1 1 [_] rfl rfl (cell_one_new _ _ _) ?c2 ?c3 ?c4 ?c5 ?_))
      case c2 => intro u hu; simp at hu; subst hu; rfl
      case c3 => unfold maxLen; omega
      case c4 => omega
      case c5 => simp; omega
      intro v' w1 hown' hgrow _
      have hb2 : Below w.heap.size w w1 := (hb.alloc (by omega) _).grown hgrow (by simp; omega) (fun k hk => (hown.lt k hk).1)
      have HO : Hid (w1.ownsRow w.heap.size 5 1 v' (k + 1) (Lib.byteCells (bigL (n / 256 ^ (long - (k + 1))) (k + 1)))) := by
        show World.ownsRow _ _ _ _ _ _ _
        rw [HBB.out, ← byteCells_snoc]
        exact hown'
      have H1 : Hid (Below w.heap.size w w1) := hb2
      clear hown' hb2 hgrow hown hb
      go_wp2_with fail
      go_roundw
      case rel =>
        have e1 : Value.int IntKind.i64 ((m : Int) - 1) = Value.int IntKind.i64 ((long : Int) - 1 - ((k + 1 : Nat) : Int)) := by
          have := HM.out
          congr 1; omega
        first
          | exact ⟨k + 1, by omega, e1, HO.out, H1.out⟩
          | (repeat apply Exists.intro
             exact ⟨⟨k + 1, by omega, e1, HO.out, H1.out⟩, rfl⟩)
      case measure => simp [bigIntOf]
    · obtain rfl : k = long := by omega
      have hix : (k : Int) - 1 - (k : Int) = -1 := by omega
      rw [hix]
      have e : n / 256 ^ (k - k) = n := by rw [Nat.sub_self, Nat.pow_zero, Nat.div_one]
      rw [e] at hown
      have hcv := conv_bytes (l := bigL n k) (by rw [bigL_len]; exact hown)
      go_wp2_with fail
      go_ret
      exact ⟨rfl, hb⟩
end Go.Proofs.YtnkahdidelhdaacGreatDoor
