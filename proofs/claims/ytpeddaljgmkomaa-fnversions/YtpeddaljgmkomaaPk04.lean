/-
  Several texts of this seat as one: Clone, Num, Take.
-/
import Derived.Test.YtpeddaljgmkomaaRows
import Derived.Lib.Strings
import Derived.Lib.Walk
import Derived.Lib.BufferWrite
import Derived.Lib.UnsafeStr
import Derived.Lib.Hide
import Derived.Laws.MakeOwn
import Derived.WalkKit
import Derived.WalkSpells

/-!   strings.Clone answers a string of the same bytes, whatever the string; of what was in memory nothing is changed. Condition: the string has at most 2^48 bytes. -/
namespace Go.Proofs.Ytpeddaljgmkomaa
open Go.RowKit

theorem Try.inf5 : (Try.prog.info? 5).map (fun i => (i.zero, i.size, i.bytes)) = some (some (.int .u8 0), 1, 1) := by kernel_rfl

set_option maxHeartbeats 4000000 in
set_option maxRecDepth 100000 in
theorem lclone_any (s : ByteArray) (w : World) (hlim : s.size ≤ 281474976710656) :
    Calls Try.prog 77 #[.string s] w fun e w' => e = .returned (.string s) ∧ Below w.heap.size w w' := by
  by_cases h0 : s.size = 0
  · have hs : s = ⟨#[]⟩ := by
      apply ByteArray.ext
      exact Array.eq_empty_of_size_eq_zero h0
    subst hs
    go_enter Try.func77, Try.ntmps77
    go_wp2
    go_ret
    exact ⟨rfl, Below.refl _ _⟩
  · obtain ⟨i0, hi, hz0, hz1, hz2⟩ := info_parts Try.inf5
    have hinfo : (Try.prog.info? 5).map (·.size) = some 1 := by rw [hi]; simp [hz1]
    have hco : Try.prog.cellsOf 5 = 1 := by simp [Program.cellsOf, hi, hz1]
    obtain ⟨M, hM⟩ : ∃ M, M = madeCells (Value.int .u8 0).cells (((s.size : Nat) : Int).toNat * i0.size) := ⟨_, rfl⟩
    have hMs : M.size = s.size := by rw [hM, size_madeCells, hz1]; simp
    have hmk : ∀ W : World, (Instr.makeSlice 39 (.int .i64 (s.size : Int)) (.int .i64 (s.size : Int))).run Try.prog W = .ok (.slice (some ⟨W.heap.size, 0, none⟩) s.size s.size) (W.alloc (.cells M 5)) := fun W => by
      have h := run_make (P := Try.prog) W 39 5 i0 (.int .u8 0) Try.underlying39 hi hz0 .i64 .i64 (s.size : Int) (s.size : Int) (by omega) (by omega) (by rw [hz2]; omega) (by omega)
      rw [← hM] at h
      simpa using h
    clear hM
    have hcp := Lib.run_copy_row_string (P := Try.prog) (w.alloc (.cells M 5)) 39 9 3 5 w.heap.size 0 s.size s.size s M 5 Try.underlying39 hinfo (heap_alloc_new w _) (Nat.le_refl _) (by omega)
    obtain ⟨Y, hY⟩ : ∃ Y, Y = (M.toList.take 0 ++ Lib.byteCells s.data.toList ++ M.toList.drop (0 + s.size)).toArray := ⟨_, rfl⟩
    rw [← hY] at hcp
    have hYl : Y.toList = Lib.byteCells s.data.toList := by
      rw [hY, List.toList_toArray, List.take_zero, List.nil_append, List.drop_of_length_le (by rw [Array.length_toList]; omega), List.append_nil]
    have hYs : Y.size = s.size := by rw [← Array.length_toList, hYl, Lib.byteCells_length, ← Lib.size_eq]
    have hgY : ((w.alloc (.cells M 5)).setRow w.heap.size Y).heap[w.heap.size]? = some (.cells Y 5 (0, 0)) := setRow_heap _ _ M _ 5 (0, 0) (heap_alloc_new w _)
    have hne : s.data.toList ≠ [] := fun e => h0 (by rw [Lib.size_eq, e]; rfl)
    have hUS := Lib.run_unsafeString_row (P := Try.prog) ((w.alloc (.cells M 5)).setRow w.heap.size Y) 123 3 9 5 Try.underlying123 hco w.heap.size Y.size (by unfold World.shape?; rw [hgY]) s.data.toList hne (by rw [← Lib.size_eq]; omega) (by rw [← Lib.size_eq]; omega)
      (fun j x hx => Lib.cells_of_row hgY Y.size j _ (by rw [List.take_of_length_le (by rw [Array.length_toList]; exact Nat.le_refl _), hYl]; simp [Lib.byteCells, hx]))
    rw [← Lib.size_eq] at hUS
    clear hY
    go_enter Try.func77, Try.ntmps77
    go_wp2
    go_ret
    have hb1 : Below w.heap.size w (w.alloc (.cells M 5)) := (Below.refl _ w).alloc (Nat.le_refl _) _
    have hb2 : Below w.heap.size (w.alloc (.cells M 5)) ((w.alloc (.cells M 5)).setRow w.heap.size Y) := ⟨rfl, rfl, rfl, by simp, fun k hk => setRow_other _ _ _ _ (by omega)⟩
    exact ⟨rfl, Lib.below_freeze (hb1.trans hb2) (p := ⟨w.heap.size, 0, none⟩) (Nat.le_refl _) _⟩

theorem clone_any (s : ByteArray) (w : World) (hlim : s.size ≤ 281474976710656) :
    Calls Try.prog 50 #[.string s] w fun e w' => e = .returned (.string s) ∧ Below w.heap.size w w' := by
  go_enter Try.func50, Try.ntmps50
  go_wp2_with (go_at_call 77; refine (lclone_any _ _ hlim).mono ?_; rintro e w' ⟨rfl, hb⟩)
  go_ret
  exact ⟨rfl, hb⟩
end Go.Proofs.Ytpeddaljgmkomaa

/-!   The numbers in groups of seven bits, as plain mathematics: no program is named here. -/
namespace Go.Proofs.Ytpeddaljgmkomaa
open Go.RowKit

def intOf : Value → Int | .int _ q => q | _ => 0

/-- one group more -/
def grp (X : Int) (k : Nat) (c : UInt8) : Int := bits .or .u64 X (IntKind.u64.wrap (((c.toNat : Int) % 128) * 2 ^ (7 * k)))

/-- what a text that is read from the place k on says, behind X -/
def rd (X : Int) (k : Nat) : List UInt8 → Option (Int × Nat)
  | [] => none
  | c :: cs => if 10 ≤ k then none else if k = 9 ∧ 1 < c.toNat then none else
    if c.toNat < 128 then (if 0 < k ∧ c.toNat = 0 then none else some (grp X k c, k + 1)) else rd (grp X k c) (k + 1) cs

theorem drop_step (s : ByteArray) (k : Nat) (h : k < s.size) : s.data.toList.drop k = s[k] :: s.data.toList.drop (k + 1) := by
  rw [List.drop_eq_getElem_cons (by simpa using h)]; rfl
theorem drop_end (s : ByteArray) (k : Nat) (h : s.size ≤ k) : s.data.toList.drop k = [] := by
  apply List.drop_eq_nil_of_le
  rw [← Lib.size_eq]; exact h
theorem mask127 {c : Int} (h₀ : 0 ≤ c) (h₁ : c ≤ 255) : bits .and .u8 c 127 = c % 128 := bits_mask .u8 8 (by decide) wraps_u8 7 (by decide) c h₀ (by omega)

theorem grp_nine (X : Int) (c : UInt8) (h : c.toNat ≤ 1) : grp X 9 c = bits .or .u64 X ((c.toNat : Int) % 128 * 9223372036854775808) := by
  unfold grp
  rw [IntWalk.u64_in]
  · rfl
  · constructor <;> omega
theorem grp_zero (X : Int) (k : Nat) (c : UInt8) (h : c.toNat = 0) : grp X k c = bits .or .u64 X (IntKind.u64.wrap 0) := by
  unfold grp; rw [h]; simp
/-- the number and the bytes that it takes up -/
def num (s : ByteArray) : Option (Int × Nat) := rd 0 0 s.data.toList

theorem num_none {s : ByteArray} {X : Int} {k : Nat} (h : num s = rd X k (s.data.toList.drop k)) (hk : k < s.size)
    (hn : 10 ≤ k ∨ (k = 9 ∧ 1 < s[k].toNat) ∨ (s[k].toNat < 128 ∧ 0 < k ∧ s[k].toNat = 0)) : num s = none := by
  rw [h, drop_step s k hk, rd]
  rcases hn with hn | hn | ⟨h1, h2⟩
  · rw [if_pos hn]
  · rw [if_pos hn]; split <;> rfl
  · rw [if_pos h1, if_pos h2]; split <;> (try split) <;> rfl
theorem num_some {s : ByteArray} {X : Int} {k : Nat} (h : num s = rd X k (s.data.toList.drop k)) (hk : k < s.size)
    (h10 : k < 10) (h9 : ¬ (k = 9 ∧ 1 < s[k].toNat)) (h1 : s[k].toNat < 128) (h0 : ¬ (0 < k ∧ s[k].toNat = 0)) : num s = some (grp X k s[k], k + 1) := by
  rw [h, drop_step s k hk, rd, if_neg (by omega), if_neg h9, if_pos h1, if_neg h0]
theorem num_end {s : ByteArray} {X : Int} {k : Nat} (h : num s = rd X k (s.data.toList.drop k)) (hk : s.size ≤ k) : num s = none := by
  rw [h, drop_end s k hk, rd]
theorem num_go {s : ByteArray} {X : Int} {k : Nat} (h : num s = rd X k (s.data.toList.drop k)) (hk : k < s.size)
    (h10 : k < 10) (h9 : ¬ (k = 9 ∧ 1 < s[k].toNat)) (h1 : ¬ s[k].toNat < 128) : num s = rd (grp X k s[k]) (k + 1) (s.data.toList.drop (k + 1)) := by
  rw [h, drop_step s k hk, rd, if_neg (by omega), if_neg h9, if_neg h1]
theorem num_ten {s : ByteArray} {X : Int} {k : Nat} (h : num s = rd X k (s.data.toList.drop k)) (hk : 10 ≤ k) : num s = none := by
  by_cases hl : k < s.size
  · exact num_none h hl (Or.inl hk)
  · exact num_end h (by omega)

theorem rd_bd : ∀ (l : List UInt8) (X : Int) (k : Nat) (Y : Int) (u : Nat), rd X k l = some (Y, u) → k + 1 ≤ u ∧ u ≤ k + l.length ∧ u ≤ 10
  | [], X, k, Y, u, h => by simp [rd] at h
  | c :: cs, X, k, Y, u, h => by
    rw [rd] at h
    by_cases h10 : 10 ≤ k
    · rw [if_pos h10] at h; cases h
    rw [if_neg h10] at h
    by_cases h9 : k = 9 ∧ 1 < c.toNat
    · rw [if_pos h9] at h; cases h
    rw [if_neg h9] at h
    by_cases h1 : c.toNat < 128
    · rw [if_pos h1] at h
      by_cases h0 : 0 < k ∧ c.toNat = 0
      · rw [if_pos h0] at h; cases h
      · rw [if_neg h0] at h
        simp only [Option.some.injEq, Prod.mk.injEq] at h
        simp only [List.length_cons]
        omega
    · rw [if_neg h1] at h
      have := rd_bd cs _ _ _ _ h
      simp only [List.length_cons]
      have : u ≤ 10 := this.2.2
      omega
theorem num_bd {s : ByteArray} {X : Int} {u : Nat} (h : num s = some (X, u)) : 1 ≤ u ∧ u ≤ s.size ∧ u ≤ 10 := by
  have := rd_bd _ _ _ _ _ h
  rw [← Lib.size_eq] at this
  omega

/-- what TakeNum tells -/
def takeOut (s : ByteArray) : Value := match num s with
  | none => .tuple #[.int .u64 0, .string ⟨#[]⟩, .bool false]
  | some (X, u) => .tuple #[.int .u64 X, .string (s.extract u s.size), .bool true]
theorem takeOut_none {s : ByteArray} (h : num s = none) : takeOut s = .tuple #[.int .u64 0, .string ⟨#[]⟩, .bool false] := by unfold takeOut; rw [h]
theorem takeOut_some {s : ByteArray} {X : Int} {u : Nat} (h : num s = some (X, u)) : takeOut s = .tuple #[.int .u64 X, .string (s.extract u s.size), .bool true] := by unfold takeOut; rw [h]

/-- a number's bytes -/
def put (n : Nat) : List UInt8 := if h : n < 128 then [UInt8.ofNat n] else UInt8.ofNat (n % 128 + 128) :: put (n / 128)
  termination_by n
  decreasing_by omega
theorem put_low {n : Nat} (h : n < 128) : put n = [UInt8.ofNat n] := by rw [put, dif_pos h]
theorem put_high {n : Nat} (h : 128 ≤ n) : put n = UInt8.ofNat (n % 128 + 128) :: put (n / 128) := by rw [put, dif_neg (by omega)]
theorem put_pos (n : Nat) : 1 ≤ (put n).length := by
  by_cases h : n < 128
  · rw [put_low h]; simp
  · rw [put_high (by omega)]; simp
theorem put_pos2 {n : Nat} (h : 128 ≤ n) : 2 ≤ (put n).length := by
  rw [put_high h]; have := put_pos (n / 128); simp only [List.length_cons]; omega
theorem put_len : ∀ (k n : Nat), n < 128 ^ (k + 1) → (put n).length ≤ k + 1
  | 0, n, h => by rw [put_low (by simpa using h)]; simp
  | k + 1, n, h => by
    by_cases hl : n < 128
    · rw [put_low hl]; simp
    · rw [put_high (by omega)]
      have := put_len k (n / 128) (by
        apply Nat.div_lt_of_lt_mul
        rw [Nat.pow_succ] at h
        rw [Nat.mul_comm]; exact h)
      simp only [List.length_cons]; omega
theorem put_ten {n : Nat} (h : n < 18446744073709551616) : (put n).length ≤ 10 := put_len 9 n (by omega)
theorem put_step {n0 m : Nat} {acc : List UInt8} (h : put n0 = acc ++ put m) (hm : 128 ≤ m) : put n0 = (acc ++ [UInt8.ofNat (m % 128 + 128)]) ++ put (m / 128) := by
  rw [h, put_high hm]; simp
theorem put_last {n0 m : Nat} {acc : List UInt8} (h : put n0 = acc ++ put m) (hm : m < 128) : put n0 = acc ++ [UInt8.ofNat m] := by
  rw [h, put_low hm]
theorem put_room {n0 m : Nat} {acc : List UInt8} (h : put n0 = acc ++ put m) (hn : n0 < 18446744073709551616) : acc.length ≤ 9 ∧ (128 ≤ m → acc.length ≤ 8) := by
  have h1 := put_ten hn
  rw [h, List.length_append] at h1
  have h2 := put_pos m
  exact ⟨by omega, fun hm => by have := put_pos2 hm; omega⟩
end Go.Proofs.Ytpeddaljgmkomaa

/-!   What TakeNum answers, the code's and the specification's, in plain words. -/
namespace Go.Proofs.Ytpeddaljgmkomaa
open Go.RowKit

end Go.Proofs.Ytpeddaljgmkomaa
