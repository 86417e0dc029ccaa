/-
  The numbers in groups of seven bits, as plain mathematics: no program is named here.
-/
import Derived.WalkKit
import Derived.Lib.Strings
namespace Go.Proofs.YtfegoldjejlcaaaDoor
open Go.RowKit

def intOf : Value → Int | .int _ q => q | _ => 0

/-- one group more -/
def grp (X : Int) (k : Nat) (c : UInt8) : Int := bits .or .u64 X (IntKind.u64.wrap (((c.toNat : Int) % 128) * 2 ^ (7 * k)))

/-- what a text that is read from the place k on says, behind X -/
def rd (X : Int) (k : Nat) : List UInt8 → Option (Int × Nat)
  | [] => none
  | c :: cs => if 10 ≤ k then none else if k = 9 ∧ 1 < c.toNat then none else
    if c.toNat < 128 then (if 0 < k ∧ c.toNat = 0 then none else some (grp X k c, k + 1)) else rd (grp X k c) (k + 1) cs

theorem drop_step (s : ByteArray) (k : Nat) (h : k < s.size) : s.data.toList.drop k = s[k] :: s.data.toList.drop (k + 1) := by
  rw [List.drop_eq_getElem_cons (by simpa using h)]; rfl
theorem drop_end (s : ByteArray) (k : Nat) (h : s.size ≤ k) : s.data.toList.drop k = [] := by
  apply List.drop_eq_nil_of_le
  rw [← Lib.size_eq]; exact h
theorem mask127 {c : Int} (h₀ : 0 ≤ c) (h₁ : c ≤ 255) : bits .and .u8 c 127 = c % 128 := bits_mask .u8 8 (by decide) wraps_u8 7 (by decide) c h₀ (by omega)

theorem grp_nine (X : Int) (c : UInt8) (h : c.toNat ≤ 1) : grp X 9 c = bits .or .u64 X ((c.toNat : Int) % 128 * 9223372036854775808) := by
  unfold grp
  rw [IntWalk.u64_in]
  · rfl
  · constructor <;> omega
theorem grp_zero (X : Int) (k : Nat) (c : UInt8) (h : c.toNat = 0) : grp X k c = bits .or .u64 X (IntKind.u64.wrap 0) := by
  unfold grp; rw [h]; simp
/-- the number and the bytes that it takes up -/
def num (s : ByteArray) : Option (Int × Nat) := rd 0 0 s.data.toList

theorem num_none {s : ByteArray} {X : Int} {k : Nat} (h : num s = rd X k (s.data.toList.drop k)) (hk : k < s.size)
    (hn : 10 ≤ k ∨ (k = 9 ∧ 1 < s[k].toNat) ∨ (s[k].toNat < 128 ∧ 0 < k ∧ s[k].toNat = 0)) : num s = none := by
  rw [h, drop_step s k hk, rd]
  rcases hn with hn | hn | ⟨h1, h2⟩
  · rw [if_pos hn]
  · rw [if_pos hn]; split <;> rfl
  · rw [if_pos h1, if_pos h2]; split <;> (try split) <;> rfl
theorem num_some {s : ByteArray} {X : Int} {k : Nat} (h : num s = rd X k (s.data.toList.drop k)) (hk : k < s.size)
    (h10 : k < 10) (h9 : ¬ (k = 9 ∧ 1 < s[k].toNat)) (h1 : s[k].toNat < 128) (h0 : ¬ (0 < k ∧ s[k].toNat = 0)) : num s = some (grp X k s[k], k + 1) := by
  rw [h, drop_step s k hk, rd, if_neg (by omega), if_neg h9, if_pos h1, if_neg h0]
theorem num_end {s : ByteArray} {X : Int} {k : Nat} (h : num s = rd X k (s.data.toList.drop k)) (hk : s.size ≤ k) : num s = none := by
  rw [h, drop_end s k hk, rd]
theorem num_go {s : ByteArray} {X : Int} {k : Nat} (h : num s = rd X k (s.data.toList.drop k)) (hk : k < s.size)
    (h10 : k < 10) (h9 : ¬ (k = 9 ∧ 1 < s[k].toNat)) (h1 : ¬ s[k].toNat < 128) : num s = rd (grp X k s[k]) (k + 1) (s.data.toList.drop (k + 1)) := by
  rw [h, drop_step s k hk, rd, if_neg (by omega), if_neg h9, if_neg h1]
theorem num_ten {s : ByteArray} {X : Int} {k : Nat} (h : num s = rd X k (s.data.toList.drop k)) (hk : 10 ≤ k) : num s = none := by
  by_cases hl : k < s.size
  · exact num_none h hl (Or.inl hk)
  · exact num_end h (by omega)

theorem rd_bd : ∀ (l : List UInt8) (X : Int) (k : Nat) (Y : Int) (u : Nat), rd X k l = some (Y, u) → k + 1 ≤ u ∧ u ≤ k + l.length ∧ u ≤ 10
  | [], X, k, Y, u, h => by simp [rd] at h
  | c :: cs, X, k, Y, u, h => by
    rw [rd] at h
    by_cases h10 : 10 ≤ k
    · rw [if_pos h10] at h; cases h
    rw [if_neg h10] at h
    by_cases h9 : k = 9 ∧ 1 < c.toNat
    · rw [if_pos h9] at h; cases h
    rw [if_neg h9] at h
    by_cases h1 : c.toNat < 128
    · rw [if_pos h1] at h
      by_cases h0 : 0 < k ∧ c.toNat = 0
      · rw [if_pos h0] at h; cases h
      · rw [if_neg h0] at h
        simp only [Option.some.injEq, Prod.mk.injEq] at h
        simp only [List.length_cons]
        omega
    · rw [if_neg h1] at h
      have := rd_bd cs _ _ _ _ h
      simp only [List.length_cons]
      have : u ≤ 10 := this.2.2
      omega
theorem num_bd {s : ByteArray} {X : Int} {u : Nat} (h : num s = some (X, u)) : 1 ≤ u ∧ u ≤ s.size ∧ u ≤ 10 := by
  have := rd_bd _ _ _ _ _ h
  rw [← Lib.size_eq] at this
  omega

/-- what TakeNum tells -/
def takeOut (s : ByteArray) : Value := match num s with
  | none => .tuple #[.int .u64 0, .string ⟨#[]⟩, .bool false]
  | some (X, u) => .tuple #[.int .u64 X, .string (s.extract u s.size), .bool true]
theorem takeOut_none {s : ByteArray} (h : num s = none) : takeOut s = .tuple #[.int .u64 0, .string ⟨#[]⟩, .bool false] := by unfold takeOut; rw [h]
theorem takeOut_some {s : ByteArray} {X : Int} {u : Nat} (h : num s = some (X, u)) : takeOut s = .tuple #[.int .u64 X, .string (s.extract u s.size), .bool true] := by unfold takeOut; rw [h]

/-- a number's bytes -/
def put (n : Nat) : List UInt8 := if h : n < 128 then [UInt8.ofNat n] else UInt8.ofNat (n % 128 + 128) :: put (n / 128)
  termination_by n
  decreasing_by omega
theorem put_low {n : Nat} (h : n < 128) : put n = [UInt8.ofNat n] := by rw [put, dif_pos h]
theorem put_high {n : Nat} (h : 128 ≤ n) : put n = UInt8.ofNat (n % 128 + 128) :: put (n / 128) := by rw [put, dif_neg (by omega)]
theorem put_pos (n : Nat) : 1 ≤ (put n).length := by
  by_cases h : n < 128
  · rw [put_low h]; simp
  · rw [put_high (by omega)]; simp
theorem put_pos2 {n : Nat} (h : 128 ≤ n) : 2 ≤ (put n).length := by
  rw [put_high h]; have := put_pos (n / 128); simp only [List.length_cons]; omega
theorem put_len : ∀ (k n : Nat), n < 128 ^ (k + 1) → (put n).length ≤ k + 1
  | 0, n, h => by rw [put_low (by simpa using h)]; simp
  | k + 1, n, h => by
    by_cases hl : n < 128
    · rw [put_low hl]; simp
    · rw [put_high (by omega)]
      have := put_len k (n / 128) (by
        apply Nat.div_lt_of_lt_mul
        rw [Nat.pow_succ] at h
        rw [Nat.mul_comm]; exact h)
      simp only [List.length_cons]; omega
theorem put_ten {n : Nat} (h : n < 18446744073709551616) : (put n).length ≤ 10 := put_len 9 n (by omega)
theorem put_step {n0 m : Nat} {acc : List UInt8} (h : put n0 = acc ++ put m) (hm : 128 ≤ m) : put n0 = (acc ++ [UInt8.ofNat (m % 128 + 128)]) ++ put (m / 128) := by
  rw [h, put_high hm]; simp
theorem put_last {n0 m : Nat} {acc : List UInt8} (h : put n0 = acc ++ put m) (hm : m < 128) : put n0 = acc ++ [UInt8.ofNat m] := by
  rw [h, put_low hm]
theorem put_room {n0 m : Nat} {acc : List UInt8} (h : put n0 = acc ++ put m) (hn : n0 < 18446744073709551616) : acc.length ≤ 9 ∧ (128 ≤ m → acc.length ≤ 8) := by
  have h1 := put_ten hn
  rw [h, List.length_append] at h1
  have h2 := put_pos m
  exact ⟨by omega, fun hm => by have := put_pos2 hm; omega⟩
end Go.Proofs.YtfegoldjejlcaaaDoor
