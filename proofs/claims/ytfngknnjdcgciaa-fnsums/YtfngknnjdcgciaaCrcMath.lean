/-
  The two sums as plain mathematics: eight moves of the register for a byte, and the same by a table: no program is named here.
-/
import Derived.WalkKit
namespace Go.Proofs.Ytfngknnjdcgciaa

def crcIntOf : Value → Int | .int _ q => q | _ => 0
/-- one move of the register -/
def step (p r : Nat) : Nat := (r / 2) ^^^ (if r % 2 = 1 then p else 0)
/-- so many moves -/
def mv (p : Nat) : Nat → Nat → Nat
  | 0, r => r
  | k + 1, r => mv p k (step p r)
theorem mv_snoc (p : Nat) : ∀ (k r : Nat), mv p (k + 1) r = step p (mv p k r)
  | 0, r => rfl
  | k + 1, r => by
    have := mv_snoc p k (step p r)
    simpa [mv] using this
theorem step_odd {p r : Nat} (h : r % 2 = 1) : step p r = r / 2 ^^^ p := by unfold step; rw [if_pos h]
theorem step_even {p r : Nat} (h : ¬ r % 2 = 1) : step p r = r / 2 := by unfold step; rw [if_neg h]; simp
theorem step_lt {p r n : Nat} (hp : p < 2 ^ n) (hr : r < 2 ^ n) : step p r < 2 ^ n := by
  unfold step
  refine Nat.xor_lt_two_pow (by omega) ?_
  split
  · exact hp
  · exact Nat.two_pow_pos n
theorem mv_lt {p n : Nat} (hp : p < 2 ^ n) : ∀ (k r : Nat), r < 2 ^ n → mv p k r < 2 ^ n
  | 0, _, h => h
  | k + 1, _, h => mv_lt hp k _ (step_lt hp h)
theorem step_xor (p a b : Nat) : step p (a ^^^ b) = step p a ^^^ step p b := by
  unfold step
  have hd : (a ^^^ b) / 2 = a / 2 ^^^ b / 2 := Nat.xor_div_two
  have hm : (a ^^^ b) % 2 = 1 ↔ ¬ (a % 2 = 1 ↔ b % 2 = 1) := Nat.xor_mod_two_eq_one
  rw [hd]
  by_cases ha : a % 2 = 1 <;> by_cases hb : b % 2 = 1
  · rw [if_neg (by rw [hm]; simp [ha, hb]), if_pos ha, if_pos hb]
    rw [Nat.xor_zero, Nat.xor_assoc, ← Nat.xor_assoc p, Nat.xor_comm p, Nat.xor_assoc (b / 2), Nat.xor_self, Nat.xor_zero]
  · rw [if_pos (by rw [hm]; simp [ha, hb]), if_pos ha, if_neg hb]
    rw [Nat.xor_zero, Nat.xor_assoc, Nat.xor_assoc, Nat.xor_comm p]
  · rw [if_pos (by rw [hm]; simp [ha, hb]), if_neg ha, if_pos hb]
    rw [Nat.xor_zero, Nat.xor_assoc]
  · rw [if_neg (by rw [hm]; simp [ha, hb]), if_neg ha, if_neg hb]
    simp
theorem mv_xor (p : Nat) : ∀ (k a b : Nat), mv p k (a ^^^ b) = mv p k a ^^^ mv p k b
  | 0, _, _ => rfl
  | k + 1, a, b => by rw [mv, step_xor, mv_xor p k, mv, mv]
theorem mv_shift (p : Nat) : ∀ (k y : Nat), mv p k (2 ^ k * y) = y
  | 0, y => by simp [mv]
  | k + 1, y => by
    rw [mv, step_even (by rw [Nat.pow_succ, Nat.mul_comm (2 ^ k) 2, Nat.mul_assoc]; omega)]
    rw [Nat.pow_succ, Nat.mul_comm (2 ^ k) 2, Nat.mul_assoc, Nat.mul_div_cancel_left _ (by omega)]
    exact mv_shift p k y
/-- by the table -/
theorem mv_table (p c b : Nat) : mv p 8 (c ^^^ b) = c / 256 ^^^ mv p 8 (c % 256 ^^^ b) := by
  have h : c = 2 ^ 8 * (c / 256) ^^^ c % 256 := by
    apply Nat.eq_of_testBit_eq
    intro i
    have h256 : (256 : Nat) = 2 ^ 8 := rfl
    rw [Nat.testBit_xor, Nat.testBit_two_pow_mul, h256, Nat.testBit_mod_two_pow, Nat.testBit_div_two_pow]
    by_cases hi : i < 8
    · have h8 : ¬ 8 ≤ i := by omega
      simp [hi, h8]
    · have h8 : 8 ≤ i := by omega
      have : i - 8 + 8 = i := by omega
      simp [hi, h8, this]
  have e : c ^^^ b = 2 ^ 8 * (c / 256) ^^^ (c % 256 ^^^ b) := by
    conv => lhs; rw [h]
    rw [Nat.xor_assoc]
  rw [e, mv_xor, mv_shift]
/-- the register behind some bytes -/
def regs (p c : Nat) (l : List UInt8) : Nat := l.foldl (fun c b => mv p 8 (c ^^^ b.toNat)) c
theorem regs_nil (p c : Nat) : regs p c [] = c := rfl
theorem regs_snoc (p c : Nat) (l : List UInt8) (b : UInt8) : regs p c (l ++ [b]) = mv p 8 (regs p c l ^^^ b.toNat) := by
  unfold regs; rw [List.foldl_append]; rfl
theorem regs_lt {p c n : Nat} (hp : p < 2 ^ n) (hc : c < 2 ^ n) (h8 : 8 ≤ n) : ∀ (l : List UInt8) , regs p c l < 2 ^ n := by
  intro l
  have key : ∀ (l : List UInt8) (c : Nat), c < 2 ^ n → regs p c l < 2 ^ n := by
    intro l
    induction l with
    | nil => intro c hc; exact hc
    | cons b l ih =>
      intro c hc
      have hb : b.toNat < 2 ^ n := Nat.lt_of_lt_of_le b.toNat_lt (Nat.pow_le_pow_right (by omega) h8)
      exact ih _ (mv_lt hp 8 _ (Nat.xor_lt_two_pow hc hb))
  exact key l c hc
theorem take_snoc (s : ByteArray) (k : Nat) (h : k < s.size) : s.data.toList.take (k + 1) = s.data.toList.take k ++ [s[k]] := by
  rw [List.take_succ_eq_append_getElem (by simpa using h)]; rfl
end Go.Proofs.Ytfngknnjdcgciaa
