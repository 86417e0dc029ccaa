/-
  Texts with one byte unlike have unlike sums: plain mathematics.
-/
import Derived.Test.YtfngknnjdcgciaaCrcMath
namespace Go.Proofs.Ytfngknnjdcgciaa

theorem step_inj {p n a b : Nat} (hp : p.testBit n = true) (ha : a < 2 ^ (n + 1)) (hb : b < 2 ^ (n + 1)) (h : step p a = step p b) : a = b := by
  have ha2 : (a / 2).testBit n = false := Nat.testBit_lt_two_pow (by rw [Nat.pow_succ] at ha; omega)
  have hb2 : (b / 2).testBit n = false := Nat.testBit_lt_two_pow (by rw [Nat.pow_succ] at hb; omega)
  by_cases h1 : a % 2 = 1 <;> by_cases h2 : b % 2 = 1
  · rw [step_odd h1, step_odd h2] at h
    have := congrArg (· ^^^ p) h
    simp only [Nat.xor_assoc, Nat.xor_self, Nat.xor_zero] at this
    omega
  · rw [step_odd h1, step_even h2] at h
    have := congrArg (Nat.testBit · n) h
    simp [Nat.testBit_xor, ha2, hb2, hp] at this
  · rw [step_even h1, step_odd h2] at h
    have := congrArg (Nat.testBit · n) h
    simp [Nat.testBit_xor, ha2, hb2, hp] at this
  · rw [step_even h1, step_even h2] at h
    omega
theorem mv_inj {p n : Nat} (hp : p.testBit n = true) (hp2 : p < 2 ^ (n + 1)) : ∀ (k a b : Nat), a < 2 ^ (n + 1) → b < 2 ^ (n + 1) → mv p k a = mv p k b → a = b
  | 0, _, _, _, _, h => h
  | k + 1, _, _, ha, hb, h => step_inj hp ha hb (mv_inj hp hp2 k _ _ (step_lt hp2 ha) (step_lt hp2 hb) h)
theorem xor_cancel {a b c : Nat} (h : a ^^^ c = b ^^^ c) : a = b := by
  have := congrArg (· ^^^ c) h
  simpa only [Nat.xor_assoc, Nat.xor_self, Nat.xor_zero] using this
theorem byte_lt {n : Nat} (h8 : 7 ≤ n) (b : UInt8) : b.toNat < 2 ^ (n + 1) :=
  Nat.lt_of_lt_of_le b.toNat_lt (Nat.pow_le_pow_right (by omega) (by omega))
theorem regs_ne {p n : Nat} (hp : p.testBit n = true) (hp2 : p < 2 ^ (n + 1)) (h8 : 7 ≤ n) : ∀ (l : List UInt8) (c d : Nat), c < 2 ^ (n + 1) → d < 2 ^ (n + 1) → c ≠ d → regs p c l ≠ regs p d l
  | [], _, _, _, _, h => h
  | b :: l, c, d, hc, hd, h => by
    have hcb := Nat.xor_lt_two_pow hc (byte_lt h8 b)
    have hdb := Nat.xor_lt_two_pow hd (byte_lt h8 b)
    exact regs_ne hp hp2 h8 l _ _ (mv_lt hp2 8 _ hcb) (mv_lt hp2 8 _ hdb) (fun e => h (xor_cancel (mv_inj hp hp2 8 _ _ hcb hdb e)))
theorem regs_app (p c : Nat) (l m : List UInt8) : regs p c (l ++ m) = regs p (regs p c l) m := by unfold regs; rw [List.foldl_append]
theorem regs_diff {p n c : Nat} (hp : p.testBit n = true) (hp2 : p < 2 ^ (n + 1)) (h8 : 7 ≤ n) (hc : c < 2 ^ (n + 1)) (l m : List UInt8) {a b : UInt8} (h : a ≠ b) :
    regs p c (l ++ a :: m) ≠ regs p c (l ++ b :: m) := by
  rw [regs_app, regs_app]
  have hr : regs p c l < 2 ^ (n + 1) := regs_lt (n := n + 1) hp2 hc (by omega) l
  have ha := Nat.xor_lt_two_pow hr (byte_lt h8 a)
  have hb := Nat.xor_lt_two_pow hr (byte_lt h8 b)
  refine regs_ne hp hp2 h8 m _ _ (mv_lt hp2 8 _ ha) (mv_lt hp2 8 _ hb) (fun e => h ?_)
  have := mv_inj hp hp2 8 _ _ ha hb e
  rw [Nat.xor_comm _ a.toNat, Nat.xor_comm _ b.toNat] at this
  exact UInt8.toNat_inj.1 (xor_cancel this)
theorem regs_set {p n c : Nat} (hp : p.testBit n = true) (hp2 : p < 2 ^ (n + 1)) (h8 : 7 ≤ n) (hc : c < 2 ^ (n + 1)) (l : List UInt8) (k : Nat) (hk : k < l.length) (b : UInt8) (hb : b ≠ l[k]) :
    regs p c (l.set k b) ≠ regs p c l := by
  have e1 : l.set k b = l.take k ++ b :: l.drop (k + 1) := by rw [List.set_eq_take_append_cons_drop, if_pos hk]
  have e2 : l = l.take k ++ l[k] :: l.drop (k + 1) := by rw [← List.drop_eq_getElem_cons hk, List.take_append_drop]
  rw [e1]
  conv => rhs; rw [e2]
  exact regs_diff hp hp2 h8 hc _ _ hb
end Go.Proofs.Ytfngknnjdcgciaa
