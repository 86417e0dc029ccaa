/-
  Products of bytes as plain mathematics: no program is named here.
-/
import Derived.WalkKit
namespace Go.Proofs.YtnkahdidelhdaalDoor

/-- a byte times x -/
def xt (a : Nat) : Nat := if a < 128 then 2 * a else (2 * a) ^^^ 283
/-- a product, bit by bit of the second -/
def gm : Nat → Nat → Nat → Nat → Nat
  | 0, _, _, p => p
  | n + 1, a, b, p => gm n (xt a) (b / 2) (if b % 2 = 1 then p ^^^ a else p)
/-- the product of two bytes -/
def mulB (a b : Nat) : Nat := gm 8 a b 0
theorem xt_lt {a : Nat} (h : a < 256) : xt a < 256 := by
  have key : ∀ a : Fin 256, xt a.val < 256 := by decide +kernel
  exact key ⟨a, h⟩
theorem gm_zero : ∀ (n a p : Nat), gm n a 0 p = p
  | 0, _, _ => rfl
  | n + 1, a, p => by
    show gm n (xt a) (0 / 2) (if 0 % 2 = 1 then p ^^^ a else p) = p
    rw [if_neg (by omega), Nat.zero_div]; exact gm_zero n _ p
theorem xor_byte {a b : Nat} (ha : a < 256) (hb : b < 256) : a ^^^ b < 256 := Nat.xor_lt_two_pow (n := 8) ha hb
theorem gm_lt : ∀ (n a b p : Nat), a < 256 → p < 256 → gm n a b p < 256
  | 0, _, _, _, _, h => h
  | n + 1, a, b, p, ha, hp => by
    refine gm_lt n _ _ _ (xt_lt ha) ?_
    split
    · exact xor_byte hp ha
    · exact hp
theorem mulB_lt (a b : Nat) (h : a < 256) : mulB a b < 256 := gm_lt 8 a b 0 h (by omega)
theorem pow_xor {n b : Nat} (h : b < 2 ^ n) : 2 ^ n ^^^ b = 2 ^ n + b := by
  have e := Nat.two_pow_add_eq_or_of_lt h 1
  rw [Nat.mul_one] at e
  rw [e]
  apply Nat.eq_of_testBit_eq
  intro i
  rw [Nat.testBit_xor, Nat.testBit_or, Nat.testBit_two_pow]
  by_cases e : n = i
  · subst e
    rw [Nat.testBit_lt_two_pow h]; simp
  · simp [e]
theorem byte_ind (P : Nat → Prop) (h0 : P 0) (hb : ∀ i, i < 8 → P (2 ^ i)) (hx : ∀ a b, a < 256 → b < 256 → P a → P b → P (a ^^^ b)) : ∀ a, a < 256 → P a := by
  have key : ∀ n, n ≤ 8 → ∀ a, a < 2 ^ n → P a := by
    intro n
    induction n with
    | zero => intro _ a ha; obtain rfl : a = 0 := by omega
              exact h0
    | succ n ih =>
      intro hn a ha
      have hp : 2 ^ (n + 1) = 2 * 2 ^ n := by rw [Nat.pow_succ, Nat.mul_comm]
      have h8 : 2 ^ n ≤ 128 := Nat.pow_le_pow_right (n := 2) (by omega) (by omega : n ≤ 7)
      by_cases hlt : a < 2 ^ n
      · exact ih (by omega) a hlt
      · have hr : a - 2 ^ n < 2 ^ n := by omega
        have e := pow_xor hr
        have := hx (2 ^ n) (a - 2 ^ n) (by omega) (by omega) (hb n (by omega)) (ih (by omega) _ hr)
        rw [e] at this
        rwa [show 2 ^ n + (a - 2 ^ n) = a by omega] at this
  exact fun a ha => key 8 (Nat.le_refl _) a ha
theorem xt_xor {a b : Nat} (ha : a < 256) (hb : b < 256) : xt (a ^^^ b) = xt a ^^^ xt b := by
  have key : ∀ c : Nat, c < 256 → xt c = 2 * (c % 128) ^^^ c / 128 * 27 := by
    have k : ∀ c : Fin 256, xt c.val = 2 * (c.val % 128) ^^^ c.val / 128 * 27 := by decide +kernel
    exact fun c hc => k ⟨c, hc⟩
  have e1 : (a ^^^ b) % 128 = a % 128 ^^^ b % 128 := Nat.xor_mod_two_pow (n := 7)
  have e2 : (a ^^^ b) / 128 = a / 128 ^^^ b / 128 := Nat.xor_div_two_pow (n := 7)
  have e3 : ∀ x y : Nat, 2 * (x ^^^ y) = 2 * x ^^^ 2 * y := by
    intro x y
    apply Nat.eq_of_testBit_eq
    intro i
    have t : ∀ z j, (2 * z).testBit j = (decide (1 ≤ j) && z.testBit (j - 1)) := fun z j => by have := Nat.testBit_two_pow_mul (i := 1) (a := z) (j := j); simpa using this
    rw [Nat.testBit_xor, t, t, t, Nat.testBit_xor]
    by_cases h : 1 ≤ i <;> simp [h]
  have e4 : ∀ x y : Nat, x < 2 → y < 2 → (x ^^^ y) * 27 = x * 27 ^^^ y * 27 := by
    intro x y hx hy
    match x, y, hx, hy with
    | 0, 0, _, _ => rfl
    | 0, 1, _, _ => rfl
    | 1, 0, _, _ => rfl
    | 1, 1, _, _ => rfl
  rw [key _ (xor_byte ha hb), key a ha, key b hb, e1, e2, e3, e4 _ _ (by omega) (by omega)]
  ac_rfl
theorem gm_xorp : ∀ (n a b p q : Nat), gm n a b (p ^^^ q) = gm n a b p ^^^ q
  | 0, _, _, _, _ => rfl
  | n + 1, a, b, p, q => by
    show gm n (xt a) (b / 2) (if b % 2 = 1 then p ^^^ q ^^^ a else p ^^^ q) = _
    have : (if b % 2 = 1 then p ^^^ q ^^^ a else p ^^^ q) = (if b % 2 = 1 then p ^^^ a else p) ^^^ q := by
      split
      · ac_rfl
      · rfl
    rw [this, gm_xorp]; rfl
theorem gm_xora : ∀ (n a c b p q : Nat), a < 256 → c < 256 → gm n (a ^^^ c) b (p ^^^ q) = gm n a b p ^^^ gm n c b q
  | 0, _, _, _, _, _, _, _ => rfl
  | n + 1, a, c, b, p, q, ha, hc => by
    show gm n (xt (a ^^^ c)) (b / 2) (if b % 2 = 1 then p ^^^ q ^^^ (a ^^^ c) else p ^^^ q) = _
    have : (if b % 2 = 1 then p ^^^ q ^^^ (a ^^^ c) else p ^^^ q) = (if b % 2 = 1 then p ^^^ a else p) ^^^ (if b % 2 = 1 then q ^^^ c else q) := by
      split
      · ac_rfl
      · rfl
    rw [this, xt_xor ha hc, gm_xora n _ _ _ _ _ (xt_lt ha) (xt_lt hc)]; rfl
theorem gm_xorb : ∀ (n a b c p q : Nat), gm n a (b ^^^ c) (p ^^^ q) = gm n a b p ^^^ gm n a c q
  | 0, _, _, _, _, _ => rfl
  | n + 1, a, b, c, p, q => by
    show gm n (xt a) ((b ^^^ c) / 2) (if (b ^^^ c) % 2 = 1 then p ^^^ q ^^^ a else p ^^^ q) = _
    have hm : (b ^^^ c) % 2 = 1 ↔ ¬ (b % 2 = 1 ↔ c % 2 = 1) := Nat.xor_mod_two_eq_one
    have : (if (b ^^^ c) % 2 = 1 then p ^^^ q ^^^ a else p ^^^ q) = (if b % 2 = 1 then p ^^^ a else p) ^^^ (if c % 2 = 1 then q ^^^ a else q) := by
      by_cases hb : b % 2 = 1 <;> by_cases hc : c % 2 = 1
      · rw [if_neg (by rw [hm]; simp [hb, hc]), if_pos hb, if_pos hc]
        rw [Nat.xor_assoc p a, Nat.xor_comm q a, ← Nat.xor_assoc a, Nat.xor_self, Nat.zero_xor]
      · rw [if_pos (by rw [hm]; simp [hb, hc]), if_pos hb, if_neg hc]; ac_rfl
      · rw [if_pos (by rw [hm]; simp [hb, hc]), if_neg hb, if_pos hc]; ac_rfl
      · rw [if_neg (by rw [hm]; simp [hb, hc]), if_neg hb, if_neg hc]
    rw [this, Nat.xor_div_two, gm_xorb]; rfl
theorem mul_xorl {a c b : Nat} (ha : a < 256) (hc : c < 256) : mulB (a ^^^ c) b = mulB a b ^^^ mulB c b := by
  have := gm_xora 8 a c b 0 0 ha hc
  simpa [mulB] using this
theorem mul_xorr (a b c : Nat) : mulB a (b ^^^ c) = mulB a b ^^^ mulB a c := by
  have := gm_xorb 8 a b c 0 0
  simpa [mulB] using this
theorem mul_comm {a b : Nat} (ha : a < 256) (hb : b < 256) : mulB a b = mulB b a := by
  have h0 : ∀ i : Fin 8, mulB 0 (2 ^ i.val) = mulB (2 ^ i.val) 0 := by decide +kernel
  have hb2 : ∀ i j : Fin 8, mulB (2 ^ i.val) (2 ^ j.val) = mulB (2 ^ j.val) (2 ^ i.val) := by decide +kernel
  refine byte_ind (fun a => mulB a b = mulB b a) ?_ ?_ ?_ a ha
  · refine byte_ind (fun b => mulB 0 b = mulB b 0) rfl (fun i hi => h0 ⟨i, hi⟩) (fun x y hx hy e1 e2 => ?_) b hb
    show mulB 0 (x ^^^ y) = mulB (x ^^^ y) 0
    rw [mul_xorr, mul_xorl hx hy, e1, e2]
  · intro i hi
    have hi8 : 2 ^ i < 256 := Nat.pow_lt_pow_right (a := 2) (by omega) hi
    refine byte_ind (fun b => mulB (2 ^ i) b = mulB b (2 ^ i)) ((h0 ⟨i, hi⟩).symm) (fun j hj => hb2 ⟨i, hi⟩ ⟨j, hj⟩) (fun x y hx hy e1 e2 => ?_) b hb
    show mulB (2 ^ i) (x ^^^ y) = mulB (x ^^^ y) (2 ^ i)
    rw [mul_xorr, mul_xorl hx hy, e1, e2]
  · intro x y hx hy e1 e2
    show mulB (x ^^^ y) b = mulB b (x ^^^ y)
    rw [mul_xorr, mul_xorl hx hy, e1, e2]
theorem mul_assoc {a b c : Nat} (ha : a < 256) (hb : b < 256) (hc : c < 256) : mulB (mulB a b) c = mulB a (mulB b c) := by
  have hz : ∀ x, mulB x 0 = 0 := fun x => gm_zero 8 x 0
  have zm : ∀ x, x < 256 → mulB 0 x = 0 := fun x hx => by rw [mul_comm (by omega) hx, hz]
  have hb3 : ∀ i j k : Fin 8, mulB (mulB (2 ^ i.val) (2 ^ j.val)) (2 ^ k.val) = mulB (2 ^ i.val) (mulB (2 ^ j.val) (2 ^ k.val)) := by decide +kernel
  have lt : ∀ i, i < 8 → 2 ^ i < 256 := fun i hi => Nat.pow_lt_pow_right (a := 2) (by omega) hi
  refine byte_ind (fun a => mulB (mulB a b) c = mulB a (mulB b c)) ?_ ?_ ?_ a ha
  · show mulB (mulB 0 b) c = mulB 0 (mulB b c)
    rw [zm b hb, zm c hc, zm _ (mulB_lt _ _ hb)]
  · intro i hi
    refine byte_ind (fun b => mulB (mulB (2 ^ i) b) c = mulB (2 ^ i) (mulB b c)) ?_ ?_ ?_ b hb
    · show mulB (mulB (2 ^ i) 0) c = mulB (2 ^ i) (mulB 0 c)
      rw [hz, zm c hc, hz]
    · intro j hj
      refine byte_ind (fun c => mulB (mulB (2 ^ i) (2 ^ j)) c = mulB (2 ^ i) (mulB (2 ^ j) c)) ?_ (fun k hk => hb3 ⟨i, hi⟩ ⟨j, hj⟩ ⟨k, hk⟩) ?_ c hc
      · show mulB (mulB (2 ^ i) (2 ^ j)) 0 = mulB (2 ^ i) (mulB (2 ^ j) 0)
        rw [hz, hz, hz]
      · intro x y hx hy e1 e2
        show mulB (mulB (2 ^ i) (2 ^ j)) (x ^^^ y) = mulB (2 ^ i) (mulB (2 ^ j) (x ^^^ y))
        rw [mul_xorr, mul_xorr, mul_xorr, e1, e2]
    · intro x y hx hy e1 e2
      show mulB (mulB (2 ^ i) (x ^^^ y)) c = mulB (2 ^ i) (mulB (x ^^^ y) c)
      rw [mul_xorr, mul_xorl (mulB_lt _ _ (lt i hi)) (mulB_lt _ _ (lt i hi)), e1, e2, mul_xorl hx hy, mul_xorr]
  · intro x y hx hy e1 e2
    show mulB (mulB (x ^^^ y) b) c = mulB (x ^^^ y) (mulB b c)
    rw [mul_xorl hx hy, mul_xorl (mulB_lt _ _ hx) (mulB_lt _ _ hy), e1, e2, mul_xorl hx hy]
theorem mul_one {a : Nat} (ha : a < 256) : mulB a 1 = a := by
  have key : ∀ a : Fin 256, mulB a.val 1 = a.val := by decide +kernel
  exact key ⟨a, ha⟩
end Go.Proofs.YtnkahdidelhdaalDoor
