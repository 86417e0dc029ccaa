/-
  Several texts of this seat as one: CipMath, CipTimes, CipSub, CipTab.
-/
import Derived.WalkKit
import Derived.Test.YtnkahdidelhdaacGreatDoorRows
import Derived.WalkSpells
import Derived.Laws.BitsAllLaws
import Derived.Laws.Rows
import Derived.Deep.WholeRow
import Derived.WalkSmall

/-!   Products of bytes as plain mathematics: no program is named here. -/
namespace Go.Proofs.YtnkahdidelhdaacGreatDoor

/-- a byte times x -/
def xt (a : Nat) : Nat := if a < 128 then 2 * a else (2 * a) ^^^ 283
/-- a product, bit by bit of the second -/
def gm : Nat → Nat → Nat → Nat → Nat
  | 0, _, _, p => p
  | n + 1, a, b, p => gm n (xt a) (b / 2) (if b % 2 = 1 then p ^^^ a else p)
/-- the product of two bytes -/
def mulB (a b : Nat) : Nat := gm 8 a b 0
theorem xt_lt {a : Nat} (h : a < 256) : xt a < 256 := by
  have key : ∀ a : Fin 256, xt a.val < 256 := by decide +kernel
  exact key ⟨a, h⟩
theorem gm_zero : ∀ (n a p : Nat), gm n a 0 p = p
  | 0, _, _ => rfl
  | n + 1, a, p => by
    show gm n (xt a) (0 / 2) (if 0 % 2 = 1 then p ^^^ a else p) = p
    rw [if_neg (by omega), Nat.zero_div]; exact gm_zero n _ p
theorem xor_byte {a b : Nat} (ha : a < 256) (hb : b < 256) : a ^^^ b < 256 := Nat.xor_lt_two_pow (n := 8) ha hb
theorem gm_lt : ∀ (n a b p : Nat), a < 256 → p < 256 → gm n a b p < 256
  | 0, _, _, _, _, h => h
  | n + 1, a, b, p, ha, hp => by
    refine gm_lt n _ _ _ (xt_lt ha) ?_
    split
    · exact xor_byte hp ha
    · exact hp
theorem mulB_lt (a b : Nat) (h : a < 256) : mulB a b < 256 := gm_lt 8 a b 0 h (by omega)
theorem pow_xor {n b : Nat} (h : b < 2 ^ n) : 2 ^ n ^^^ b = 2 ^ n + b := by
  have e := Nat.two_pow_add_eq_or_of_lt h 1
  rw [Nat.mul_one] at e
  rw [e]
  apply Nat.eq_of_testBit_eq
  intro i
  rw [Nat.testBit_xor, Nat.testBit_or, Nat.testBit_two_pow]
  by_cases e : n = i
  · subst e
    rw [Nat.testBit_lt_two_pow h]; simp
  · simp [e]
theorem byte_ind (P : Nat → Prop) (h0 : P 0) (hb : ∀ i, i < 8 → P (2 ^ i)) (hx : ∀ a b, a < 256 → b < 256 → P a → P b → P (a ^^^ b)) : ∀ a, a < 256 → P a := by
  have key : ∀ n, n ≤ 8 → ∀ a, a < 2 ^ n → P a := by
    intro n
    induction n with
    | zero => intro _ a ha; obtain rfl : a = 0 := by omega
              exact h0
    | succ n ih =>
      intro hn a ha
      have hp : 2 ^ (n + 1) = 2 * 2 ^ n := by rw [Nat.pow_succ, Nat.mul_comm]
      have h8 : 2 ^ n ≤ 128 := Nat.pow_le_pow_right (n := 2) (by omega) (by omega : n ≤ 7)
      by_cases hlt : a < 2 ^ n
      · exact ih (by omega) a hlt
      · have hr : a - 2 ^ n < 2 ^ n := by omega
        have e := pow_xor hr
        have := hx (2 ^ n) (a - 2 ^ n) (by omega) (by omega) (hb n (by omega)) (ih (by omega) _ hr)
        rw [e] at this
        rwa [show 2 ^ n + (a - 2 ^ n) = a by omega] at this
  exact fun a ha => key 8 (Nat.le_refl _) a ha
theorem xt_xor {a b : Nat} (ha : a < 256) (hb : b < 256) : xt (a ^^^ b) = xt a ^^^ xt b := by
  have key : ∀ c : Nat, c < 256 → xt c = 2 * (c % 128) ^^^ c / 128 * 27 := by
    have k : ∀ c : Fin 256, xt c.val = 2 * (c.val % 128) ^^^ c.val / 128 * 27 := by decide +kernel
    exact fun c hc => k ⟨c, hc⟩
  have e1 : (a ^^^ b) % 128 = a % 128 ^^^ b % 128 := Nat.xor_mod_two_pow (n := 7)
  have e2 : (a ^^^ b) / 128 = a / 128 ^^^ b / 128 := Nat.xor_div_two_pow (n := 7)
  have e3 : ∀ x y : Nat, 2 * (x ^^^ y) = 2 * x ^^^ 2 * y := by
    intro x y
    apply Nat.eq_of_testBit_eq
    intro i
    have t : ∀ z j, (2 * z).testBit j = (decide (1 ≤ j) && z.testBit (j - 1)) := fun z j => by have := Nat.testBit_two_pow_mul (i := 1) (a := z) (j := j); simpa using this
    rw [Nat.testBit_xor, t, t, t, Nat.testBit_xor]
    by_cases h : 1 ≤ i <;> simp [h]
  have e4 : ∀ x y : Nat, x < 2 → y < 2 → (x ^^^ y) * 27 = x * 27 ^^^ y * 27 := by
    intro x y hx hy
    match x, y, hx, hy with
    | 0, 0, _, _ => rfl
    | 0, 1, _, _ => rfl
    | 1, 0, _, _ => rfl
    | 1, 1, _, _ => rfl
  rw [key _ (xor_byte ha hb), key a ha, key b hb, e1, e2, e3, e4 _ _ (by omega) (by omega)]
  ac_rfl
theorem gm_xorp : ∀ (n a b p q : Nat), gm n a b (p ^^^ q) = gm n a b p ^^^ q
  | 0, _, _, _, _ => rfl
  | n + 1, a, b, p, q => by
    show gm n (xt a) (b / 2) (if b % 2 = 1 then p ^^^ q ^^^ a else p ^^^ q) = _
    have : (if b % 2 = 1 then p ^^^ q ^^^ a else p ^^^ q) = (if b % 2 = 1 then p ^^^ a else p) ^^^ q := by
      split
      · ac_rfl
      · rfl
    rw [this, gm_xorp]; rfl
theorem gm_xora : ∀ (n a c b p q : Nat), a < 256 → c < 256 → gm n (a ^^^ c) b (p ^^^ q) = gm n a b p ^^^ gm n c b q
  | 0, _, _, _, _, _, _, _ => rfl
  | n + 1, a, c, b, p, q, ha, hc => by
    show gm n (xt (a ^^^ c)) (b / 2) (if b % 2 = 1 then p ^^^ q ^^^ (a ^^^ c) else p ^^^ q) = _
    have : (if b % 2 = 1 then p ^^^ q ^^^ (a ^^^ c) else p ^^^ q) = (if b % 2 = 1 then p ^^^ a else p) ^^^ (if b % 2 = 1 then q ^^^ c else q) := by
      split
      · ac_rfl
      · rfl
    rw [this, xt_xor ha hc, gm_xora n _ _ _ _ _ (xt_lt ha) (xt_lt hc)]; rfl
theorem gm_xorb : ∀ (n a b c p q : Nat), gm n a (b ^^^ c) (p ^^^ q) = gm n a b p ^^^ gm n a c q
  | 0, _, _, _, _, _ => rfl
  | n + 1, a, b, c, p, q => by
    show gm n (xt a) ((b ^^^ c) / 2) (if (b ^^^ c) % 2 = 1 then p ^^^ q ^^^ a else p ^^^ q) = _
    have hm : (b ^^^ c) % 2 = 1 ↔ ¬ (b % 2 = 1 ↔ c % 2 = 1) := Nat.xor_mod_two_eq_one
    have : (if (b ^^^ c) % 2 = 1 then p ^^^ q ^^^ a else p ^^^ q) = (if b % 2 = 1 then p ^^^ a else p) ^^^ (if c % 2 = 1 then q ^^^ a else q) := by
      by_cases hb : b % 2 = 1 <;> by_cases hc : c % 2 = 1
      · rw [if_neg (by rw [hm]; simp [hb, hc]), if_pos hb, if_pos hc]
        rw [Nat.xor_assoc p a, Nat.xor_comm q a, ← Nat.xor_assoc a, Nat.xor_self, Nat.zero_xor]
      · rw [if_pos (by rw [hm]; simp [hb, hc]), if_pos hb, if_neg hc]; ac_rfl
      · rw [if_pos (by rw [hm]; simp [hb, hc]), if_neg hb, if_pos hc]; ac_rfl
      · rw [if_neg (by rw [hm]; simp [hb, hc]), if_neg hb, if_neg hc]
    rw [this, Nat.xor_div_two, gm_xorb]; rfl
theorem mul_xorl {a c b : Nat} (ha : a < 256) (hc : c < 256) : mulB (a ^^^ c) b = mulB a b ^^^ mulB c b := by
  have := gm_xora 8 a c b 0 0 ha hc
  simpa [mulB] using this
theorem mul_xorr (a b c : Nat) : mulB a (b ^^^ c) = mulB a b ^^^ mulB a c := by
  have := gm_xorb 8 a b c 0 0
  simpa [mulB] using this
theorem mul_comm {a b : Nat} (ha : a < 256) (hb : b < 256) : mulB a b = mulB b a := by
  have h0 : ∀ i : Fin 8, mulB 0 (2 ^ i.val) = mulB (2 ^ i.val) 0 := by decide +kernel
  have hb2 : ∀ i j : Fin 8, mulB (2 ^ i.val) (2 ^ j.val) = mulB (2 ^ j.val) (2 ^ i.val) := by decide +kernel
  refine byte_ind (fun a => mulB a b = mulB b a) ?_ ?_ ?_ a ha
  · refine byte_ind (fun b => mulB 0 b = mulB b 0) rfl (fun i hi => h0 ⟨i, hi⟩) (fun x y hx hy e1 e2 => ?_) b hb
    show mulB 0 (x ^^^ y) = mulB (x ^^^ y) 0
    rw [mul_xorr, mul_xorl hx hy, e1, e2]
  · intro i hi
    have hi8 : 2 ^ i < 256 := Nat.pow_lt_pow_right (a := 2) (by omega) hi
    refine byte_ind (fun b => mulB (2 ^ i) b = mulB b (2 ^ i)) ((h0 ⟨i, hi⟩).symm) (fun j hj => hb2 ⟨i, hi⟩ ⟨j, hj⟩) (fun x y hx hy e1 e2 => ?_) b hb
    show mulB (2 ^ i) (x ^^^ y) = mulB (x ^^^ y) (2 ^ i)
    rw [mul_xorr, mul_xorl hx hy, e1, e2]
  · intro x y hx hy e1 e2
    show mulB (x ^^^ y) b = mulB b (x ^^^ y)
    rw [mul_xorr, mul_xorl hx hy, e1, e2]
theorem mul_assoc {a b c : Nat} (ha : a < 256) (hb : b < 256) (hc : c < 256) : mulB (mulB a b) c = mulB a (mulB b c) := by
  have hz : ∀ x, mulB x 0 = 0 := fun x => gm_zero 8 x 0
  have zm : ∀ x, x < 256 → mulB 0 x = 0 := fun x hx => by rw [mul_comm (by omega) hx, hz]
  have hb3 : ∀ i j k : Fin 8, mulB (mulB (2 ^ i.val) (2 ^ j.val)) (2 ^ k.val) = mulB (2 ^ i.val) (mulB (2 ^ j.val) (2 ^ k.val)) := by decide +kernel
  have lt : ∀ i, i < 8 → 2 ^ i < 256 := fun i hi => Nat.pow_lt_pow_right (a := 2) (by omega) hi
  refine byte_ind (fun a => mulB (mulB a b) c = mulB a (mulB b c)) ?_ ?_ ?_ a ha
  · show mulB (mulB 0 b) c = mulB 0 (mulB b c)
    rw [zm b hb, zm c hc, zm _ (mulB_lt _ _ hb)]
  · intro i hi
    refine byte_ind (fun b => mulB (mulB (2 ^ i) b) c = mulB (2 ^ i) (mulB b c)) ?_ ?_ ?_ b hb
    · show mulB (mulB (2 ^ i) 0) c = mulB (2 ^ i) (mulB 0 c)
      rw [hz, zm c hc, hz]
    · intro j hj
      refine byte_ind (fun c => mulB (mulB (2 ^ i) (2 ^ j)) c = mulB (2 ^ i) (mulB (2 ^ j) c)) ?_ (fun k hk => hb3 ⟨i, hi⟩ ⟨j, hj⟩ ⟨k, hk⟩) ?_ c hc
      · show mulB (mulB (2 ^ i) (2 ^ j)) 0 = mulB (2 ^ i) (mulB (2 ^ j) 0)
        rw [hz, hz, hz]
      · intro x y hx hy e1 e2
        show mulB (mulB (2 ^ i) (2 ^ j)) (x ^^^ y) = mulB (2 ^ i) (mulB (2 ^ j) (x ^^^ y))
        rw [mul_xorr, mul_xorr, mul_xorr, e1, e2]
    · intro x y hx hy e1 e2
      show mulB (mulB (2 ^ i) (x ^^^ y)) c = mulB (2 ^ i) (mulB (x ^^^ y) c)
      rw [mul_xorr, mul_xorl (mulB_lt _ _ (lt i hi)) (mulB_lt _ _ (lt i hi)), e1, e2, mul_xorl hx hy, mul_xorr]
  · intro x y hx hy e1 e2
    show mulB (mulB (x ^^^ y) b) c = mulB (x ^^^ y) (mulB b c)
    rw [mul_xorl hx hy, mul_xorl (mulB_lt _ _ hx) (mulB_lt _ _ hy), e1, e2, mul_xorl hx hy]
theorem mul_one {a : Nat} (ha : a < 256) : mulB a 1 = a := by
  have key : ∀ a : Fin 256, mulB a.val 1 = a.val := by decide +kernel
  exact key ⟨a, ha⟩
end Go.Proofs.YtnkahdidelhdaacGreatDoor

/-!   What the two Times answer: the product of two bytes. -/
namespace Go.Proofs.YtnkahdidelhdaacGreatDoor
open Go.RowKit

def cipIntOf : Value → Int | .int _ q => q | _ => 0
theorem div_pow_succ (b n : Nat) : b / 2 ^ n / 2 = b / 2 ^ (n + 1) := by rw [Nat.div_div_eq_div_mul, Nat.pow_succ]
theorem xt_low {a : Nat} (h : a < 128) : xt a = 2 * a := if_pos h
theorem xt_high {a : Nat} (h : ¬ a < 128) : xt a = (2 * a) ^^^ 283 := if_neg h

set_option maxRecDepth 100000 in
set_option maxHeartbeats 1000000 in
theorem stimes_any (a b : Nat) (w : World) (ha : a < 256) :
    Calls Tryz.prog 54 #[.int .u32 (a : Int), .int .u32 (b : Int)] w fun e w' => e = .returned (.int .u32 (mulB a b : Nat)) ∧ w' = w := by
  go_enter Tryz.func54, Tryz.ntmps54
  go_wp2_with fail
  go_loop [0, 5, 6] (fun x p i => ∃ (n a' p' : Nat), n ≤ 8 ∧ i = .int .i64 (n : Int) ∧ x = .int .u32 (a' : Int) ∧ p = .int .u32 (p' : Int) ∧ a' < 256 ∧ p' < 256 ∧ Hid (gm (8 - n) a' (b / 2 ^ n) p' = mulB a b)) (fun _ _ i => 8 - (cipIntOf i).toNat)
  case atStart => exact ⟨0, a, 0, by omega, rfl, rfl, rfl, ha, by omega, by show gm 8 a (b / 2 ^ 0) 0 = _; rw [Nat.pow_zero, Nat.div_one]; rfl⟩
  case round =>
    obtain ⟨n, a', p', hn, rfl, rfl, rfl, ha', hp', HG⟩ := hrel
    by_cases hlt : n < 8
    · have hx := xt_lt ha'
      have hpx := xor_byte hp' ha'
      have HS : Hid (gm (8 - n) a' (b / 2 ^ n) p' = gm (8 - (n + 1)) (xt a') (b / 2 ^ (n + 1)) (if b / 2 ^ n % 2 = 1 then p' ^^^ a' else p')) := by
        show _ = _
        rw [show 8 - n = (8 - (n + 1)) + 1 by omega, gm, div_pow_succ]
      have hxor : bits .xor .u32 (p' : Int) (a' : Int) = ((p' ^^^ a' : Nat) : Int) := u32_xor_nat p' a' (by omega) (by omega)
      have hcast : ((b : Int) / 2 ^ n).tmod 2 = ((b / 2 ^ n % 2 : Nat) : Int) := by
        have e : (b : Int) / 2 ^ n = ((b / 2 ^ n : Nat) : Int) := by rw [Int.natCast_ediv, Int.natCast_pow]; rfl
        rw [e, Int.tmod_eq_emod_of_nonneg (Int.natCast_nonneg _)]; omega
      by_cases hb1 : b / 2 ^ n % 2 = 1
      · have hbit : (((b : Int) / 2 ^ n).tmod 2 == 1) = true := beq_iff_eq.2 (by rw [hcast, hb1]; rfl)
        rw [if_pos hb1] at HS
        have HR : Hid (gm (8 - (n + 1)) (xt a') (b / 2 ^ (n + 1)) (p' ^^^ a') = mulB a b) := HS.out.symm.trans HG.out
        clear hcast hb1 HS HG
        generalize p' ^^^ a' = p2 at hxor hpx HR
        by_cases hl : a' < 128
        · rw [xt_low hl] at hx HR
          go_wp2_with fail
          go_round
          case rel => exact ⟨n + 1, 2 * a', p2, by omega, by go_num, by go_num, rfl, hx, hpx, HR⟩
          case measure => simp [cipIntOf]; omega
        · have hy : bits .xor .u32 ((a' : Int) * 2) 283 = ((xt a' : Nat) : Int) := by
            rw [xt_high hl, show (a' : Int) * 2 = ((2 * a' : Nat) : Int) by omega]; exact u32_xor_nat (2 * a') 283 (by omega) (by omega)
          generalize xt a' = x2 at hx hy HR
          go_wp2_with fail
          go_round
          case rel => exact ⟨n + 1, x2, p2, by omega, by go_num, by rfl, rfl, hx, hpx, HR⟩
          case measure => simp [cipIntOf]; omega
      · have hbit : (((b : Int) / 2 ^ n).tmod 2 == 1) = false := beq_eq_false_iff_ne.2 (by rw [hcast]; omega)
        rw [if_neg hb1] at HS
        have HR : Hid (gm (8 - (n + 1)) (xt a') (b / 2 ^ (n + 1)) p' = mulB a b) := HS.out.symm.trans HG.out
        clear hcast hb1 HS HG
        by_cases hl : a' < 128
        · rw [xt_low hl] at hx HR
          go_wp2_with fail
          go_round
          case rel => exact ⟨n + 1, 2 * a', p', by omega, by go_num, by go_num, rfl, hx, hp', HR⟩
          case measure => simp [cipIntOf]; omega
        · have hy : bits .xor .u32 ((a' : Int) * 2) 283 = ((xt a' : Nat) : Int) := by
            rw [xt_high hl, show (a' : Int) * 2 = ((2 * a' : Nat) : Int) by omega]; exact u32_xor_nat (2 * a') 283 (by omega) (by omega)
          generalize xt a' = x2 at hx hy HR
          go_wp2_with fail
          go_round
          case rel => exact ⟨n + 1, x2, p', by omega, by go_num, by rfl, rfl, hx, hp', HR⟩
          case measure => simp [cipIntOf]; omega
    · obtain rfl : n = 8 := by omega
      have HR : Hid (p' = mulB a b) := HG.out
      go_wp2_with fail
      go_ret
      exact ⟨by rw [← HR.out]; rfl, rfl⟩

set_option maxRecDepth 100000 in
theorem stimes_byte (x : Nat) (w : World) (hx : x < 256) :
    Calls Tryz.prog 87 #[.int .u32 (x : Int)] w fun e w' => e = .returned (.int .u32 (xt x : Nat)) ∧ w' = w := by
  have h1 : bits .and .u32 ((x : Int) / 128) 16843009 = ((x / 128 : Nat) : Int) := by
    have e : (x : Int) / 128 = ((x / 128 : Nat) : Int) := by omega
    rw [e]
    have k : ∀ y : Fin 2, y.val &&& 16843009 = y.val := by decide +kernel
    exact (u32_and_nat (x / 128) 16843009 (by omega) (by omega)).trans (congrArg _ (k ⟨x / 128, by omega⟩))
  have h2 : bits .and .u32 (x : Int) 2139062143 = ((x % 128 : Nat) : Int) := by
    have k : ∀ y : Fin 256, y.val &&& 2139062143 = y.val % 128 := by decide +kernel
    exact (u32_and_nat x 2139062143 (by omega) (by omega)).trans (congrArg _ (k ⟨x, hx⟩))
  have h3 : bits .xor .u32 (((x % 128 : Nat) : Int) * 2) (((x / 128 : Nat) : Int) * 27) = ((xt x : Nat) : Int) := by
    rw [show ((x % 128 : Nat) : Int) * 2 = ((x % 128 * 2 : Nat) : Int) by omega, show ((x / 128 : Nat) : Int) * 27 = ((x / 128 * 27 : Nat) : Int) by omega,
      u32_xor_nat (x % 128 * 2) (x / 128 * 27) (by omega) (by omega)]
    have k : ∀ y : Fin 256, (y.val % 128 * 2) ^^^ (y.val / 128 * 27) = xt y.val := by decide +kernel
    exact congrArg _ (k ⟨x, hx⟩)
  have hm : x % 128 < 128 := by omega
  have hd : x / 128 < 2 := by omega
  generalize x % 128 = m at h2 h3 hm
  generalize x / 128 = d at h1 h3 hd
  generalize xt x = r at h3
  go_enter Tryz.func87, Tryz.ntmps87
  go_wp2_with fail
  go_ret
  exact ⟨rfl, rfl⟩
set_option maxRecDepth 100000 in
set_option maxHeartbeats 1000000 in
theorem times_any (a b : Nat) (w : World) (ha : a < 4294967296) (hb : b < 4294967296) :
    Calls Tryz.prog 82 #[.int .u32 (a : Int), .int .u32 (b : Int)] w fun e w' => e = .returned (.int .u32 (mulB (a % 256) (b % 256) : Nat)) ∧ w' = w := by
  go_enter Tryz.func82, Tryz.ntmps82
  go_wp2_with fail
  go_loop [0, 1, 5] (fun x y p => ∃ (n a' b' p' : Nat), x = .int .u32 (a' : Int) ∧ y = .int .u32 (b' : Int) ∧ p = .int .u32 (p' : Int) ∧ a' < 256 ∧ b' < 256 ∧ p' < 256 ∧ Hid (b' < 2 ^ n) ∧ Hid (gm n a' b' p' = mulB (a % 256) (b % 256))) (fun _ y _ => (cipIntOf y).toNat)
  case atStart => exact ⟨8, a % 256, b % 256, 0, by go_num, by go_num, rfl, by omega, by omega, by omega, by show b % 256 < 256; omega, rfl⟩
  case round =>
    obtain ⟨n, a', b', p', rfl, rfl, rfl, ha', hb', hp', HN, HG⟩ := hrel
    by_cases hz : 0 < b'
    · obtain ⟨m, rfl⟩ : ∃ m, n = m + 1 := by
        rcases n with _ | m
        · exact absurd HN.out (by rw [Nat.pow_zero]; omega)
        · exact ⟨m, rfl⟩
      have hx := xt_lt ha'
      have hpx := xor_byte hp' ha'
      have HN2 : Hid (b' / 2 < 2 ^ m) := by show b' / 2 < 2 ^ m; have := HN.out; rw [Nat.pow_succ] at this; omega
      have hxor : bits .xor .u32 (p' : Int) (a' : Int) = ((p' ^^^ a' : Nat) : Int) := u32_xor_nat p' a' (by omega) (by omega)
      have hand : bits .and .u32 (b' : Int) 1 = (b' : Int) % 2 := bits_mask .u32 32 (by decide) (fun n _ _ => by rw [IntKind.wrap_u32]; omega) 1 (by decide) (b' : Int) (by omega) (by omega)
      have HS : Hid (gm (m + 1) a' b' p' = gm m (xt a') (b' / 2) (if b' % 2 = 1 then p' ^^^ a' else p')) := rfl
      by_cases hb1 : b' % 2 = 1
      · have hbit : ((b' : Int) % 2 == 1) = true := beq_iff_eq.2 (by omega)
        rw [if_pos hb1] at HS
        have HR : Hid (gm m (xt a') (b' / 2) (p' ^^^ a') = mulB (a % 256) (b % 256)) := HS.out.symm.trans HG.out
        clear hb1 HS HG HN
        generalize p' ^^^ a' = p2 at hxor hpx HR
        go_wp2_with fail
        refine (stimes_byte a' _ ha').mono ?_
        rintro e w' ⟨rfl, rfl⟩
        go_wp2_with fail
        go_round
        case rel => exact ⟨m, xt a', b' / 2, p2, rfl, by go_num, rfl, hx, by omega, hpx, HN2, HR⟩
        case measure => simp [cipIntOf]; omega
      · have hbit : ((b' : Int) % 2 == 1) = false := beq_eq_false_iff_ne.2 (by omega)
        rw [if_neg hb1] at HS
        have HR : Hid (gm m (xt a') (b' / 2) p' = mulB (a % 256) (b % 256)) := HS.out.symm.trans HG.out
        clear hb1 HS HG HN
        go_wp2_with fail
        refine (stimes_byte a' _ ha').mono ?_
        rintro e w' ⟨rfl, rfl⟩
        go_wp2_with fail
        go_round
        case rel => exact ⟨m, xt a', b' / 2, p', rfl, by go_num, rfl, hx, by omega, hp', HN2, HR⟩
        case measure => simp [cipIntOf]; omega
    · obtain rfl : b' = 0 := by omega
      have HR : Hid (p' = mulB (a % 256) (b % 256)) := by show _ = _; have := HG.out; rwa [gm_zero] at this
      go_wp2_with fail
      go_ret
      exact ⟨by rw [← HR.out]; rfl, rfl⟩
end Go.Proofs.YtnkahdidelhdaacGreatDoor

/-!   The byte that takes the place of a byte: what both Sub answer. -/
namespace Go.Proofs.YtnkahdidelhdaacGreatDoor
open Go.RowKit

/-- a byte turned to the left -/
def rot8 (b i : Nat) : Nat := (b * 2 ^ i % 256) ||| (b / 2 ^ (8 - i))
def sub8 (b : Nat) : Nat → Nat
  | 0 => 99
  | i + 1 => sub8 b i ^^^ rot8 b i
def subB (b : Nat) : Nat := sub8 b 5
/-- seven squares, and their product -/
def invF : Nat → Nat → Nat → Nat
  | 0, _, o => o
  | n + 1, x, o => invF n (mulB x x) (mulB o (mulB x x))
def invB (x : Nat) : Nat := invF 7 x 1
/-- what takes a byte's place -/
def sbox (x : Nat) : Nat := subB (invB x)
theorem rot8_lt : ∀ b, b < 256 → ∀ i, i < 5 → rot8 b i < 256 := by
  have k : ∀ b : Fin 256, ∀ i : Fin 5, rot8 b.val i.val < 256 := by decide +kernel
  exact fun b hb i hi => k ⟨b, hb⟩ ⟨i, hi⟩
theorem rot8_alt : ∀ b, b < 256 → ∀ i, i < 5 → ((b * 2 ^ i) ||| (b / 2 ^ (8 - i))) % 256 = rot8 b i := by
  have k : ∀ b : Fin 256, ∀ i : Fin 5, ((b.val * 2 ^ i.val) ||| (b.val / 2 ^ (8 - i.val))) % 256 = rot8 b.val i.val := by decide +kernel
  exact fun b hb i hi => k ⟨b, hb⟩ ⟨i, hi⟩
theorem sub8_lt (b : Nat) (hb : b < 256) : ∀ i, i ≤ 5 → sub8 b i < 256
  | 0, _ => by show 99 < 256; omega
  | i + 1, h => xor_byte (sub8_lt b hb i (by omega)) (rot8_lt b hb i (by omega))
theorem small_pow (b n : Nat) (hb : b < 256) (hn : n < 5) : b * 2 ^ n < 4096 := by
  match n, hn with
  | 0, _ => omega
  | 1, _ => omega
  | 2, _ => omega
  | 3, _ => omega
  | 4, _ => omega
theorem invF_lt : ∀ n x o, x < 256 → o < 256 → invF n x o < 256
  | 0, _, _, _, h => h
  | n + 1, _, _, hx, ho => invF_lt n _ _ (mulB_lt _ _ hx) (mulB_lt _ _ ho)
theorem invB_lt {x : Nat} (hx : x < 256) : invB x < 256 := invF_lt 7 x 1 hx (by omega)
theorem sbox_lt {x : Nat} (hx : x < 256) : sbox x < 256 := sub8_lt _ (invB_lt hx) 5 (Nat.le_refl _)

set_option maxRecDepth 100000 in
set_option maxHeartbeats 1000000 in
theorem sinv_any (x : Nat) (w : World) (hx : x < 256) :
    Calls Tryz.prog 65 #[.int .u32 (x : Int)] w fun e w' => e = .returned (.int .u32 (invB x : Nat)) ∧ w' = w := by
  go_enter Tryz.func65, Tryz.ntmps65
  go_wp2_with fail
  go_loop [0, 3, 4] (fun v o c => ∃ (n v' o' : Nat), n ≤ 7 ∧ c = .int .i64 (n : Int) ∧ v = .int .u32 (v' : Int) ∧ o = .int .u32 (o' : Int) ∧ v' < 256 ∧ o' < 256 ∧ Hid (invF (7 - n) v' o' = invB x)) (fun _ _ c => 7 - (cipIntOf c).toNat)
  case atStart => exact ⟨0, x, 1, by omega, rfl, rfl, rfl, hx, by omega, rfl⟩
  case round =>
    obtain ⟨n, v', o', hn, rfl, rfl, rfl, hv, ho, HI⟩ := hrel
    by_cases hlt : n < 7
    · have HR : Hid (invF (7 - (n + 1)) (mulB v' v') (mulB o' (mulB v' v')) = invB x) := by
        have := HI.out
        rw [show 7 - n = (7 - (n + 1)) + 1 by omega, invF] at this
        exact this
      have hv2 := mulB_lt v' v' hv
      have ho2 := mulB_lt o' (mulB v' v') ho
      have HO : Hid (o' < 256) := ho
      go_wp2_with fail
      refine (stimes_any v' v' _ hv).mono ?_
      rintro e w' ⟨rfl, hw⟩
      subst w'
      generalize mulB v' v' = v2 at hv2 ho2 HR ⊢
      go_wp2_with fail
      refine (stimes_any o' v2 _ HO.out).mono ?_
      rintro e w' ⟨rfl, hw⟩
      subst w'
      go_wp2_with fail
      go_round
      case rel => exact ⟨n + 1, v2, _, by omega, by go_num, rfl, rfl, hv2, ho2, HR⟩
      case measure => simp [cipIntOf]; omega
    · obtain rfl : n = 7 := by omega
      have HR : Hid (o' = invB x) := HI.out
      go_wp2_with fail
      go_ret
      exact ⟨by rw [← HR.out]; rfl, rfl⟩

theorem sub_step (b n : Nat) (hb : b < 256) (hn : n < 5) :
    bits .xor .u32 (sub8 b n : Int) ((bits .or .u32 ((b : Int) * 2 ^ n % 4294967296) ((b : Int) / 2 ^ (8 - n))).tmod 256) = ((sub8 b (n + 1) : Nat) : Int) := by
  have h1 := small_pow b n hb hn
  have e1 : (b : Int) * 2 ^ n % 4294967296 = ((b * 2 ^ n : Nat) : Int) := by
    have e : (b : Int) * 2 ^ n = ((b * 2 ^ n : Nat) : Int) := by rw [Int.natCast_mul, Int.natCast_pow]; rfl
    rw [e]; omega
  have e2 : (b : Int) / 2 ^ (8 - n) = ((b / 2 ^ (8 - n) : Nat) : Int) := by rw [Int.natCast_ediv, Int.natCast_pow]; rfl
  have h2 : b / 2 ^ (8 - n) < 4294967296 := Nat.lt_of_le_of_lt (Nat.div_le_self _ _) (by omega)
  have h3 := sub8_lt b hb n (by omega)
  have h4 := rot8_lt b hb n hn
  rw [e1, e2, u32_or_nat _ _ (by omega) h2, Int.tmod_eq_emod_of_nonneg (Int.natCast_nonneg _)]
  rw [show ((b * 2 ^ n ||| b / 2 ^ (8 - n) : Nat) : Int) % 256 = (((b * 2 ^ n ||| b / 2 ^ (8 - n)) % 256 : Nat) : Int) by omega, rot8_alt b hb n hn, u32_xor_nat _ _ (by omega) (by omega)]
  rfl

set_option maxRecDepth 100000 in
set_option maxHeartbeats 1000000 in
theorem ssub_any (x : Nat) (w : World) (hx : x < 4294967296) :
    Calls Tryz.prog 52 #[.int .u32 (x : Int)] w fun e w' => e = .returned (.int .u32 (sbox (x % 256) : Nat)) ∧ w' = w := by
  have HI : Hid (∀ w, Calls Tryz.prog 65 #[.int .u32 ((x : Int) % 256)] w fun e w' => e = .returned (.int .u32 (invB (x % 256) : Nat)) ∧ w' = w) := fun w => by
    have := sinv_any (x % 256) w (by omega)
    rwa [show ((x % 256 : Nat) : Int) = (x : Int) % 256 by omega] at this
  have HS : Hid (sbox (x % 256) = sub8 (invB (x % 256)) 5) := rfl
  have hb := invB_lt (x := x % 256) (by omega)
  generalize sbox (x % 256) = R at HS
  generalize invB (x % 256) = b at HI HS hb
  go_enter Tryz.func52, Tryz.ntmps52
  go_wp2_with fail
  refine (HI.out _).mono ?_
  rintro e w' ⟨rfl, hw⟩
  subst w'
  go_wp2_with fail
  go_loop [4, 5] (fun o c => ∃ (n : Nat), n ≤ 5 ∧ c = .int .i64 (n : Int) ∧ o = .int .u32 (sub8 b n : Nat)) (fun _ c => 5 - (cipIntOf c).toNat)
  case atStart => exact ⟨0, by omega, rfl, rfl⟩
  case round =>
    obtain ⟨n, hn, rfl, rfl⟩ := hrel
    by_cases hlt : n < 5
    · have HST : Hid _ := sub_step b n hb hlt
      go_wp2_with fail
      go_round
      case rel => exact ⟨n + 1, by omega, by go_num, by rw [HST.out]⟩
      case measure => simp [cipIntOf]; omega
    · obtain rfl : n = 5 := by omega
      go_wp2_with fail
      go_ret
      exact ⟨by rw [HS.out]; rfl, rfl⟩

set_option maxRecDepth 100000 in
set_option maxHeartbeats 1000000 in
theorem rot8_any (b n : Nat) (w : World) (hb : b < 256) (hn : n < 5) :
    Calls Tryz.prog 86 #[.int .u8 (b : Int), .int .i64 (n : Int)] w fun e w' => e = .returned (.int .u8 (rot8 b n : Nat)) ∧ w' = w := by
  have ha : bits .and .u64 (n : Int) 7 = (n : Int) := by
    have := bits_mask .u64 64 (by decide) (fun n _ _ => by rw [IntKind.wrap_u64]; omega) 3 (by decide) (n : Int) (by omega) (by omega)
    exact this.trans (by omega)
  have h1 := small_pow b n hb hn
  have e2 : (b : Int) / 2 ^ (8 - n) = ((b / 2 ^ (8 - n) : Nat) : Int) := by rw [Int.natCast_ediv, Int.natCast_pow]; rfl
  have h2 : b / 2 ^ (8 - n) < 256 := Nat.lt_of_le_of_lt (Nat.div_le_self _ _) hb
  have HOR : Hid (bits .or .u8 ((b : Int) * 2 ^ n % 256) ((b : Int) / 2 ^ (8 - n)) = ((rot8 b n : Nat) : Int)) := by
    show _ = _
    have e : (b : Int) * 2 ^ n = ((b * 2 ^ n : Nat) : Int) := by rw [Int.natCast_mul, Int.natCast_pow]; rfl
    rw [e, e2, show ((b * 2 ^ n : Nat) : Int) % 256 = ((b * 2 ^ n % 256 : Nat) : Int) by omega, u8_or_nat _ _ (by omega) h2]
    rfl
  clear e2
  have hn64 : (n : Int) < 8 := by omega
  go_enter Tryz.func86, Tryz.ntmps86
  go_wp2_with fail
  go_ret
  exact ⟨by rw [← HOR.out]; rfl, rfl⟩
set_option maxRecDepth 100000 in
set_option maxHeartbeats 1000000 in
theorem subOf_any (b : Nat) (w : World) (hb : b < 256) :
    Calls Tryz.prog 81 #[.int .u8 (b : Int)] w fun e w' => e = .returned (.int .u32 (subB b : Nat)) ∧ w' = w := by
  go_enter Tryz.func81, Tryz.ntmps81
  go_wp2_with fail
  go_loop [3, 5] (fun o c => ∃ (n : Nat), n ≤ 5 ∧ c = .int .i64 (n : Int) ∧ o = .int .u8 (sub8 b n : Nat)) (fun _ c => 5 - (cipIntOf c).toNat)
  case atStart => exact ⟨0, by omega, rfl, rfl⟩
  case round =>
    obtain ⟨n, hn, rfl, rfl⟩ := hrel
    by_cases hlt : n < 5
    · have h3 := sub8_lt b hb n (by omega)
      have h4 := rot8_lt b hb n hlt
      have HX : Hid (bits .xor .u8 (sub8 b n : Int) (rot8 b n : Int) = ((sub8 b (n + 1) : Nat) : Int)) := u8_xor_nat _ _ h3 h4
      have HR : Hid (∀ w, Calls Tryz.prog 86 #[.int .u8 (b : Int), .int .i64 (n : Int)] w fun e w' => e = .returned (.int .u8 (rot8 b n : Nat)) ∧ w' = w) := fun w => rot8_any b n w hb hlt
      generalize rot8 b n = r at HX HR h4
      go_wp2_with fail
      refine (HR.out _).mono ?_
      rintro e w' ⟨rfl, hw⟩
      subst w'
      go_wp2_with fail
      go_round
      case rel => exact ⟨n + 1, by omega, by go_num, by rw [HX.out]⟩
      case measure => simp [cipIntOf]; omega
    · obtain rfl : n = 5 := by omega
      have h3 := sub8_lt b hb 5 (by omega)
      have HB : Hid (subB b = sub8 b 5) := rfl
      go_wp2_with fail
      go_ret
      exact ⟨by rw [HB.out]; rfl, rfl⟩
end Go.Proofs.YtnkahdidelhdaacGreatDoor

/-!   The table of the bytes that take the bytes' places: what the code makes of it, and its Sub. -/
namespace Go.Proofs.YtnkahdidelhdaacGreatDoor
open Go.RowKit

/-- the powers of 3 and of f6, so many -/
def seqF : Nat → Nat → Nat → List (Nat × Nat)
  | 0, _, _ => []
  | n + 1, p, v => (p, v) :: seqF n (mulB p 3) (mulB v 246)
theorem seq_ok : ∀ x ∈ seqF 255 1 1, x.1 < 256 ∧ x.2 < 256 ∧ subB x.2 = sbox x.1 := by
  have k : (seqF 255 1 1).all (fun x => decide (x.1 < 256) && decide (x.2 < 256) && decide (subB x.2 = sbox x.1)) = true := by decide +kernel
  intro x hx
  have := List.all_eq_true.1 k x hx
  simp only [Bool.and_eq_true, decide_eq_true_eq] at this
  exact ⟨this.1.1, this.1.2, this.2⟩
theorem seq_all : ∀ j, j < 256 → j = 0 ∨ ∃ v, (j, v) ∈ seqF 255 1 1 := by
  have k : ∀ j : Fin 256, (decide (j.val = 0) || (seqF 255 1 1).any (fun x => decide (x.1 = j.val))) = true := by decide +kernel
  intro j hj
  have := k ⟨j, hj⟩
  simp only [Bool.or_eq_true, decide_eq_true_eq, List.any_eq_true] at this
  rcases this with h | ⟨x, hx, he⟩
  · exact Or.inl h
  · exact Or.inr ⟨x.2, by rw [← he]; exact hx⟩
theorem sub_zero : subB 0 = sbox 0 := by decide +kernel
/-- the table's cells -/
def sbTab : Array Value := Array.ofFn fun i : Fin 256 => Value.int .u32 (sbox i.val : Nat)
theorem sbTab_size : sbTab.size = 256 := by simp [sbTab]
theorem sbTab_at (j : Nat) (h : j < 256) : sbTab[j]? = some (.int .u32 (sbox j : Nat)) := by simp [sbTab, h]
theorem sbTab_one : sbTab.all (·.oneCell') = true := by
  rw [Array.all_eq_true]
  intro i hi
  simp only [sbTab, Array.getElem_ofFn]
  rfl
theorem sbTab_eq {cur : Array Value} (hs : cur.size = 256) (h : ∀ j, j < 256 → cur[j]? = some (.int .u32 (sbox j : Nat))) : cur = sbTab := by
  apply Array.ext_getElem?
  intro i
  by_cases hi : i < 256
  · rw [h i hi, sbTab_at i hi]
  · rw [Array.getElem?_eq_none (by omega), Array.getElem?_eq_none (by rw [sbTab_size]; omega)]
structure TW (w wr : World) (cur : Array Value) : Prop where
  below : Below w.heap.size w wr
  res : ∃ Z : Array Value, Z.size = 256 ∧ wr.heap[w.heap.size]? = some (.cells Z 117 (0, 0))
  row : wr.heap[w.heap.size + 1]? = some (.cells cur 117 (0, 0))
  size : cur.size = 256
theorem TW.set {w wr : World} {cur : Array Value} (h : TW w wr cur) (t : Nat) (v : Value) : TW w (wr.setCell ⟨w.heap.size + 1, t, none⟩ v) (cur.setIfInBounds t v) := by
  obtain ⟨h1, ⟨Z, hZ, h2⟩, h3, h4⟩ := h
  exact ⟨h1.setCell (p := ⟨w.heap.size + 1, t, none⟩) (by show _ ≤ w.heap.size + 1; omega) v, ⟨Z, hZ, by rw [heap_setCell_other wr ⟨w.heap.size + 1, t, none⟩ _ v (by show _ ≠ w.heap.size + 1; omega)]; exact h2⟩, heap_setCell_same wr _ t _ _ _ h3, by simpa using h4⟩
theorem TW.cell {w wr : World} {cur : Array Value} (h : TW w wr cur) (t : Nat) : wr.cell? ⟨w.heap.size + 1, t, none⟩ = cur[t]? := cell_of_row wr _ t _ _ _ h.row
theorem TW.fz {w wr : World} {cur : Array Value} (h : TW w wr cur) (t : Nat) : wr.frozen? ⟨w.heap.size + 1, t, none⟩ = false := frozen_of_row wr _ t _ _ h.row

set_option maxRecDepth 100000 in
set_option maxHeartbeats 4000000 in
theorem tab_any (w : World) :
    Calls Tryz.prog 73 #[] w fun e w' => e = .returned (.agg sbTab) ∧ Below w.heap.size w w' := by
  obtain ⟨Z, hZ⟩ : ∃ Z : Array Value, Z = Array.replicate 256 (Value.int .u32 0) := ⟨_, rfl⟩
  have hz : ∀ w, (zeroValue 117).run Tryz.prog w = .ok (.agg Z) w := by rw [hZ]; exact (zero_of_info (n := 256) (by kernel_rfl)).1
  have hi41 : (Tryz.prog.info? 117).map (·.size) = some 256 := (zero_of_info (v := .agg (Array.replicate 256 (Value.int .u32 0))) (by kernel_rfl)).2
  have hZs : Z.size = 256 := by rw [hZ]; simp
  have hZc : (Value.agg Z).cells = Z := by rw [hZ]; kernel_rfl
  have hZ0 : Z ≠ #[] := by rw [hZ]; intro h; have := congrArg Array.size h; simp at this
  obtain ⟨C0, hC0⟩ : ∃ C0, C0 = Z.setIfInBounds 0 (.int .u32 (sbox 0 : Nat)) := ⟨_, rfl⟩
  have HC0s : Hid (C0.size = 256) := by show _ = _; rw [hC0]; simpa using hZs
  have HONE : Hid (C0.all (·.oneCell') = true) := by
    show _ = _
    rw [hC0, Array.all_eq_true]
    intro i hi
    by_cases e : 0 = i
    · subst e; simp [Value.oneCell']
    · rw [Array.getElem_setIfInBounds_ne (by simpa using hi) e]
      simp [hZ, Value.oneCell']
  have HC00 : Hid (C0[0]? = some (.int .u32 (sbox 0 : Nat))) := by show _ = _; rw [hC0, Array.getElem?_setIfInBounds_self_of_lt (by omega)]
  have HIC : Hid ((Tryz.prog.info? 117).map (·.size) = some C0.size) := by show _ = _; rw [HC0s.out]; exact hi41
  have HZC : Hid (Z.size = C0.size) := by show _ = _; rw [HC0s.out]; exact hZs
  have HST : Hid (∀ o : Obj, ((w.alloc o).alloc (.cells Z 117)).heap[w.heap.size + 1]? = some (.cells Z 117 (0, 0))) := fun o => heap_alloc2_new w o _
  clear hZ
  have HI : Hid _ := hi41
  have HCE : Hid (C0 = Z.setIfInBounds 0 (.int .u32 (sbox 0 : Nat))) := hC0
  clear hC0
  clear hi41
  have HS0 : Hid (∀ w, Calls Tryz.prog 81 #[.int .u8 0] w fun e w' => e = .returned (.int .u32 (sbox 0 : Nat)) ∧ w' = w) := fun w => by
    have := subOf_any 0 w (by omega)
    rwa [sub_zero] at this
  go_enter Tryz.func73, Tryz.ntmps73
  go_wp2_with fail
  refine (HS0.out _).mono ?_
  rintro e w' ⟨rfl, hw⟩
  subst w'
  go_wp2_with (first
    | (refine wpList_store_row ?_ 117 (.tmp 1) (.tmp 5) ?_ (w.heap.size + 1) C0 ?_ ?_ 117 Z ?_ HIC.out HZC.out HONE.out ?_; rfl; rfl; rfl; (rw [HCE.out]; rfl); exact HST.out _))
  have HTW : Hid (TW w (((w.alloc (.cells Z 117)).alloc (.cells Z 117)).setRow (w.heap.size + 1) C0) C0) := by
    refine ⟨(((Below.refl _ w).alloc (Nat.le_refl _) _).alloc (by simp) _).trans ⟨rfl, rfl, rfl, by simp, fun k hk => setRow_other _ _ _ _ (by omega)⟩, ⟨Z, hZs, ?_⟩, setRow_heap _ _ Z C0 _ (0, 0) (HST.out _), HC0s.out⟩
    rw [setRow_other _ _ _ _ (by omega)]
    exact heap_alloc2_old w _ _
  clear hz hZc hZs hZ0 HCE HONE HIC HZC HST HS0
  go_loopw [2, 3, 6] (fun x y c wr => ∃ (n p v : Nat) (cur : Array Value) (done : List (Nat × Nat)), n ≤ 255 ∧ c = .int .i64 (n : Int) ∧ x = .int .u32 (p : Int) ∧ y = .int .u32 (v : Int) ∧ p < 256 ∧ v < 256 ∧ Hid (seqF 255 1 1 = done ++ seqF (255 - n) p v) ∧ Hid (TW w wr cur) ∧ Hid (cur[0]? = some (.int .u32 (sbox 0 : Nat))) ∧ Hid (∀ x ∈ done, cur[x.1]? = some (.int .u32 (sbox x.1 : Nat))))
    (fun _ _ c _ => 255 - (cipIntOf c).toNat)
  case atStart => exact ⟨0, 1, 1, C0, [], by omega, rfl, rfl, rfl, by omega, by omega, rfl, HTW, HC00, fun x hx => by cases hx⟩
  case round =>
    obtain ⟨n, p, v, cur, done, hn, rfl, rfl, rfl, hp, hv, HSEQ, HT, H0, HD⟩ := hrel
    clear HTW HC00 HC0s
    by_cases hlt : n < 255
    · have HSE : Hid (seqF (255 - n) p v = (p, v) :: seqF (255 - (n + 1)) (mulB p 3) (mulB v 246)) := by
        show _ = _
        rw [show 255 - n = (255 - (n + 1)) + 1 by omega, seqF]
      have hok := seq_ok (p, v) (by rw [HSEQ.out, HSE.out]; simp)
      have hsv : subB v = sbox p := hok.2.2
      have HSB : Hid (∀ w, Calls Tryz.prog 81 #[.int .u8 (v : Int)] w fun e w' => e = .returned (.int .u32 (sbox p : Nat)) ∧ w' = w) := fun w => by
        have := subOf_any v w hv
        rwa [hsv] at this
      have HM1 : Hid (∀ w, Calls Tryz.prog 82 #[.int .u32 (p : Int), .int .u32 3] w fun e w' => e = .returned (.int .u32 (mulB p 3 : Nat)) ∧ w' = w) := fun w => by
        have := times_any p 3 w (by omega) (by omega)
        rwa [Nat.mod_eq_of_lt hp] at this
      have HM2 : Hid (∀ w, Calls Tryz.prog 82 #[.int .u32 (v : Int), .int .u32 246] w fun e w' => e = .returned (.int .u32 (mulB v 246 : Nat)) ∧ w' = w) := fun w => by
        have := times_any v 246 w (by omega) (by omega)
        rwa [Nat.mod_eq_of_lt hv] at this
      have hp2 := mulB_lt p 3 hp
      have hv2 := mulB_lt v 246 hv
      have HSQ2 : Hid (seqF 255 1 1 = (done ++ [(p, v)]) ++ seqF (255 - (n + 1)) (mulB p 3) (mulB v 246)) := by
        show _ = _
        rw [HSEQ.out, HSE.out, List.append_assoc]; rfl
      obtain ⟨z, hx⟩ : ∃ z, cur[p]? = some z := ⟨_, Array.getElem?_eq_getElem (by have := HT.out.size; omega)⟩
      have hcx := (HT.out.cell p).trans hx
      have hfx := HT.out.fz p
      have HN : Hid (∀ j, (cur.setIfInBounds p (.int .u32 (sbox p : Nat)))[j]? = if p = j then some (.int .u32 (sbox p : Nat)) else cur[j]?) := fun j => by
        by_cases e : p = j
        · subst e; rw [if_pos rfl, Array.getElem?_setIfInBounds_self_of_lt (by have := HT.out.size; omega)]
        · rw [if_neg e, Array.getElem?_setIfInBounds_ne e]
      have HT2 : Hid (TW w (wr.setCell ⟨w.heap.size + 1, p, none⟩ (.int .u32 (sbox p : Nat))) (cur.setIfInBounds p (.int .u32 (sbox p : Nat)))) := HT.out.set p _
      have H02 : Hid ((cur.setIfInBounds p (.int .u32 (sbox p : Nat)))[0]? = some (.int .u32 (sbox 0 : Nat))) := by
        show _ = _
        rw [HN.out]
        by_cases e : p = 0
        · subst e; rw [if_pos rfl]
        · rw [if_neg e]; exact H0.out
      have HD2 : Hid (∀ x ∈ done ++ [(p, v)], (cur.setIfInBounds p (.int .u32 (sbox p : Nat)))[x.1]? = some (.int .u32 (sbox x.1 : Nat))) := fun x hx => by
        rw [HN.out]
        by_cases e : p = x.1
        · rw [if_pos e, e]
        · rw [if_neg e]
          rcases List.mem_append.1 hx with h | h
          · exact HD.out x h
          · simp at h; subst h; exact absurd rfl e
      clear hok hsv hx HSE HSEQ HD H0 HN
      generalize mulB p 3 = p2 at HM1 hp2 HSQ2
      generalize mulB v 246 = v2 at HM2 hv2 HSQ2
      generalize sbox p = sp at HSB HT2 H02 HD2
      go_wp2_with fail
      refine (HSB.out _).mono ?_
      rintro e w' ⟨rfl, hw⟩
      subst w'
      go_wp2_with fail
      refine (HM1.out _).mono ?_
      rintro e w' ⟨rfl, hw⟩
      subst w'
      go_wp2_with fail
      refine (HM2.out _).mono ?_
      rintro e w' ⟨rfl, hw⟩
      subst w'
      go_wp2_with fail
      go_roundw
      case rel => exact ⟨n + 1, p2, v2, _, _, by omega, by go_num, rfl, rfl, hp2, hv2, HSQ2, HT2, H02, HD2⟩
      case measure => simp [cipIntOf]; omega
    · obtain rfl : n = 255 := by omega
      have hall : ∀ j, j < 256 → cur[j]? = some (.int .u32 (sbox j : Nat)) := fun j hj => by
        rcases seq_all j hj with rfl | ⟨v, hm⟩
        · exact H0.out
        · have e := HSEQ.out
          rw [Nat.sub_self, seqF, List.append_nil] at e
          exact HD.out (j, v) (by rw [← e]; exact hm)
      obtain rfl : cur = sbTab := sbTab_eq HT.out.size hall
      obtain ⟨hb, ⟨Z, hZ, hres⟩, hrow, _⟩ := HT.out
      have hi52 : (Tryz.prog.info? 117).map (·.size) = some sbTab.size := by rw [sbTab_size]; exact HI.out
      have H1 : Hid _ := hrow
      have H2 : Hid _ := hres
      have H4 : Hid _ := hi52
      have H5 : Hid (Z.size = sbTab.size) := by show _ = _; rw [sbTab_size]; exact hZ
      have H3 : Hid _ := setRow_heap wr w.heap.size Z sbTab 117 (0, 0) hres
      have H6 : Hid (Below w.heap.size w (wr.setRow w.heap.size sbTab)) := hb.trans ⟨rfl, rfl, rfl, by simp, fun k hk => setRow_other _ _ _ _ (by omega)⟩
      clear hb hZ hres hrow hi52 HT hall HSEQ HD H0
      go_wp2_with (first
        | (refine wpList_load_row rfl 117 _ rfl (w.heap.size + 1) rfl 117 sbTab (0, 0) _ H1.out Tryz.underlying117 rfl H4.out ?_)
        | (refine wpList_store_row rfl 117 _ _ rfl w.heap.size sbTab rfl rfl 117 Z H2.out H4.out H5.out sbTab_one ?_))
      (try simp only [Exit.inBlock, Exit.then])
      exact bodyPost_ret (results_cell_row rfl _ _ w.heap.size 117 sbTab (0, 0) _ rfl H3.out Tryz.underlying117 rfl H4.out) rfl ⟨rfl, H6.out⟩

theorem index_tab (cs : Array Value) (j : Nat) (x : Int) (w : World) (hj : j < 256) (hc : cs[j]? = some (.int .u32 x)) :
    (Instr.index 117 (.agg cs) (.int .u32 (j : Int))).run Tryz.prog w = .ok (.int .u32 x) w := by
  have hs : (sizeOf 67).run Tryz.prog w = .ok 1 w := by kernel_rfl
  have ha : (isAgg 67).run Tryz.prog w = .ok false w := by kernel_rfl
  simp [Instr.index, asIntOf, run_underlying Tryz.underlying117, part, hs, ha, hc, Result.andThen]
  intro h; omega
end Go.Proofs.YtnkahdidelhdaacGreatDoor
