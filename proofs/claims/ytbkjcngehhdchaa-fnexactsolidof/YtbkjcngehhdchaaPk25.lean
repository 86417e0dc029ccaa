/-
  Several texts of this seat as one: Take, Read, NumMath.
-/
import Derived.Test.YtbkjcngehhdchaaPk01
import Derived.Test.YtbkjcngehhdchaaPk02
import Derived.WalkSpells
import Derived.Laws.BitsAllLaws

/-!   What TakeNum answers, the code's and the specification's, in plain words. -/
namespace Go.Proofs.Ytbkjcngehhdchaa
open Go.RowKit

set_option maxRecDepth 100000 in
set_option maxHeartbeats 1000000 in
theorem stake_any (s : ByteArray) (w : World) (hs : s.size ≤ maxLen) :
    Calls Try.prog 59 #[.string s] w fun e w' => e = .returned (takeOut s) ∧ Below w.heap.size w w' := by
  unfold maxLen at hs
  go_enter Try.func59, Try.ntmps59
  go_wp2
  go_loop [5, 6] (fun n i => ∃ (k : Nat) (X : Int), k ≤ s.size ∧ k ≤ 10 ∧ i = .int .i64 k ∧ n = .int .u64 X ∧ num s = rd X k (s.data.toList.drop k)) (fun _ i => s.size - (intOf i).toNat)
  case atStart => exact ⟨0, 0, by omega, by omega, rfl, rfl, rfl⟩
  case round =>
    obtain ⟨k, X, hk, hk10, rfl, rfl, hd⟩ := hrel
    have HD : Hid (num s = rd X k (s.data.toList.drop k)) := hd
    clear hd
    by_cases hlt : k < s.size
    · go_wp2
      · have h9 : (k : Int) = 9 := by assumption
        obtain rfl : k = 9 := by omega
        go_ret3
        exact ⟨by rw [takeOut_none (num_none HD.out hlt (by omega))]; rfl, Below.refl _ _⟩
      · have h9 : (k : Int) = 9 := by assumption
        obtain rfl : k = 9 := by omega
        have hz : ((s[9].toNat : Int) == 0) = true := by assumption
        have hz' := WalkArith.int_eq hz
        go_ret3
        exact ⟨by rw [takeOut_none (num_none HD.out hlt (by omega))]; rfl, Below.refl _ _⟩
      · have h9 : (k : Int) = 9 := by assumption
        obtain rfl : k = 9 := by omega
        have hz : ((s[9].toNat : Int) == 0) = false := by assumption
        have hz' := WalkArith.int_ne hz
        have H3 : Hid (takeOut s = _) := (takeOut_some (num_some HD.out hlt (by omega) (by omega) (by omega) (by omega))).trans (by rw [grp_nine _ _ (by omega)])
        clear HD
        go_region
        all_goals (go_wp2; go_ret3; exact ⟨by rw [H3.out]; rfl, (Below.refl _ _).drew⟩)
      · have hz : ((s[k].toNat : Int) == 0) = true := by assumption
        have hz' := WalkArith.int_eq hz
        go_ret3
        exact ⟨by rw [takeOut_none (num_none HD.out hlt (by omega))]; rfl, Below.refl _ _⟩
      · have hz : ((s[k].toNat : Int) == 0) = false := by assumption
        have hz' := WalkArith.int_ne hz
        have H3 : Hid (takeOut s = _) := takeOut_some (num_some HD.out hlt (by omega) (by omega) (by omega) (by omega))
        clear HD
        go_region
        all_goals (go_wp2; go_ret3; exact ⟨by rw [H3.out]; rfl, (Below.refl _ _).drew⟩)
      · have H3 : Hid (takeOut s = _) := takeOut_some (num_some HD.out hlt (by omega) (by omega) (by omega) (by omega))
        clear HD
        go_region
        all_goals (go_wp2; go_ret3; exact ⟨by rw [H3.out]; rfl, (Below.refl _ _).drew⟩)
      · go_round
        case rel => exact ⟨k + 1, _, by omega, by omega, by go_num, rfl, num_go HD.out hlt (by omega) (by omega) (by omega)⟩
        case measure => simp [intOf]; omega
      · go_ret3
        exact ⟨by rw [takeOut_none (num_ten HD.out (by omega))]; rfl, Below.refl _ _⟩
    · go_wp2
      go_ret3
      exact ⟨by rw [takeOut_none (num_end HD.out (by omega))]; rfl, Below.refl _ _⟩
end Go.Proofs.Ytbkjcngehhdchaa

/-!   What readNum and the code's TakeNum answer, in plain words. -/
namespace Go.Proofs.Ytbkjcngehhdchaa
open Go.RowKit

/-- what readNum tells -/
def numOut (s : ByteArray) : Value := match num s with
  | none => .tuple #[.int .u64 0, .int .i64 0]
  | some (X, u) => .tuple #[.int .u64 X, .int .i64 u]
theorem numOut_none {s : ByteArray} (h : num s = none) : numOut s = .tuple #[.int .u64 0, .int .i64 0] := by unfold numOut; rw [h]
theorem numOut_some {s : ByteArray} {X : Int} {u : Nat} (h : num s = some (X, u)) : numOut s = .tuple #[.int .u64 X, .int .i64 u] := by unfold numOut; rw [h]

set_option maxRecDepth 100000 in
set_option maxHeartbeats 1000000 in
theorem read_any (s : ByteArray) (w : World) (hs : s.size ≤ maxLen) :
    Calls Try.prog 65 #[.string s] w fun e w' => e = .returned (numOut s) ∧ w' = w := by
  unfold maxLen at hs
  go_enter Try.func65, Try.ntmps65
  go_wp2
  go_loop [4, 10] (fun n i => ∃ (k : Nat) (X : Int), k ≤ s.size ∧ k ≤ 10 ∧ i = .int .i64 k ∧ n = .int .u64 X ∧ num s = rd X k (s.data.toList.drop k)) (fun _ i => s.size - (intOf i).toNat)
  case atStart => exact ⟨0, 0, by omega, by omega, rfl, rfl, rfl⟩
  case round =>
    obtain ⟨k, X, hk, hk10, rfl, rfl, hd⟩ := hrel
    have HD : Hid (num s = rd X k (s.data.toList.drop k)) := hd
    clear hd
    by_cases hlt : k < s.size
    · have m127 := mask127 (c := (s[k].toNat : Int)) (by omega) (by have := s[k].toNat_lt; omega)
      go_wp2
      · have h9 : (k : Int) = 9 := by assumption
        obtain rfl : k = 9 := by omega
        go_ret2
        exact ⟨by rw [numOut_none (num_none HD.out hlt (by omega))]; rfl, rfl⟩
      · have h9 : (k : Int) = 9 := by assumption
        obtain rfl : k = 9 := by omega
        go_ret2
        exact ⟨by rw [numOut_none (num_none HD.out hlt (by omega))]; rfl, rfl⟩
      · have h9 : (k : Int) = 9 := by assumption
        obtain rfl : k = 9 := by omega
        go_ret2
        exact ⟨by rw [numOut_some (num_some HD.out hlt (by omega) (by omega) (by omega) (by omega)), grp_nine _ _ (by omega)]; rfl, rfl⟩
      · go_round
        case rel => exact ⟨k + 1, _, by omega, by omega, by go_num, rfl, num_go HD.out hlt (by omega) (by omega) (by omega)⟩
        case measure => simp [intOf]; omega
      · go_ret2
        exact ⟨by rw [numOut_none (num_none HD.out hlt (by omega))]; rfl, rfl⟩
      · go_ret2
        exact ⟨by rw [numOut_some (num_some HD.out hlt (by omega) (by omega) (by omega) (by omega)), grp_zero _ _ _ (by assumption)]; rfl, rfl⟩
      · go_ret2
        exact ⟨by rw [numOut_some (num_some HD.out hlt (by omega) (by omega) (by omega) (by omega))]; rfl, rfl⟩
      · go_ret2
        exact ⟨by rw [numOut_none (num_ten HD.out (by omega))]; rfl, rfl⟩
    · go_wp2
      go_ret2
      exact ⟨by rw [numOut_none (num_end HD.out (by omega))]; rfl, rfl⟩

end Go.Proofs.Ytbkjcngehhdchaa

/-!   Numbers in groups of seven bits: what is read of what was put, and what is put of what was read: plain mathematics. -/
namespace Go.Proofs.Ytbkjcngehhdchaa
open Go.RowKit

theorem pow7_succ (k : Nat) : 2 ^ (7 * (k + 1)) = 128 * 2 ^ (7 * k) := by
  rw [show 7 * (k + 1) = 7 * k + 7 from by omega, Nat.pow_add]; omega
theorem pow7_le {k : Nat} (hk : k ≤ 8) : 2 ^ (7 * k) ≤ 72057594037927936 := by
  have : 2 ^ (7 * k) ≤ 2 ^ 56 := Nat.pow_le_pow_right (by omega) (by omega)
  omega
theorem grp_nat (x k : Nat) (c : UInt8) (hk : k ≤ 9) (hx : x < 2 ^ (7 * k)) (h9 : k = 9 → c.toNat % 128 ≤ 1) :
    grp (x : Int) k c = ((x + (c.toNat % 128) * 2 ^ (7 * k) : Nat) : Int) := by
  have hv : (c.toNat % 128) * 2 ^ (7 * k) < 18446744073709551616 := by
    by_cases h : k = 9
    · subst h
      have := h9 rfl
      have : c.toNat % 128 * 2 ^ (7 * 9) ≤ 1 * 2 ^ (7 * 9) := Nat.mul_le_mul_right _ this
      omega
    · have h1 := pow7_le (k := k) (by omega)
      have : c.toNat % 128 * 2 ^ (7 * k) ≤ 127 * 72057594037927936 := Nat.mul_le_mul (by omega) h1
      omega
  have hx2 : x < 18446744073709551616 := by
    have : 2 ^ (7 * k) ≤ 2 ^ 63 := Nat.pow_le_pow_right (by omega) (by omega)
    omega
  unfold grp
  have e : ((c.toNat : Int) % 128) * 2 ^ (7 * k) = (((c.toNat % 128) * 2 ^ (7 * k) : Nat) : Int) := by
    rw [Int.natCast_mul, Int.natCast_emod, Int.natCast_pow]; rfl
  rw [e, IntWalk.u64_in _ ⟨by omega, by omega⟩, u64_or_nat _ _ hx2 hv]
  congr 1
  rw [Nat.mul_comm (c.toNat % 128), Nat.or_comm, ← Nat.two_pow_add_eq_or_of_lt hx, Nat.add_comm]

theorem rd_put : ∀ (n x k : Nat) (rest : List UInt8), k ≤ 9 → x < 2 ^ (7 * k) → x + n * 2 ^ (7 * k) < 18446744073709551616 → (k = 0 ∨ 1 ≤ n) →
    rd (x : Int) k (put n ++ rest) = some (((x + n * 2 ^ (7 * k) : Nat) : Int), k + (put n).length) := by
  intro n
  induction n using Nat.strongRecOn with
  | ind n ih =>
    intro x k rest hk hx hb h0
    have h9n : k = 9 → n ≤ 1 := by
      intro e; subst e
      have : n * 2 ^ (7 * 9) < 2 * 2 ^ (7 * 9) := by omega
      have := Nat.lt_of_mul_lt_mul_right this
      omega
    by_cases hn : n < 128
    · have hc : (UInt8.ofNat n).toNat = n := by rw [UInt8.toNat_ofNat']; omega
      rw [put_low hn]
      simp only [List.cons_append, List.nil_append, rd]
      rw [if_neg (by omega), if_neg (by rw [hc]; omega), hc, if_pos hn, if_neg (by omega)]
      rw [grp_nat x k _ hk hx (by rw [hc]; omega), hc, Nat.mod_eq_of_lt hn]
      rfl
    · have hk8 : k ≤ 8 := by
        have : k ≠ 9 := fun e => by have := h9n e; omega
        omega
      have hc : (UInt8.ofNat (n % 128 + 128)).toNat = n % 128 + 128 := by rw [UInt8.toNat_ofNat']; omega
      have hcm : (n % 128 + 128) % 128 = n % 128 := by omega
      rw [put_high (by omega)]
      simp only [List.cons_append, rd]
      rw [if_neg (by omega), if_neg (by omega), hc, if_neg (by omega)]
      rw [grp_nat x k _ hk hx (by omega), hc, hcm]
      have hp := pow7_succ k
      have hsplit : n * 2 ^ (7 * k) = n % 128 * 2 ^ (7 * k) + n / 128 * 2 ^ (7 * (k + 1)) := by
        rw [hp, ← Nat.mul_assoc, ← Nat.add_mul]
        congr 1; omega
      have hx' : x + n % 128 * 2 ^ (7 * k) < 2 ^ (7 * (k + 1)) := by
        have : n % 128 * 2 ^ (7 * k) ≤ 127 * 2 ^ (7 * k) := Nat.mul_le_mul_right _ (by omega)
        omega
      rw [ih (n / 128) (by omega) _ (k + 1) rest (by omega) hx' (by omega) (Or.inr (by omega))]
      simp only [List.length_cons, Option.some.injEq, Prod.mk.injEq]
      exact ⟨by congr 1; omega, by omega⟩

theorem put_rd : ∀ (l : List UInt8) (x k : Nat) (Y : Int) (u : Nat), x < 2 ^ (7 * k) → rd (x : Int) k l = some (Y, u) →
    ∃ m : Nat, Y = ((x + m * 2 ^ (7 * k) : Nat) : Int) ∧ put m = l.take (u - k) ∧ k + 1 ≤ u ∧ (0 < k → 1 ≤ m) ∧ x + m * 2 ^ (7 * k) < 18446744073709551616
  | [], x, k, Y, u, _, h => by simp [rd] at h
  | c :: cs, x, k, Y, u, hx, h => by
    rw [rd] at h
    by_cases h10 : 10 ≤ k
    · rw [if_pos h10] at h; cases h
    rw [if_neg h10] at h
    by_cases h9 : k = 9 ∧ 1 < c.toNat
    · rw [if_pos h9] at h; cases h
    rw [if_neg h9] at h
    by_cases h1 : c.toNat < 128
    · rw [if_pos h1] at h
      by_cases h0 : 0 < k ∧ c.toNat = 0
      · rw [if_pos h0] at h; cases h
      · rw [if_neg h0] at h
        simp only [Option.some.injEq, Prod.mk.injEq] at h
        obtain ⟨rfl, rfl⟩ := h
        have hcm : c.toNat % 128 = c.toNat := Nat.mod_eq_of_lt h1
        refine ⟨c.toNat, by rw [grp_nat x k c (by omega) hx (by omega), hcm], ?_, by omega, by omega, ?_⟩
        · rw [put_low h1, show k + 1 - k = 1 from by omega]
          simp
        · by_cases e : k = 9
          · subst e
            have : c.toNat * 2 ^ (7 * 9) ≤ 1 * 2 ^ (7 * 9) := Nat.mul_le_mul_right _ (by omega)
            omega
          · have h2 := pow7_le (k := k) (by omega)
            have : c.toNat * 2 ^ (7 * k) ≤ 127 * 72057594037927936 := Nat.mul_le_mul (by omega) h2
            omega
    · rw [if_neg h1] at h
      have hc := c.toNat_lt
      have hk8 : k ≤ 8 := by omega
      rw [grp_nat x k c (by omega) hx (by omega)] at h
      have hp := pow7_succ k
      have hx' : x + c.toNat % 128 * 2 ^ (7 * k) < 2 ^ (7 * (k + 1)) := by
        have : c.toNat % 128 * 2 ^ (7 * k) ≤ 127 * 2 ^ (7 * k) := Nat.mul_le_mul_right _ (by omega)
        omega
      obtain ⟨m, rfl, hm2, hm3, hm4, hm5⟩ := put_rd cs _ _ _ _ hx' h
      have hm := hm4 (by omega)
      have hsplit : (c.toNat % 128 + 128 * m) * 2 ^ (7 * k) = c.toNat % 128 * 2 ^ (7 * k) + m * 2 ^ (7 * (k + 1)) := by
        rw [hp, ← Nat.mul_assoc, ← Nat.add_mul]
        congr 1; omega
      refine ⟨c.toNat % 128 + 128 * m, by congr 1; omega, ?_, by omega, by omega, by omega⟩
      rw [put_high (by omega)]
      have e1 : (c.toNat % 128 + 128 * m) % 128 + 128 = c.toNat := by omega
      have e2 : (c.toNat % 128 + 128 * m) / 128 = m := by omega
      rw [e1, e2, hm2]
      obtain ⟨q, hq⟩ : ∃ q, u - k = q + 1 := ⟨u - k - 1, by omega⟩
      rw [hq, List.take_succ_cons, show u - (k + 1) = q from by omega]
      simp
end Go.Proofs.Ytbkjcngehhdchaa
