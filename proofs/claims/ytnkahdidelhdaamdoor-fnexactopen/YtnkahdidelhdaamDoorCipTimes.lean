/-
  What the two Times answer: the product of two bytes.
-/
import Derived.Test.YtnkahdidelhdaamDoorCipMath
import Derived.Test.YtnkahdidelhdaamDoorRows
import Derived.WalkKit
import Derived.WalkSpells
import Derived.Laws.BitsAllLaws
namespace Go.Proofs.YtnkahdidelhdaamDoor
open Go.RowKit

def cipIntOf : Value → Int | .int _ q => q | _ => 0
theorem div_pow_succ (b n : Nat) : b / 2 ^ n / 2 = b / 2 ^ (n + 1) := by rw [Nat.div_div_eq_div_mul, Nat.pow_succ]
theorem xt_low {a : Nat} (h : a < 128) : xt a = 2 * a := if_pos h
theorem xt_high {a : Nat} (h : ¬ a < 128) : xt a = (2 * a) ^^^ 283 := if_neg h

set_option maxRecDepth 100000 in
set_option maxHeartbeats 1000000 in
theorem stimes_any (a b : Nat) (w : World) (ha : a < 256) :
    Calls Tryd.prog 28 #[.int .u32 (a : Int), .int .u32 (b : Int)] w fun e w' => e = .returned (.int .u32 (mulB a b : Nat)) ∧ w' = w := by
  go_enter Tryd.func28, Tryd.ntmps28
  go_wp2_with fail
  go_loop [0, 5, 6] (fun x p i => ∃ (n a' p' : Nat), n ≤ 8 ∧ i = .int .i64 (n : Int) ∧ x = .int .u32 (a' : Int) ∧ p = .int .u32 (p' : Int) ∧ a' < 256 ∧ p' < 256 ∧ Hid (gm (8 - n) a' (b / 2 ^ n) p' = mulB a b)) (fun _ _ i => 8 - (cipIntOf i).toNat)
  case atStart => exact ⟨0, a, 0, by omega, rfl, rfl, rfl, ha, by omega, by show gm 8 a (b / 2 ^ 0) 0 = _; rw [Nat.pow_zero, Nat.div_one]; rfl⟩
  case round =>
    obtain ⟨n, a', p', hn, rfl, rfl, rfl, ha', hp', HG⟩ := hrel
    by_cases hlt : n < 8
    · have hx := xt_lt ha'
      have hpx := xor_byte hp' ha'
      have HS : Hid (gm (8 - n) a' (b / 2 ^ n) p' = gm (8 - (n + 1)) (xt a') (b / 2 ^ (n + 1)) (if b / 2 ^ n % 2 = 1 then p' ^^^ a' else p')) := by
        show _ = _
        rw [show 8 - n = (8 - (n + 1)) + 1 by omega, gm, div_pow_succ]
      have hxor : bits .xor .u32 (p' : Int) (a' : Int) = ((p' ^^^ a' : Nat) : Int) := u32_xor_nat p' a' (by omega) (by omega)
      have hcast : ((b : Int) / 2 ^ n).tmod 2 = ((b / 2 ^ n % 2 : Nat) : Int) := by
        have e : (b : Int) / 2 ^ n = ((b / 2 ^ n : Nat) : Int) := by rw [Int.natCast_ediv, Int.natCast_pow]; rfl
        rw [e, Int.tmod_eq_emod_of_nonneg (Int.natCast_nonneg _)]; omega
      by_cases hb1 : b / 2 ^ n % 2 = 1
      · have hbit : (((b : Int) / 2 ^ n).tmod 2 == 1) = true := beq_iff_eq.2 (by rw [hcast, hb1]; rfl)
        rw [if_pos hb1] at HS
        have HR : Hid (gm (8 - (n + 1)) (xt a') (b / 2 ^ (n + 1)) (p' ^^^ a') = mulB a b) := HS.out.symm.trans HG.out
        clear hcast hb1 HS HG
        generalize p' ^^^ a' = p2 at hxor hpx HR
        by_cases hl : a' < 128
        · rw [xt_low hl] at hx HR
          go_wp2_with fail
          go_round
          case rel => exact ⟨n + 1, 2 * a', p2, by omega, by go_num, by go_num, rfl, hx, hpx, HR⟩
          case measure => simp [cipIntOf]; omega
        · have hy : bits .xor .u32 ((a' : Int) * 2) 283 = ((xt a' : Nat) : Int) := by
            rw [xt_high hl, show (a' : Int) * 2 = ((2 * a' : Nat) : Int) by omega]; exact u32_xor_nat (2 * a') 283 (by omega) (by omega)
          generalize xt a' = x2 at hx hy HR
          go_wp2_with fail
          go_round
          case rel => exact ⟨n + 1, x2, p2, by omega, by go_num, by rfl, rfl, hx, hpx, HR⟩
          case measure => simp [cipIntOf]; omega
      · have hbit : (((b : Int) / 2 ^ n).tmod 2 == 1) = false := beq_eq_false_iff_ne.2 (by rw [hcast]; omega)
        rw [if_neg hb1] at HS
        have HR : Hid (gm (8 - (n + 1)) (xt a') (b / 2 ^ (n + 1)) p' = mulB a b) := HS.out.symm.trans HG.out
        clear hcast hb1 HS HG
        by_cases hl : a' < 128
        · rw [xt_low hl] at hx HR
          go_wp2_with fail
          go_round
          case rel => exact ⟨n + 1, 2 * a', p', by omega, by go_num, by go_num, rfl, hx, hp', HR⟩
          case measure => simp [cipIntOf]; omega
        · have hy : bits .xor .u32 ((a' : Int) * 2) 283 = ((xt a' : Nat) : Int) := by
            rw [xt_high hl, show (a' : Int) * 2 = ((2 * a' : Nat) : Int) by omega]; exact u32_xor_nat (2 * a') 283 (by omega) (by omega)
          generalize xt a' = x2 at hx hy HR
          go_wp2_with fail
          go_round
          case rel => exact ⟨n + 1, x2, p', by omega, by go_num, by rfl, rfl, hx, hp', HR⟩
          case measure => simp [cipIntOf]; omega
    · obtain rfl : n = 8 := by omega
      have HR : Hid (p' = mulB a b) := HG.out
      go_wp2_with fail
      go_ret
      exact ⟨by rw [← HR.out]; rfl, rfl⟩

set_option maxRecDepth 100000 in
theorem stimes_byte (x : Nat) (w : World) (hx : x < 256) :
    Calls Tryd.prog 65 #[.int .u32 (x : Int)] w fun e w' => e = .returned (.int .u32 (xt x : Nat)) ∧ w' = w := by
  have h1 : bits .and .u32 ((x : Int) / 128) 16843009 = ((x / 128 : Nat) : Int) := by
    have e : (x : Int) / 128 = ((x / 128 : Nat) : Int) := by omega
    rw [e]
    have k : ∀ y : Fin 2, y.val &&& 16843009 = y.val := by decide +kernel
    exact (u32_and_nat (x / 128) 16843009 (by omega) (by omega)).trans (congrArg _ (k ⟨x / 128, by omega⟩))
  have h2 : bits .and .u32 (x : Int) 2139062143 = ((x % 128 : Nat) : Int) := by
    have k : ∀ y : Fin 256, y.val &&& 2139062143 = y.val % 128 := by decide +kernel
    exact (u32_and_nat x 2139062143 (by omega) (by omega)).trans (congrArg _ (k ⟨x, hx⟩))
  have h3 : bits .xor .u32 (((x % 128 : Nat) : Int) * 2) (((x / 128 : Nat) : Int) * 27) = ((xt x : Nat) : Int) := by
    rw [show ((x % 128 : Nat) : Int) * 2 = ((x % 128 * 2 : Nat) : Int) by omega, show ((x / 128 : Nat) : Int) * 27 = ((x / 128 * 27 : Nat) : Int) by omega,
      u32_xor_nat (x % 128 * 2) (x / 128 * 27) (by omega) (by omega)]
    have k : ∀ y : Fin 256, (y.val % 128 * 2) ^^^ (y.val / 128 * 27) = xt y.val := by decide +kernel
    exact congrArg _ (k ⟨x, hx⟩)
  have hm : x % 128 < 128 := by omega
  have hd : x / 128 < 2 := by omega
  generalize x % 128 = m at h2 h3 hm
  generalize x / 128 = d at h1 h3 hd
  generalize xt x = r at h3
  go_enter Tryd.func65, Tryd.ntmps65
  go_wp2_with fail
  go_ret
  exact ⟨rfl, rfl⟩
set_option maxRecDepth 100000 in
set_option maxHeartbeats 1000000 in
theorem times_any (a b : Nat) (w : World) (ha : a < 4294967296) (hb : b < 4294967296) :
    Calls Tryd.prog 55 #[.int .u32 (a : Int), .int .u32 (b : Int)] w fun e w' => e = .returned (.int .u32 (mulB (a % 256) (b % 256) : Nat)) ∧ w' = w := by
  go_enter Tryd.func55, Tryd.ntmps55
  go_wp2_with fail
  go_loop [0, 1, 5] (fun x y p => ∃ (n a' b' p' : Nat), x = .int .u32 (a' : Int) ∧ y = .int .u32 (b' : Int) ∧ p = .int .u32 (p' : Int) ∧ a' < 256 ∧ b' < 256 ∧ p' < 256 ∧ Hid (b' < 2 ^ n) ∧ Hid (gm n a' b' p' = mulB (a % 256) (b % 256))) (fun _ y _ => (cipIntOf y).toNat)
  case atStart => exact ⟨8, a % 256, b % 256, 0, by go_num, by go_num, rfl, by omega, by omega, by omega, by show b % 256 < 256; omega, rfl⟩
  case round =>
    obtain ⟨n, a', b', p', rfl, rfl, rfl, ha', hb', hp', HN, HG⟩ := hrel
    by_cases hz : 0 < b'
    · obtain ⟨m, rfl⟩ : ∃ m, n = m + 1 := by
        rcases n with _ | m
        · exact absurd HN.out (by rw [Nat.pow_zero]; omega)
        · exact ⟨m, rfl⟩
      have hx := xt_lt ha'
      have hpx := xor_byte hp' ha'
      have HN2 : Hid (b' / 2 < 2 ^ m) := by show b' / 2 < 2 ^ m; have := HN.out; rw [Nat.pow_succ] at this; omega
      have hxor : bits .xor .u32 (p' : Int) (a' : Int) = ((p' ^^^ a' : Nat) : Int) := u32_xor_nat p' a' (by omega) (by omega)
      have hand : bits .and .u32 (b' : Int) 1 = (b' : Int) % 2 := bits_mask .u32 32 (by decide) (fun n _ _ => by rw [IntKind.wrap_u32]; omega) 1 (by decide) (b' : Int) (by omega) (by omega)
      have HS : Hid (gm (m + 1) a' b' p' = gm m (xt a') (b' / 2) (if b' % 2 = 1 then p' ^^^ a' else p')) := rfl
      by_cases hb1 : b' % 2 = 1
      · have hbit : ((b' : Int) % 2 == 1) = true := beq_iff_eq.2 (by omega)
        rw [if_pos hb1] at HS
        have HR : Hid (gm m (xt a') (b' / 2) (p' ^^^ a') = mulB (a % 256) (b % 256)) := HS.out.symm.trans HG.out
        clear hb1 HS HG HN
        generalize p' ^^^ a' = p2 at hxor hpx HR
        go_wp2_with fail
        refine (stimes_byte a' _ ha').mono ?_
        rintro e w' ⟨rfl, rfl⟩
        go_wp2_with fail
        go_round
        case rel => exact ⟨m, xt a', b' / 2, p2, rfl, by go_num, rfl, hx, by omega, hpx, HN2, HR⟩
        case measure => simp [cipIntOf]; omega
      · have hbit : ((b' : Int) % 2 == 1) = false := beq_eq_false_iff_ne.2 (by omega)
        rw [if_neg hb1] at HS
        have HR : Hid (gm m (xt a') (b' / 2) p' = mulB (a % 256) (b % 256)) := HS.out.symm.trans HG.out
        clear hb1 HS HG HN
        go_wp2_with fail
        refine (stimes_byte a' _ ha').mono ?_
        rintro e w' ⟨rfl, rfl⟩
        go_wp2_with fail
        go_round
        case rel => exact ⟨m, xt a', b' / 2, p', rfl, by go_num, rfl, hx, by omega, hp', HN2, HR⟩
        case measure => simp [cipIntOf]; omega
    · obtain rfl : b' = 0 := by omega
      have HR : Hid (p' = mulB (a % 256) (b % 256)) := by show _ = _; have := HG.out; rwa [gm_zero] at this
      go_wp2_with fail
      go_ret
      exact ⟨by rw [← HR.out]; rfl, rfl⟩
end Go.Proofs.YtnkahdidelhdaamDoor
