/-
  The byte that takes the place of a byte: what both Sub answer.
-/
import Derived.Test.YtnkahdidelhdaalDoorCipTimes
import Derived.Laws.Rows
import Derived.Deep.WholeRow
import Derived.WalkSmall
namespace Go.Proofs.YtnkahdidelhdaalDoor
open Go.RowKit

/-- a byte turned to the left -/
def rot8 (b i : Nat) : Nat := (b * 2 ^ i % 256) ||| (b / 2 ^ (8 - i))
def sub8 (b : Nat) : Nat → Nat
  | 0 => 99
  | i + 1 => sub8 b i ^^^ rot8 b i
def subB (b : Nat) : Nat := sub8 b 5
/-- seven squares, and their product -/
def invF : Nat → Nat → Nat → Nat
  | 0, _, o => o
  | n + 1, x, o => invF n (mulB x x) (mulB o (mulB x x))
def invB (x : Nat) : Nat := invF 7 x 1
/-- what takes a byte's place -/
def sbox (x : Nat) : Nat := subB (invB x)
theorem rot8_lt : ∀ b, b < 256 → ∀ i, i < 5 → rot8 b i < 256 := by
  have k : ∀ b : Fin 256, ∀ i : Fin 5, rot8 b.val i.val < 256 := by decide +kernel
  exact fun b hb i hi => k ⟨b, hb⟩ ⟨i, hi⟩
theorem rot8_alt : ∀ b, b < 256 → ∀ i, i < 5 → ((b * 2 ^ i) ||| (b / 2 ^ (8 - i))) % 256 = rot8 b i := by
  have k : ∀ b : Fin 256, ∀ i : Fin 5, ((b.val * 2 ^ i.val) ||| (b.val / 2 ^ (8 - i.val))) % 256 = rot8 b.val i.val := by decide +kernel
  exact fun b hb i hi => k ⟨b, hb⟩ ⟨i, hi⟩
theorem sub8_lt (b : Nat) (hb : b < 256) : ∀ i, i ≤ 5 → sub8 b i < 256
  | 0, _ => by show 99 < 256; omega
  | i + 1, h => xor_byte (sub8_lt b hb i (by omega)) (rot8_lt b hb i (by omega))
theorem small_pow (b n : Nat) (hb : b < 256) (hn : n < 5) : b * 2 ^ n < 4096 := by
  match n, hn with
  | 0, _ => omega
  | 1, _ => omega
  | 2, _ => omega
  | 3, _ => omega
  | 4, _ => omega
theorem invF_lt : ∀ n x o, x < 256 → o < 256 → invF n x o < 256
  | 0, _, _, _, h => h
  | n + 1, _, _, hx, ho => invF_lt n _ _ (mulB_lt _ _ hx) (mulB_lt _ _ ho)
theorem invB_lt {x : Nat} (hx : x < 256) : invB x < 256 := invF_lt 7 x 1 hx (by omega)
theorem sbox_lt {x : Nat} (hx : x < 256) : sbox x < 256 := sub8_lt _ (invB_lt hx) 5 (Nat.le_refl _)

set_option maxRecDepth 100000 in
set_option maxHeartbeats 1000000 in
theorem sinv_any (x : Nat) (w : World) (hx : x < 256) :
    Calls Tryd.prog 42 #[.int .u32 (x : Int)] w fun e w' => e = .returned (.int .u32 (invB x : Nat)) ∧ w' = w := by
  go_enter Tryd.func42, Tryd.ntmps42
  go_wp2_with fail
  go_loop [0, 3, 4] (fun v o c => ∃ (n v' o' : Nat), n ≤ 7 ∧ c = .int .i64 (n : Int) ∧ v = .int .u32 (v' : Int) ∧ o = .int .u32 (o' : Int) ∧ v' < 256 ∧ o' < 256 ∧ Hid (invF (7 - n) v' o' = invB x)) (fun _ _ c => 7 - (cipIntOf c).toNat)
  case atStart => exact ⟨0, x, 1, by omega, rfl, rfl, rfl, hx, by omega, rfl⟩
  case round =>
    obtain ⟨n, v', o', hn, rfl, rfl, rfl, hv, ho, HI⟩ := hrel
    by_cases hlt : n < 7
    · have HR : Hid (invF (7 - (n + 1)) (mulB v' v') (mulB o' (mulB v' v')) = invB x) := by
        have := HI.out
        rw [show 7 - n = (7 - (n + 1)) + 1 by omega, invF] at this
        exact this
      have hv2 := mulB_lt v' v' hv
      have ho2 := mulB_lt o' (mulB v' v') ho
      have HO : Hid (o' < 256) := ho
      go_wp2_with fail
      refine (stimes_any v' v' _ hv).mono ?_
      rintro e w' ⟨rfl, hw⟩
      subst w'
      generalize mulB v' v' = v2 at hv2 ho2 HR ⊢
      go_wp2_with fail
      refine (stimes_any o' v2 _ HO.out).mono ?_
      rintro e w' ⟨rfl, hw⟩
      subst w'
      go_wp2_with fail
      go_round
      case rel => exact ⟨n + 1, v2, _, by omega, by go_num, rfl, rfl, hv2, ho2, HR⟩
      case measure => simp [cipIntOf]; omega
    · obtain rfl : n = 7 := by omega
      have HR : Hid (o' = invB x) := HI.out
      go_wp2_with fail
      go_ret
      exact ⟨by rw [← HR.out]; rfl, rfl⟩

theorem sub_step (b n : Nat) (hb : b < 256) (hn : n < 5) :
    bits .xor .u32 (sub8 b n : Int) ((bits .or .u32 ((b : Int) * 2 ^ n % 4294967296) ((b : Int) / 2 ^ (8 - n))).tmod 256) = ((sub8 b (n + 1) : Nat) : Int) := by
  have h1 := small_pow b n hb hn
  have e1 : (b : Int) * 2 ^ n % 4294967296 = ((b * 2 ^ n : Nat) : Int) := by
    have e : (b : Int) * 2 ^ n = ((b * 2 ^ n : Nat) : Int) := by rw [Int.natCast_mul, Int.natCast_pow]; rfl
    rw [e]; omega
  have e2 : (b : Int) / 2 ^ (8 - n) = ((b / 2 ^ (8 - n) : Nat) : Int) := by rw [Int.natCast_ediv, Int.natCast_pow]; rfl
  have h2 : b / 2 ^ (8 - n) < 4294967296 := Nat.lt_of_le_of_lt (Nat.div_le_self _ _) (by omega)
  have h3 := sub8_lt b hb n (by omega)
  have h4 := rot8_lt b hb n hn
  rw [e1, e2, u32_or_nat _ _ (by omega) h2, Int.tmod_eq_emod_of_nonneg (Int.natCast_nonneg _)]
  rw [show ((b * 2 ^ n ||| b / 2 ^ (8 - n) : Nat) : Int) % 256 = (((b * 2 ^ n ||| b / 2 ^ (8 - n)) % 256 : Nat) : Int) by omega, rot8_alt b hb n hn, u32_xor_nat _ _ (by omega) (by omega)]
  rfl

set_option maxRecDepth 100000 in
set_option maxHeartbeats 1000000 in
theorem ssub_any (x : Nat) (w : World) (hx : x < 4294967296) :
    Calls Tryd.prog 31 #[.int .u32 (x : Int)] w fun e w' => e = .returned (.int .u32 (sbox (x % 256) : Nat)) ∧ w' = w := by
  have HI : Hid (∀ w, Calls Tryd.prog 42 #[.int .u32 ((x : Int) % 256)] w fun e w' => e = .returned (.int .u32 (invB (x % 256) : Nat)) ∧ w' = w) := fun w => by
    have := sinv_any (x % 256) w (by omega)
    rwa [show ((x % 256 : Nat) : Int) = (x : Int) % 256 by omega] at this
  have HS : Hid (sbox (x % 256) = sub8 (invB (x % 256)) 5) := rfl
  have hb := invB_lt (x := x % 256) (by omega)
  generalize sbox (x % 256) = R at HS
  generalize invB (x % 256) = b at HI HS hb
  go_enter Tryd.func31, Tryd.ntmps31
  go_wp2_with fail
  refine (HI.out _).mono ?_
  rintro e w' ⟨rfl, hw⟩
  subst w'
  go_wp2_with fail
  go_loop [4, 5] (fun o c => ∃ (n : Nat), n ≤ 5 ∧ c = .int .i64 (n : Int) ∧ o = .int .u32 (sub8 b n : Nat)) (fun _ c => 5 - (cipIntOf c).toNat)
  case atStart => exact ⟨0, by omega, rfl, rfl⟩
  case round =>
    obtain ⟨n, hn, rfl, rfl⟩ := hrel
    by_cases hlt : n < 5
    · have HST : Hid _ := sub_step b n hb hlt
      go_wp2_with fail
      go_round
      case rel => exact ⟨n + 1, by omega, by go_num, by rw [HST.out]⟩
      case measure => simp [cipIntOf]; omega
    · obtain rfl : n = 5 := by omega
      go_wp2_with fail
      go_ret
      exact ⟨by rw [HS.out]; rfl, rfl⟩

set_option maxRecDepth 100000 in
set_option maxHeartbeats 1000000 in
theorem rot8_any (b n : Nat) (w : World) (hb : b < 256) (hn : n < 5) :
    Calls Tryd.prog 70 #[.int .u8 (b : Int), .int .i64 (n : Int)] w fun e w' => e = .returned (.int .u8 (rot8 b n : Nat)) ∧ w' = w := by
  have ha : bits .and .u64 (n : Int) 7 = (n : Int) := by
    have := bits_mask .u64 64 (by decide) (fun n _ _ => by rw [IntKind.wrap_u64]; omega) 3 (by decide) (n : Int) (by omega) (by omega)
    exact this.trans (by omega)
  have h1 := small_pow b n hb hn
  have e2 : (b : Int) / 2 ^ (8 - n) = ((b / 2 ^ (8 - n) : Nat) : Int) := by rw [Int.natCast_ediv, Int.natCast_pow]; rfl
  have h2 : b / 2 ^ (8 - n) < 256 := Nat.lt_of_le_of_lt (Nat.div_le_self _ _) hb
  have HOR : Hid (bits .or .u8 ((b : Int) * 2 ^ n % 256) ((b : Int) / 2 ^ (8 - n)) = ((rot8 b n : Nat) : Int)) := by
    show _ = _
    have e : (b : Int) * 2 ^ n = ((b * 2 ^ n : Nat) : Int) := by rw [Int.natCast_mul, Int.natCast_pow]; rfl
    rw [e, e2, show ((b * 2 ^ n : Nat) : Int) % 256 = ((b * 2 ^ n % 256 : Nat) : Int) by omega, u8_or_nat _ _ (by omega) h2]
    rfl
  clear e2
  have hn64 : (n : Int) < 8 := by omega
  go_enter Tryd.func70, Tryd.ntmps70
  go_wp2_with fail
  go_ret
  exact ⟨by rw [← HOR.out]; rfl, rfl⟩
set_option maxRecDepth 100000 in
set_option maxHeartbeats 1000000 in
theorem subOf_any (b : Nat) (w : World) (hb : b < 256) :
    Calls Tryd.prog 62 #[.int .u8 (b : Int)] w fun e w' => e = .returned (.int .u32 (subB b : Nat)) ∧ w' = w := by
  go_enter Tryd.func62, Tryd.ntmps62
  go_wp2_with fail
  go_loop [3, 5] (fun o c => ∃ (n : Nat), n ≤ 5 ∧ c = .int .i64 (n : Int) ∧ o = .int .u8 (sub8 b n : Nat)) (fun _ c => 5 - (cipIntOf c).toNat)
  case atStart => exact ⟨0, by omega, rfl, rfl⟩
  case round =>
    obtain ⟨n, hn, rfl, rfl⟩ := hrel
    by_cases hlt : n < 5
    · have h3 := sub8_lt b hb n (by omega)
      have h4 := rot8_lt b hb n hlt
      have HX : Hid (bits .xor .u8 (sub8 b n : Int) (rot8 b n : Int) = ((sub8 b (n + 1) : Nat) : Int)) := u8_xor_nat _ _ h3 h4
      have HR : Hid (∀ w, Calls Tryd.prog 70 #[.int .u8 (b : Int), .int .i64 (n : Int)] w fun e w' => e = .returned (.int .u8 (rot8 b n : Nat)) ∧ w' = w) := fun w => rot8_any b n w hb hlt
      generalize rot8 b n = r at HX HR h4
      go_wp2_with fail
      refine (HR.out _).mono ?_
      rintro e w' ⟨rfl, hw⟩
      subst w'
      go_wp2_with fail
      go_round
      case rel => exact ⟨n + 1, by omega, by go_num, by rw [HX.out]⟩
      case measure => simp [cipIntOf]; omega
    · obtain rfl : n = 5 := by omega
      have h3 := sub8_lt b hb 5 (by omega)
      have HB : Hid (subB b = sub8 b 5) := rfl
      go_wp2_with fail
      go_ret
      exact ⟨by rw [HB.out]; rfl, rfl⟩
end Go.Proofs.YtnkahdidelhdaalDoor
