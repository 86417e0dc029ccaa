/-
  The words of a key, as plain mathematics; and words turned to the left.
-/
import Derived.Test.YtnkahdidelhdaacGreatDoorCipWord
import Derived.Test.YtnkahdidelhdaacGreatDoorShaWord
namespace Go.Proofs.YtnkahdidelhdaacGreatDoor
open Go.RowKit

/-- a word turned to the left by 8, 16 or 24 -/
def rl8 (x : Nat) : Nat := x % 16777216 * 256 + x / 16777216
def rl16 (x : Nat) : Nat := x % 65536 * 65536 + x / 65536
def rl24 (x : Nat) : Nat := x % 256 * 16777216 + x / 256
theorem rl8_lt {x : Nat} (h : x < 4294967296) : rl8 x < 4294967296 := by unfold rl8; omega
theorem rl16_lt {x : Nat} (h : x < 4294967296) : rl16 x < 4294967296 := by unfold rl16; omega
theorem rl24_lt {x : Nat} (h : x < 4294967296) : rl24 x < 4294967296 := by unfold rl24; omega
theorem rl8_or {x : Nat} (h : x < 4294967296) : bits .or .u32 ((x : Int) * 256 % 4294967296) ((x : Int) / 16777216) = ((rl8 x : Nat) : Int) := by
  have e := or_byte (x % 16777216) (x / 16777216) (by omega) (by omega)
  have e1 : (x : Int) * 256 % 4294967296 = ((x % 16777216 : Nat) : Int) * 256 := by omega
  have e2 : (x : Int) / 16777216 = ((x / 16777216 : Nat) : Int) := by omega
  rw [e1, e2, e]; rfl
theorem rl16_or {x : Nat} (h : x < 4294967296) : bits .or .u32 ((x : Int) * 65536 % 4294967296) ((x : Int) / 65536) = ((rl16 x : Nat) : Int) := by
  have e := or_low (a := x % 65536) (b := x / 65536) (m := 65536) (i := 16) rfl (by omega) (by omega)
  have e1 : (x : Int) * 65536 % 4294967296 = ((65536 * (x % 65536) : Nat) : Int) := by omega
  have e2 : (x : Int) / 65536 = ((x / 65536 : Nat) : Int) := by omega
  rw [e1, e2, e]; unfold rl16; congr 1; omega
theorem rl24_or {x : Nat} (h : x < 4294967296) : bits .or .u32 ((x : Int) * 16777216 % 4294967296) ((x : Int) / 256) = ((rl24 x : Nat) : Int) := by
  have e := or_low (a := x % 256) (b := x / 256) (m := 16777216) (i := 24) rfl (by omega) (by omega)
  have e1 : (x : Int) * 16777216 % 4294967296 = ((16777216 * (x % 256) : Nat) : Int) := by omega
  have e2 : (x : Int) / 256 = ((x / 256 : Nat) : Int) := by omega
  rw [e1, e2, e]; unfold rl24; congr 1; omega
set_option maxRecDepth 100000 in
theorem rl8_any (x : Nat) (w : World) (h : x < 4294967296) :
    Calls Tryz.prog 74 #[.int .u32 (x : Int), .int .i64 8] w fun e w' => e = .returned (.int .u32 (rl8 x : Nat)) ∧ w' = w := by
  have HO : Hid _ := rl8_or h
  have ha : bits .and .u64 8 31 = 8 := by decide +kernel
  go_enter Tryz.func74, Tryz.ntmps74
  go_wp2_with fail
  go_ret
  exact ⟨by rw [← HO.out]; rfl, rfl⟩
set_option maxRecDepth 100000 in
theorem rl16_any (x : Nat) (w : World) (h : x < 4294967296) :
    Calls Tryz.prog 74 #[.int .u32 (x : Int), .int .i64 16] w fun e w' => e = .returned (.int .u32 (rl16 x : Nat)) ∧ w' = w := by
  have HO : Hid _ := rl16_or h
  have ha : bits .and .u64 16 31 = 16 := by decide +kernel
  go_enter Tryz.func74, Tryz.ntmps74
  go_wp2_with fail
  go_ret
  exact ⟨by rw [← HO.out]; rfl, rfl⟩
set_option maxRecDepth 100000 in
theorem rl24_any (x : Nat) (w : World) (h : x < 4294967296) :
    Calls Tryz.prog 74 #[.int .u32 (x : Int), .int .i64 24] w fun e w' => e = .returned (.int .u32 (rl24 x : Nat)) ∧ w' = w := by
  have HO : Hid _ := rl24_or h
  have ha : bits .and .u64 24 31 = 24 := by decide +kernel
  go_enter Tryz.func74, Tryz.ntmps74
  go_wp2_with fail
  go_ret
  exact ⟨by rw [← HO.out]; rfl, rfl⟩

/-- a key's words -/
def kw (bs : Nat → Nat) (j : Nat) : Nat :=
  if _h : j < 8 then pt bs j 4
  else if j % 8 = 0 then (kw bs (j - 8) ^^^ 2 ^ (23 + j / 8)) ^^^ subW (rl8 (kw bs (j - 1)))
  else if j % 8 = 4 then kw bs (j - 8) ^^^ subW (kw bs (j - 1))
  else kw bs (j - 8) ^^^ kw bs (j - 1)
  termination_by j
  decreasing_by all_goals omega
theorem kw_low {bs : Nat → Nat} {j : Nat} (h : j < 8) : kw bs j = pt bs j 4 := by rw [kw, dif_pos h]
theorem kw_zero {bs : Nat → Nat} {j : Nat} (h : ¬ j < 8) (h0 : j % 8 = 0) : kw bs j = (kw bs (j - 8) ^^^ 2 ^ (23 + j / 8)) ^^^ subW (rl8 (kw bs (j - 1))) := by rw [kw, dif_neg h, if_pos h0]
theorem kw_four {bs : Nat → Nat} {j : Nat} (h : ¬ j < 8) (h0 : j % 8 = 4) : kw bs j = kw bs (j - 8) ^^^ subW (kw bs (j - 1)) := by rw [kw, dif_neg h, if_neg (by omega), if_pos h0]
theorem kw_else {bs : Nat → Nat} {j : Nat} (h : ¬ j < 8) (h0 : j % 8 ≠ 0) (h4 : j % 8 ≠ 4) : kw bs j = kw bs (j - 8) ^^^ kw bs (j - 1) := by rw [kw, dif_neg h, if_neg h0, if_neg h4]
theorem xor32 {a b : Nat} (ha : a < 4294967296) (hb : b < 4294967296) : a ^^^ b < 4294967296 := Nat.xor_lt_two_pow (n := 32) ha hb
theorem rcon_lt {j : Nat} (h : j < 60) : 2 ^ (23 + j / 8) < 4294967296 := Nat.pow_lt_pow_right (a := 2) (by omega) (by omega : 23 + j / 8 < 32)
theorem pt4_lt {bs : Nat → Nat} (hb : ∀ j, bs j < 256) (i : Nat) : pt bs i 4 < 4294967296 := by
  have h := pt_lt hb i 3 (by omega)
  have h3 := hb (4 * i + 3)
  show pt bs i 3 * 256 + bs (4 * i + 3) < _
  omega
theorem kw_lt {bs : Nat → Nat} (hb : ∀ j, bs j < 256) : ∀ j, j < 60 → kw bs j < 4294967296 := by
  intro j
  induction j using Nat.strongRecOn with
  | _ j ih =>
    intro hj
    by_cases h : j < 8
    · rw [kw_low h]; exact pt4_lt hb j
    · have h1 := ih (j - 8) (by omega) (by omega)
      have h2 := ih (j - 1) (by omega) (by omega)
      by_cases h0 : j % 8 = 0
      · rw [kw_zero h h0]; exact xor32 (xor32 h1 (rcon_lt hj)) (subW_lt (rl8_lt h2))
      · by_cases h4 : j % 8 = 4
        · rw [kw_four h h4]; exact xor32 h1 (subW_lt h2)
        · rw [kw_else h h0 h4]; exact xor32 h1 h2
end Go.Proofs.YtnkahdidelhdaacGreatDoor
