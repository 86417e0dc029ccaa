/-
  What the specification's Crc32 answers, in plain words.
-/
import Derived.Test.YtfngknnjdcgciaaCrcMath
import Derived.Test.YtfngknnjdcgciaaRows
import Derived.WalkSpells
import Derived.Laws.BitsAllLaws
namespace Go.Proofs.Ytfngknnjdcgciaa
open Go.RowKit

/-- the sum of bytes -/
def crc32 (s : ByteArray) : Nat := regs 3988292384 4294967295 s.data.toList ^^^ 4294967295
theorem crc32_lt (l : List UInt8) : regs 3988292384 4294967295 l < 4294967296 := regs_lt (n := 32) (by decide) (by decide) (by decide) l

set_option maxRecDepth 100000 in
set_option maxHeartbeats 1000000 in
theorem scrc32_any (s : ByteArray) (w : World) (hs : s.size ≤ maxLen) :
    Calls Try.prog 23 #[.string s] w fun e w' => e = .returned (.int .u32 (crc32 s : Nat)) ∧ w' = w := by
  unfold maxLen at hs
  go_enter Try.func23, Try.ntmps23
  go_wp2
  go_loop [3, 4] (fun c i => ∃ k : Nat, k ≤ s.size ∧ i = .int .i64 k ∧ c = .int .u32 (regs 3988292384 4294967295 (s.data.toList.take k) : Nat)) (fun _ i => s.size - (crcIntOf i).toNat)
  case atStart => exact ⟨0, by omega, rfl, rfl⟩
  case round =>
    obtain ⟨k, hk, rfl, rfl⟩ := hrel
    by_cases hlt : k < s.size
    · have hr := crc32_lt (s.data.toList.take k)
      have hc : s[k].toNat < 256 := s[k].toNat_lt
      have hn : Hid (regs 3988292384 4294967295 (s.data.toList.take (k + 1)) = mv 3988292384 8 (regs 3988292384 4294967295 (s.data.toList.take k) ^^^ s[k].toNat)) := by rw [take_snoc s k hlt]; exact regs_snoc _ _ _ _
      generalize regs 3988292384 4294967295 (s.data.toList.take k) = r at hr hn
      have hx := u32_xor_nat r s[k].toNat hr (by omega)
      have hxl : r ^^^ s[k].toNat < 4294967296 := Nat.xor_lt_two_pow (n := 32) hr (by omega)
      generalize r ^^^ s[k].toNat = r1 at hx hxl hn
      go_wp2
      go_loop [3, 5] (fun c j => ∃ n : Nat, n ≤ 8 ∧ j = .int .i64 n ∧ c = .int .u32 (mv 3988292384 n r1 : Nat)) (fun _ j => 8 - (crcIntOf j).toNat)
      case atStart => exact ⟨0, by omega, rfl, rfl⟩
      case round =>
        obtain ⟨n, hn8, rfl, rfl⟩ := hrel
        by_cases hn9 : n < 8
        · have hm : mv 3988292384 n r1 < 4294967296 := mv_lt (n := 32) (by decide) n r1 hxl
          have hs1 : Hid (mv 3988292384 (n + 1) r1 = step 3988292384 (mv 3988292384 n r1)) := mv_snoc _ _ _
          generalize mv 3988292384 n r1 = q at hm hs1
          by_cases hq : q % 2 = 1
          · have hb : ((q : Int) % 2 == 1) = true := beq_iff_eq.2 (by omega)
            have hy : Hid (bits .xor .u32 ((q : Int) / 2) 3988292384 = ((q / 2 ^^^ 3988292384 : Nat) : Int)) := u32_xor_nat (q / 2) 3988292384 (by omega) (by omega)
            have ht : Hid (step 3988292384 q = q / 2 ^^^ 3988292384) := step_odd hq
            clear hq
            go_wp2
            go_round
            case rel => exact ⟨n + 1, by omega, by go_num, by rw [hs1.out, ht.out, hy.out]⟩
            case measure => simp [crcIntOf]; omega
          · have hb : ((q : Int) % 2 == 1) = false := beq_eq_false_iff_ne.2 (by omega)
            have ht : Hid (step 3988292384 q = q / 2) := step_even hq
            clear hq
            go_wp2
            go_round
            case rel => exact ⟨n + 1, by omega, by go_num, by rw [hs1.out, ht.out]; rfl⟩
            case measure => simp [crcIntOf]; omega
        · obtain rfl : n = 8 := by omega
          go_wp2
          go_round
          case rel => exact ⟨k + 1, by omega, by go_num, by rw [hn.out]⟩
          case measure => simp [crcIntOf]; omega
    · have hr := crc32_lt s.data.toList
      have hall : s.data.toList.take k = s.data.toList := List.take_of_length_le (by have : s.data.toList.length = s.size := rfl; omega)
      rw [hall]
      have hy : Hid (bits .xor .u32 ((regs 3988292384 4294967295 s.data.toList : Nat) : Int) 4294967295 = ((crc32 s : Nat) : Int)) := u32_xor_nat _ 4294967295 hr (by omega)
      clear hall
      generalize regs 3988292384 4294967295 s.data.toList = r at hr hy
      go_wp2
      go_ret
      exact ⟨by rw [← hy.out]; rfl, rfl⟩
end Go.Proofs.Ytfngknnjdcgciaa
