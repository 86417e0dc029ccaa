/-
  What the specification's Crc64 answers, in plain words.
-/
import Derived.Test.YtfngknnjdcgciaaCrcMath
import Derived.Test.YtfngknnjdcgciaaRows
import Derived.WalkSpells
import Derived.Laws.BitsAllLaws
namespace Go.Proofs.Ytfngknnjdcgciaa
open Go.RowKit

/-- the sum of bytes -/
def crc64 (s : ByteArray) : Nat := regs 14514072000185962306 18446744073709551615 s.data.toList ^^^ 18446744073709551615
theorem crc64_lt (l : List UInt8) : regs 14514072000185962306 18446744073709551615 l < 18446744073709551616 := regs_lt (n := 64) (by decide) (by decide) (by decide) l

set_option maxRecDepth 100000 in
set_option maxHeartbeats 1000000 in
theorem scrc64_any (s : ByteArray) (w : World) (hs : s.size ≤ maxLen) :
    Calls Try.prog 24 #[.string s] w fun e w' => e = .returned (.int .u64 (crc64 s : Nat)) ∧ w' = w := by
  unfold maxLen at hs
  go_enter Try.func24, Try.ntmps24
  go_wp2
  go_loop [3, 4] (fun c i => ∃ k : Nat, k ≤ s.size ∧ i = .int .i64 k ∧ c = .int .u64 (regs 14514072000185962306 18446744073709551615 (s.data.toList.take k) : Nat)) (fun _ i => s.size - (crcIntOf i).toNat)
  case atStart => exact ⟨0, by omega, rfl, rfl⟩
  case round =>
    obtain ⟨k, hk, rfl, rfl⟩ := hrel
    by_cases hlt : k < s.size
    · have hr := crc64_lt (s.data.toList.take k)
      have hc : s[k].toNat < 256 := s[k].toNat_lt
      have hn : Hid (regs 14514072000185962306 18446744073709551615 (s.data.toList.take (k + 1)) = mv 14514072000185962306 8 (regs 14514072000185962306 18446744073709551615 (s.data.toList.take k) ^^^ s[k].toNat)) := by rw [take_snoc s k hlt]; exact regs_snoc _ _ _ _
      generalize regs 14514072000185962306 18446744073709551615 (s.data.toList.take k) = r at hr hn
      have hx := u64_xor_nat r s[k].toNat hr (by omega)
      have hxl : r ^^^ s[k].toNat < 18446744073709551616 := Nat.xor_lt_two_pow (n := 64) hr (by omega)
      generalize r ^^^ s[k].toNat = r1 at hx hxl hn
      go_wp2
      go_loop [3, 5] (fun c j => ∃ n : Nat, n ≤ 8 ∧ j = .int .i64 n ∧ c = .int .u64 (mv 14514072000185962306 n r1 : Nat)) (fun _ j => 8 - (crcIntOf j).toNat)
      case atStart => exact ⟨0, by omega, rfl, rfl⟩
      case round =>
        obtain ⟨n, hn8, rfl, rfl⟩ := hrel
        by_cases hn9 : n < 8
        · have hm : mv 14514072000185962306 n r1 < 18446744073709551616 := mv_lt (n := 64) (by decide) n r1 hxl
          have hs1 : Hid (mv 14514072000185962306 (n + 1) r1 = step 14514072000185962306 (mv 14514072000185962306 n r1)) := mv_snoc _ _ _
          generalize mv 14514072000185962306 n r1 = q at hm hs1
          by_cases hq : q % 2 = 1
          · have hb : ((q : Int) % 2 == 1) = true := beq_iff_eq.2 (by omega)
            have hy : Hid (bits .xor .u64 ((q : Int) / 2) 14514072000185962306 = ((q / 2 ^^^ 14514072000185962306 : Nat) : Int)) := u64_xor_nat (q / 2) 14514072000185962306 (by omega) (by omega)
            have ht : Hid (step 14514072000185962306 q = q / 2 ^^^ 14514072000185962306) := step_odd hq
            clear hq
            go_wp2
            go_round
            case rel => exact ⟨n + 1, by omega, by go_num, by rw [hs1.out, ht.out, hy.out]⟩
            case measure => simp [crcIntOf]; omega
          · have hb : ((q : Int) % 2 == 1) = false := beq_eq_false_iff_ne.2 (by omega)
            have ht : Hid (step 14514072000185962306 q = q / 2) := step_even hq
            clear hq
            go_wp2
            go_round
            case rel => exact ⟨n + 1, by omega, by go_num, by rw [hs1.out, ht.out]; rfl⟩
            case measure => simp [crcIntOf]; omega
        · obtain rfl : n = 8 := by omega
          go_wp2
          go_round
          case rel => exact ⟨k + 1, by omega, by go_num, by rw [hn.out]⟩
          case measure => simp [crcIntOf]; omega
    · have hr := crc64_lt s.data.toList
      have hall : s.data.toList.take k = s.data.toList := List.take_of_length_le (by have : s.data.toList.length = s.size := rfl; omega)
      rw [hall]
      have hy : Hid (bits .xor .u64 ((regs 14514072000185962306 18446744073709551615 s.data.toList : Nat) : Int) 18446744073709551615 = ((crc64 s : Nat) : Int)) := u64_xor_nat _ 18446744073709551615 hr (by omega)
      clear hall
      generalize regs 14514072000185962306 18446744073709551615 s.data.toList = r at hr hy
      go_wp2
      go_ret
      exact ⟨by rw [← hy.out]; rfl, rfl⟩
end Go.Proofs.Ytfngknnjdcgciaa
