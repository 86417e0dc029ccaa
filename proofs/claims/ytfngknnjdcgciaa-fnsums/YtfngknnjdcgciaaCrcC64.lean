/-
  What registerBehind and the code's Crc64 answer.
-/
import Derived.Test.YtfngknnjdcgciaaCrcB64
namespace Go.Proofs.Ytfngknnjdcgciaa
open Go.RowKit

theorem crc64_step (s : ByteArray) (k : Nat) (hlt : k < s.size) {r : Nat} (hr : r = regs 14514072000185962306 18446744073709551615 (s.data.toList.take k)) :
    regs 14514072000185962306 18446744073709551615 (s.data.toList.take (k + 1)) = r / 256 ^^^ mv 14514072000185962306 8 (r % 256 ^^^ s[k].toNat) := by
  rw [take_snoc s k hlt, regs_snoc, ← hr, mv_table]

set_option maxRecDepth 100000 in
set_option maxHeartbeats 2000000 in
theorem crc64_behind (s : ByteArray) (w : World) (hs : s.size ≤ maxLen) :
    Calls Try.prog 42 #[.int .u64 14514072000185962306, .string s] w fun e w' => e = .returned (.int .u64 (crc64 s : Nat)) ∧ Below w.heap.size w w' := by
  unfold maxLen at hs
  obtain ⟨Z, hZ⟩ : ∃ Z : Array Value, Z = Array.replicate 256 (Value.int .u64 0) := ⟨_, rfl⟩
  have hz : ∀ w, (zeroValue 61).run Try.prog w = .ok (.agg Z) w := by rw [hZ]; exact (zero_of_info (n := 256) (by kernel_rfl)).1
  have hi41 : (Try.prog.info? 61).map (·.size) = some crc64Tab.size := by rw [crc64Tab_size]; exact (zero_of_info (v := .agg (Array.replicate 256 (Value.int .u64 0))) (by kernel_rfl)).2
  have hZs : Z.size = crc64Tab.size := by rw [hZ, crc64Tab_size]; simp
  have hZc : (Value.agg Z).cells = Z := by rw [hZ]; kernel_rfl
  clear hZ
  have HI : Hid _ := hi41
  have HZ : Hid _ := hZs
  clear hi41 hZs
  go_enter Try.func42, Try.ntmps42
  go_wp2_with fail
  refine (crc64_moves _).mono ?_
  rintro e w1 ⟨rfl, hb1⟩
  have hg1 : Hid _ := heap_alloc_last w1 (.cells Z 61)
  have hx0 : bits .xor .u64 18446744073709551615 0 = 18446744073709551615 := u64_xor_nat 18446744073709551615 0 (by decide) (by decide)
  go_wp2_with (first
    | (refine wpList_store_row rfl 61 _ _ rfl w1.heap.size crc64Tab rfl rfl 61 Z hg1.out HI.out HZ.out crc64Tab_one ?_; rw [World.setRow_alloc_new]))
  clear hz hZc hx0
  go_loop [6, 14] (fun c i => ∃ k : Nat, k ≤ s.size ∧ i = .int .i64 k ∧ c = .int .u64 (regs 14514072000185962306 18446744073709551615 (s.data.toList.take k) : Nat)) (fun _ i => s.size - (crcIntOf i).toNat)
  case atStart => exact ⟨0, by omega, rfl, rfl⟩
  case round =>
    obtain ⟨k, hk, rfl, rfl⟩ := hrel
    by_cases hlt : k < s.size
    · have hr := crc64_lt (s.data.toList.take k)
      have hc : s[k].toNat < 256 := s[k].toNat_lt
      have hn : Hid _ := crc64_step s k hlt rfl
      generalize regs 14514072000185962306 18446744073709551615 (s.data.toList.take k) = r at hr hn
      have hx : bits .xor .u8 ((r : Int) % 256) (s[k].toNat : Int) = ((r % 256 ^^^ s[k].toNat : Nat) : Int) := u8_xor_nat (r % 256) s[k].toNat (by omega) hc
      have hj : r % 256 ^^^ s[k].toNat < 256 := Nat.xor_lt_two_pow (n := 8) (by omega) hc
      generalize r % 256 ^^^ s[k].toNat = j at hx hj hn
      have hcell := (World.cell?_alloc_mark w1 crc64Tab 61 (0, 0) j).trans (crc64Tab_at j hj)
      have hm : mv 14514072000185962306 8 j < 18446744073709551616 := mv_lt (n := 64) (by decide) 8 j (by omega)
      generalize mv 14514072000185962306 8 j = t at hcell hm hn
      have hy : bits .xor .u64 ((r : Int) / 256) (t : Int) = ((r / 256 ^^^ t : Nat) : Int) := u64_xor_nat (r / 256) t (by omega) hm
      go_wp2_with fail
      go_round
      case rel => exact ⟨k + 1, by omega, by go_num, by rw [hn.out]⟩
      case measure => simp [crcIntOf]; omega
    · have hr := crc64_lt s.data.toList
      have hall : s.data.toList.take k = s.data.toList := List.take_of_length_le (by have : s.data.toList.length = s.size := rfl; omega)
      rw [hall]
      have hy : Hid (bits .xor .u64 18446744073709551615 ((regs 14514072000185962306 18446744073709551615 s.data.toList : Nat) : Int) = ((crc64 s : Nat) : Int)) := by
        have := u64_xor_nat 18446744073709551615 _ (by decide) hr
        rw [Nat.xor_comm] at this
        exact this
      clear hall
      generalize regs 14514072000185962306 18446744073709551615 s.data.toList = r at hr hy
      go_wp2_with fail
      go_ret
      exact ⟨by rw [← hy.out]; rfl, hb1.alloc hb1.size _⟩

set_option maxRecDepth 100000 in
theorem crc64_any (s : ByteArray) (w : World) (hs : s.size ≤ maxLen) :
    Calls Try.prog 22 #[.string s] w fun e w' => e = .returned (.int .u64 (crc64 s : Nat)) ∧ Below w.heap.size w w' := by
  go_enter Try.func22, Try.ntmps22
  go_wp2_with fail
  refine (crc64_behind s _ hs).mono ?_
  rintro e w1 ⟨rfl, hb1⟩
  go_wp2_with fail
  go_ret
  exact ⟨rfl, hb1⟩
end Go.Proofs.Ytfngknnjdcgciaa
