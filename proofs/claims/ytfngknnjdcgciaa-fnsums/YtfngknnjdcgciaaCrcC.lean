/-
  What registerBehind and the code's Crc32 answer.
-/
import Derived.Test.YtfngknnjdcgciaaCrcB
namespace Go.Proofs.Ytfngknnjdcgciaa
open Go.RowKit

theorem crc32_step (s : ByteArray) (k : Nat) (hlt : k < s.size) {r : Nat} (hr : r = regs 3988292384 4294967295 (s.data.toList.take k)) :
    regs 3988292384 4294967295 (s.data.toList.take (k + 1)) = r / 256 ^^^ mv 3988292384 8 (r % 256 ^^^ s[k].toNat) := by
  rw [take_snoc s k hlt, regs_snoc, ← hr, mv_table]

set_option maxRecDepth 100000 in
set_option maxHeartbeats 2000000 in
theorem crc32_behind (s : ByteArray) (w : World) (hs : s.size ≤ maxLen) :
    Calls Try.prog 41 #[.int .u32 3988292384, .string s] w fun e w' => e = .returned (.int .u32 (crc32 s : Nat)) ∧ Below w.heap.size w w' := by
  unfold maxLen at hs
  obtain ⟨Z, hZ⟩ : ∃ Z : Array Value, Z = Array.replicate 256 (Value.int .u32 0) := ⟨_, rfl⟩
  have hz : ∀ w, (zeroValue 59).run Try.prog w = .ok (.agg Z) w := by rw [hZ]; exact (zero_of_info (n := 256) (by kernel_rfl)).1
  have hi41 : (Try.prog.info? 59).map (·.size) = some crc32Tab.size := by rw [crc32Tab_size]; exact (zero_of_info (v := .agg (Array.replicate 256 (Value.int .u32 0))) (by kernel_rfl)).2
  have hZs : Z.size = crc32Tab.size := by rw [hZ, crc32Tab_size]; simp
  have hZc : (Value.agg Z).cells = Z := by rw [hZ]; kernel_rfl
  clear hZ
  have HI : Hid _ := hi41
  have HZ : Hid _ := hZs
  clear hi41 hZs
  go_enter Try.func41, Try.ntmps41
  go_wp2_with fail
  refine (crc32_moves _).mono ?_
  rintro e w1 ⟨rfl, hb1⟩
  have hg1 : Hid _ := heap_alloc_last w1 (.cells Z 59)
  have hx0 : bits .xor .u32 4294967295 0 = 4294967295 := u32_xor_nat 4294967295 0 (by decide) (by decide)
  go_wp2_with (first
    | (refine wpList_store_row rfl 59 _ _ rfl w1.heap.size crc32Tab rfl rfl 59 Z hg1.out HI.out HZ.out crc32Tab_one ?_; rw [World.setRow_alloc_new]))
  clear hz hZc hx0
  go_loop [6, 14] (fun c i => ∃ k : Nat, k ≤ s.size ∧ i = .int .i64 k ∧ c = .int .u32 (regs 3988292384 4294967295 (s.data.toList.take k) : Nat)) (fun _ i => s.size - (crcIntOf i).toNat)
  case atStart => exact ⟨0, by omega, rfl, rfl⟩
  case round =>
    obtain ⟨k, hk, rfl, rfl⟩ := hrel
    by_cases hlt : k < s.size
    · have hr := crc32_lt (s.data.toList.take k)
      have hc : s[k].toNat < 256 := s[k].toNat_lt
      have hn : Hid _ := crc32_step s k hlt rfl
      generalize regs 3988292384 4294967295 (s.data.toList.take k) = r at hr hn
      have hx : bits .xor .u8 ((r : Int) % 256) (s[k].toNat : Int) = ((r % 256 ^^^ s[k].toNat : Nat) : Int) := u8_xor_nat (r % 256) s[k].toNat (by omega) hc
      have hj : r % 256 ^^^ s[k].toNat < 256 := Nat.xor_lt_two_pow (n := 8) (by omega) hc
      generalize r % 256 ^^^ s[k].toNat = j at hx hj hn
      have hcell := (World.cell?_alloc_mark w1 crc32Tab 59 (0, 0) j).trans (crc32Tab_at j hj)
      have hm : mv 3988292384 8 j < 4294967296 := mv_lt (n := 32) (by decide) 8 j (by omega)
      generalize mv 3988292384 8 j = t at hcell hm hn
      have hy : bits .xor .u32 ((r : Int) / 256) (t : Int) = ((r / 256 ^^^ t : Nat) : Int) := u32_xor_nat (r / 256) t (by omega) hm
      go_wp2_with fail
      go_round
      case rel => exact ⟨k + 1, by omega, by go_num, by rw [hn.out]⟩
      case measure => simp [crcIntOf]; omega
    · have hr := crc32_lt s.data.toList
      have hall : s.data.toList.take k = s.data.toList := List.take_of_length_le (by have : s.data.toList.length = s.size := rfl; omega)
      rw [hall]
      have hy : Hid (bits .xor .u32 4294967295 ((regs 3988292384 4294967295 s.data.toList : Nat) : Int) = ((crc32 s : Nat) : Int)) := by
        have := u32_xor_nat 4294967295 _ (by decide) hr
        rw [Nat.xor_comm] at this
        exact this
      clear hall
      generalize regs 3988292384 4294967295 s.data.toList = r at hr hy
      go_wp2_with fail
      go_ret
      exact ⟨by rw [← hy.out]; rfl, hb1.alloc hb1.size _⟩

set_option maxRecDepth 100000 in
theorem crc32_any (s : ByteArray) (w : World) (hs : s.size ≤ maxLen) :
    Calls Try.prog 21 #[.string s] w fun e w' => e = .returned (.int .u32 (crc32 s : Nat)) ∧ Below w.heap.size w w' := by
  go_enter Try.func21, Try.ntmps21
  go_wp2_with fail
  refine (crc32_behind s _ hs).mono ?_
  rintro e w1 ⟨rfl, hb1⟩
  go_wp2_with fail
  go_ret
  exact ⟨rfl, hb1⟩
end Go.Proofs.Ytfngknnjdcgciaa
