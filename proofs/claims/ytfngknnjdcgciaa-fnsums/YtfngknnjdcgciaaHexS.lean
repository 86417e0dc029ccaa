/-
  What the specification's Hex answers.
-/
import Derived.Test.YtfngknnjdcgciaaConv
import Derived.Test.YtfngknnjdcgciaaHexMath
namespace Go.Proofs.Ytfngknnjdcgciaa
open Go.RowKit

set_option maxRecDepth 100000 in
set_option maxHeartbeats 2000000 in
theorem shex_any (s : ByteArray) (w : World) (hs : s.size ≤ 1099511627776) :
    Calls Try.prog 29 #[.string s] w fun e w' => e = .returned (.string ⟨(hexL s.data.toList).toArray⟩) ∧ Below w.heap.size w w' := by
  obtain ⟨i0, hi, hz0, hz1, hz2⟩ := info_parts Try.inf5b
  go_enter Try.func29, Try.ntmps29
  go_wp2_with fail
  go_loopw [3, 4] (fun v i wr => ∃ (k : Nat), k ≤ s.size ∧ i = .int .i64 k ∧ wr.ownsRow w.heap.size 5 1 v (hexL (s.data.toList.take k)).length (Lib.byteCells (hexL (s.data.toList.take k))) ∧ Below w.heap.size w wr)
    (fun _ i _ => s.size - (hexIntOf i).toNat)
  case atStart => exact ⟨0, by omega, rfl, World.ownsRow_made w #[] 0 (Nat.le_refl _) (by unfold maxLen; omega) rfl, (Below.refl _ _).alloc (Nat.le_refl _) _⟩
  case round =>
    obtain ⟨k, hk, rfl, hown, hb⟩ := hrel
    by_cases hlt : k < s.size
    · have hc := s[k].toNat_lt
      have hc1 : (s[k].toNat : Int) / 16 < 16 := by omega
      have hc2 : (s[k].toNat : Int) % 16 < 16 := by omega
      have hc3 : 0 ≤ (s[k].toNat : Int) / 16 := by omega
      have hc4 : 0 ≤ (s[k].toNat : Int) % 16 := by omega
      have hc5 : (s[k].toNat : Int).tmod 16 = (s[k].toNat : Int) % 16 := Int.tmod_eq_emod_of_nonneg (by omega)
      have hw := wraps_u8 ((s[k].toNat : Int) / 16) (by omega) (by omega)
      have hsz := hb.size
      have hln : (hexL (s.data.toList.take k)).length ≤ 2 * s.size := by rw [hexL_len]; have := List.length_take_le k s.data.toList; omega
      go_wp2_with fail
      have hl3 : (hexL (s.data.toList.take k)).length + 2 ≤ maxLen := by unfold maxLen; omega
      have hl4 : ((hexL (s.data.toList.take k)).length + 2) * 1 ≤ 140737488355328 := by omega
      have hsn : Hid (hexL (s.data.toList.take (k + 1)) = _) := (congrArg hexL (hex_take s k hlt)).trans (hexL_snoc _ _)
      go_region_law (refine step_append_mine rfl _ _ 22 rfl w.heap.size 5 i0 (.int .u8 0) 1 1 Try.underlying22 hi hz0 hz1 hz2 rfl (by decide) _ _ _ rfl ((owns_drew hown).alloc _) ⟨wr.heap.size, 0, none⟩ 2 2 [_, _] rfl rfl cell_two two_one hl3 hl4 (by simp; omega) ?_; intro v' w1 hown' hgrow _)
      all_goals
        rw [snoc_hex (c := s[k]) (by omega) (by omega)] at hown'
        have hb2 : Below w.heap.size w w1 := (hb.drew.alloc (by simp; omega) _).grown hgrow (by simp; omega) (fun k hk => (hown.lt k hk).1)
        have H1 : Hid (w1.ownsRow w.heap.size 5 1 v' _ _ ∧ Below w.heap.size w w1) := ⟨hown', hb2⟩
        clear hown' hb2 hgrow hown hb
        go_wp2_with fail
        go_roundw
        case rel => exact ⟨k + 1, by omega, by go_num, by rw [hsn.out]; simpa using H1.out.1, H1.out.2⟩
        case measure => simp [hexIntOf]; omega
    · have hall : s.data.toList.take k = s.data.toList := List.take_of_length_le (by rw [← Lib.size_eq]; omega)
      rw [hall] at hown
      have hcv := conv_bytes hown
      clear hall
      go_wp2_with fail
      go_ret
      exact ⟨rfl, hb⟩
end Go.Proofs.Ytfngknnjdcgciaa
