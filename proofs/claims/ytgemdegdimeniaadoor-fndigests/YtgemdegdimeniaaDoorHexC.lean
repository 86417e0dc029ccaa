/-
  What the code's Hex answers.
-/
import Derived.Test.YtgemdegdimeniaaDoorConv
import Derived.Test.YtgemdegdimeniaaDoorHexMath
import Derived.Laws.MakeOwn
import Derived.Laws.Rows
namespace Go.Proofs.YtgemdegdimeniaaDoor
open Go.RowKit

set_option maxRecDepth 100000 in
set_option maxHeartbeats 2000000 in
theorem hex_any (s : ByteArray) (w : World) (hs : s.size ≤ 1099511627776) :
    Calls Tryd.prog 9 #[.string s] w fun e w' => e = .returned (.string ⟨(hexL s.data.toList).toArray⟩) ∧ Below w.heap.size w w' := by
  obtain ⟨i0, hi, hz0, hz1, hz2⟩ := info_parts Tryd.inf5b
  obtain ⟨M, hM⟩ : ∃ M, M = madeCells (Value.int .u8 0).cells ((2 * (s.size : Int)).toNat * i0.size) := ⟨_, rfl⟩
  have hMs : M.size = 2 * s.size * 1 := by rw [hM, size_madeCells, hz1]; simp; omega
  have hmk : ∀ W : World, (Instr.makeSlice 22 (.int .i64 0) (.int .i64 (2 * (s.size : Int)))).run Tryd.prog W = .ok (.slice (some ⟨W.heap.size, 0, none⟩) 0 (2 * s.size)) (W.alloc (.cells M 5)) := fun W => by
    have h := run_make (P := Tryd.prog) W 22 5 i0 (.int .u8 0) Tryd.underlying22 hi hz0 .i64 .i64 0 (2 * (s.size : Int)) (by omega) (by omega) (by rw [hz2]; omega) (by omega)
    rw [← hM] at h
    have e : (2 * (s.size : Int)).toNat = 2 * s.size := by omega
    rw [e] at h
    simpa using h
  clear hM
  go_enter Tryd.func9, Tryd.ntmps9
  go_wp2_with fail
  clear hmk
  go_loopw [3, 11] (fun v i wr => ∃ (k : Nat), k ≤ s.size ∧ i = .int .i64 k ∧ wr.ownsRow w.heap.size 5 1 v (hexL (s.data.toList.take k)).length (Lib.byteCells (hexL (s.data.toList.take k))) ∧ Below w.heap.size w wr)
    (fun _ i _ => s.size - (hexIntOf i).toNat)
  case atStart => exact ⟨0, by omega, rfl, World.ownsRow_made w M (2 * s.size) (Nat.le_refl _) (by unfold maxLen; omega) hMs, (Below.refl _ _).alloc (Nat.le_refl _) _⟩
  case round =>
    obtain ⟨k, hk, rfl, hown, hb⟩ := hrel
    by_cases hlt : k < s.size
    · have hc := s[k].toNat_lt
      have hc1 : (s[k].toNat : Int) / 16 < 16 := by omega
      have hc2 : (s[k].toNat : Int) % 16 < 16 := by omega
      have hc3 : 0 ≤ (s[k].toNat : Int) / 16 := by omega
      have hc4 : 0 ≤ (s[k].toNat : Int) % 16 := by omega
      have hc5 : bits .and .u8 (s[k].toNat : Int) 15 = (s[k].toNat : Int) % 16 := bits_mask .u8 8 (by decide) wraps_u8 4 (by decide) _ (by omega) (by omega)
      have hw := wraps_u8 ((s[k].toNat : Int) / 16) (by omega) (by omega)
      have hsz := hb.size
      have hln : (hexL (s.data.toList.take k)).length ≤ 2 * s.size := by rw [hexL_len]; have := List.length_take_le k s.data.toList; omega
      go_wp2_with fail
      have hl3 : (hexL (s.data.toList.take k)).length + 2 ≤ maxLen := by unfold maxLen; omega
      have hl4 : ((hexL (s.data.toList.take k)).length + 2) * 1 ≤ 140737488355328 := by omega
      have hsn : Hid (hexL (s.data.toList.take (k + 1)) = _) := (congrArg hexL (hex_take s k hlt)).trans (hexL_snoc _ _)
      go_region_law (refine step_append_mine rfl _ _ 22 rfl w.heap.size 5 i0 (.int .u8 0) 1 1 Tryd.underlying22 hi hz0 hz1 hz2 rfl (by decide) _ _ _ rfl ((owns_drew hown).alloc _) ⟨wr.heap.size, 0, none⟩ 2 2 [_, _] rfl rfl cell_two two_one hl3 hl4 (by simp; omega) ?_; intro v' w1 hown' hgrow _)
      all_goals
        rw [snoc_hex (c := s[k]) (by omega) (by omega)] at hown'
        have hb2 : Below w.heap.size w w1 := (hb.drew.alloc (by simp; omega) _).grown hgrow (by simp; omega) (fun k hk => (hown.lt k hk).1)
        have H1 : Hid (w1.ownsRow w.heap.size 5 1 v' _ _ ∧ Below w.heap.size w w1) := ⟨hown', hb2⟩
        clear hown' hb2 hgrow hown hb
        go_wp2_with fail
        go_roundw
        case rel => exact ⟨k + 1, by omega, by go_num, by rw [hsn.out]; simpa using H1.out.1, H1.out.2⟩
        case measure => simp [hexIntOf]; omega
    · have hall : s.data.toList.take k = s.data.toList := List.take_of_length_le (by rw [← Lib.size_eq]; omega)
      rw [hall] at hown
      have hcv := conv_bytes hown
      clear hall
      go_wp2_with fail
      go_ret
      exact ⟨rfl, hb⟩
end Go.Proofs.YtgemdegdimeniaaDoor
