/-
  What the code's Unhex answers.
-/
import Derived.Test.YtfngknnjdcgciaaConv
import Derived.Test.YtfngknnjdcgciaaUnhexMath
import Derived.Test.YtfngknnjdcgciaaIndexByte
import Derived.Laws.MakeOwn
import Derived.Laws.Rows
namespace Go.Proofs.Ytfngknnjdcgciaa
open Go.RowKit

theorem dig_any (c : UInt8) (w : World) :
    Calls Try.prog 43 #[.string ⟨#[48, 49, 50, 51, 52, 53, 54, 55, 56, 57, 97, 98, 99, 100, 101, 102]⟩, .int .u8 (c.toNat : Int)] w fun e w' => e = .returned (.int .i64 (dv c)) ∧ w' = w := by
  have h := indexByte_any ⟨#[48, 49, 50, 51, 52, 53, 54, 55, 56, 57, 97, 98, 99, 100, 101, 102]⟩ (c.toNat : Int) w
  have e : ((c.toNat : Int)).toNat.toUInt8 = c := by simp
  rw [e] at h
  exact h
theorem set_snoc2 {cur : Array Value} {k : Nat} {l : List Value} (v : Value) (hk : k < cur.size) (h : cur.toList.take k = l) :
    (cur.setIfInBounds k v).toList.take (k + 1) = l ++ [v] := by
  rw [Array.toList_setIfInBounds, List.take_succ_eq_append_getElem (by simpa using hk), List.take_set_of_le (Nat.le_refl k), h]
  simp
theorem conv_row (w : World) (cur : Array Value) (l : List UInt8) (c : Nat) (hl : cur.toList.take l.length = Lib.byteCells l) :
    (convert 22 9 (.slice (some ⟨w.heap.size, 0, none⟩) l.length c)).run Try.prog (w.alloc (.cells cur 5)) = .ok (.string ⟨l.toArray⟩) (w.alloc (.cells cur 5)) := by
  refine run_convert_bytes_back _ 22 9 5 _ c l Try.underlying22 Try.underlying5 Try.underlying9 ?_
  intro j hj
  have h1 : (Lib.byteCells l)[j]? = some (.int .u8 (l[j].toNat : Int)) := by simp [Lib.byteCells, hj]
  have h2 : cur[j]? = some (.int .u8 (l[j].toNat : Int)) := by
    rw [← hl, List.getElem?_take, if_pos hj] at h1
    simpa using h1
  have ea : (⟨w.heap.size, 0, none⟩ : Addr).add j = ⟨w.heap.size, j, none⟩ := by
    unfold Addr.add
    by_cases h0 : j = 0
    · subst h0; simp
    · simp [h0]
  rw [ea, World.cell?_alloc_mark, h2]

set_option maxRecDepth 100000 in
set_option maxHeartbeats 2000000 in
theorem unhex_any (s : ByteArray) (w : World) (hs : s.size ≤ 1099511627776) :
    Calls Try.prog 28 #[.string s] w fun e w' => e = .returned (unhexOut s) ∧ Below w.heap.size w w' := by
  obtain ⟨i0, hi, hz0, hz1, hz2⟩ := info_parts Try.inf5b
  by_cases hodd : s.size % 2 = 1
  · have ho : ((s.size : Int) % 2 != 0) = true := by rw [bne_iff_ne]; omega
    have H : Hid (unhexOut s = _) := unhexOut_none (unhexL_odd _ (by rw [← Lib.size_eq]; exact hodd))
    go_enter Try.func28, Try.ntmps28
    go_wp2_with fail
    go_ret2
    exact ⟨by rw [H.out]; rfl, Below.refl _ _⟩
  · obtain ⟨h, hh⟩ : ∃ h, s.size = 2 * h := ⟨s.size / 2, by omega⟩
    have ho : ((s.size : Int) % 2 != 0) = false := by simp; omega
    obtain ⟨M, hM⟩ : ∃ M, M = madeCells (Value.int .u8 0).cells ((h : Int).toNat * i0.size) := ⟨_, rfl⟩
    have hMs : M.size = h := by rw [hM, size_madeCells, hz1]; simp
    have hmk : ∀ W : World, (Instr.makeSlice 22 (.int .i64 (h : Int)) (.int .i64 (h : Int))).run Try.prog W = .ok (.slice (some ⟨W.heap.size, 0, none⟩) h h) (W.alloc (.cells M 5)) := fun W => by
      have h := run_make (P := Try.prog) W 22 5 i0 (.int .u8 0) Try.underlying22 hi hz0 .i64 .i64 (h : Int) (h : Int) (by omega) (by omega) (by rw [hz2]; omega) (by omega)
      rw [← hM] at h
      simpa using h
    have hq : (s.size : Int) / 2 = h := by omega
    clear hM
    have HH : Hid (s.size = 2 * h) := hh
    have hsb : h ≤ 1099511627776 := by omega
    clear hh
    go_enter Try.func28, Try.ntmps28
    go_wp2_with fail
    clear hmk hq
    go_loopw [18] (fun i wr => ∃ (k : Nat) (acc : List UInt8) (cur : Array Value), k ≤ h ∧ i = .int .i64 (k : Int) ∧ Hid (k = acc.length) ∧ Hid (UAt s (2 * k) acc) ∧ wr = w.alloc (.cells cur 5) ∧ cur.size = h ∧ Hid (cur.toList.take k = Lib.byteCells acc))
      (fun i _ => h - (hexIntOf i).toNat)
    case atStart => exact ⟨0, [], M, by omega, rfl, rfl, uat_start s, rfl, hMs, rfl⟩
    case round =>
      obtain ⟨k, acc, cur, hk, rfl, HA, HU, rfl, hcs, HC⟩ := hrel
      by_cases hlt : k < h
      · have hj1 : 2 * k + 1 < s.size := by have := HH.out; omega
        have hx1 : (2 * (k : Int)) < s.size := by omega
        have hx2 : (2 * (k : Int)) + 1 < s.size := by omega
        obtain ⟨x, hx⟩ : ∃ x, cur[k]? = some x := ⟨_, Array.getElem?_eq_getElem (by omega)⟩
        have hx0 : 0 ≤ 2 * (k : Int) := by omega
        have hx3 : 0 ≤ 2 * (k : Int) + 1 := by omega
        have hj0 : 2 * k < s.size := by omega
        go_wp2_with fail
        refine (dig_any s[2 * k] _).mono ?_
        rintro e w1 ⟨rfl, rfl⟩
        go_wp2_with fail
        refine (dig_any s[2 * k + 1] _).mono ?_
        rintro e w2 ⟨rfl, rfl⟩
        have hA := dv_bd s[2 * k]
        have hB := dv_bd s[2 * k + 1]
        by_cases hf : dv s[2 * k] < 0 ∨ dv s[2 * k + 1] < 0
        · have H : Hid (unhexOut s = _) := unhexOut_none (uat_fail HU.out hj1 hf)
          clear HU
          generalize dv s[2 * k] = A at hA hf ⊢
          generalize dv s[2 * k + 1] = B at hB hf ⊢
          by_cases hA0 : A < 0
          · clear hf
            go_wp2_with fail
            go_ret2
            exact ⟨by rw [H.out]; rfl, (Below.refl _ _).alloc (Nat.le_refl _) _⟩
          · have hB0 : B < 0 := by omega
            clear hf
            go_wp2_with fail
            go_ret2
            exact ⟨by rw [H.out]; rfl, (Below.refl _ _).alloc (Nat.le_refl _) _⟩
        · have hA0 : 0 ≤ dv s[2 * k] := by omega
          have hB0 : 0 ≤ dv s[2 * k + 1] := by omega
          have HN : Hid (UAt s (2 * k + 2) (acc ++ [UInt8.ofNat (16 * dv s[2 * k] + dv s[2 * k + 1]).toNat])) := uat_step HU.out hj1 hA0 hB0
          clear HU hf
          generalize dv s[2 * k] = A at hA hA0 HN ⊢
          generalize dv s[2 * k + 1] = B at hB hB0 HN ⊢
          obtain ⟨hA1, hA2⟩ := hA
          obtain ⟨hB1, hB2⟩ := hB
          have HC2 : Hid _ := (set_snoc2 (.int .u8 (16 * A + B)) (by omega) HC.out).trans (snoc_v (x := 16 * A + B) (by omega) (by omega))
          go_wp2_with fail
          go_roundw
          case rel => exact ⟨k + 1, acc ++ [UInt8.ofNat (16 * A + B).toNat], _, by omega, by go_num, by show _ = _; rw [List.length_append, List.length_singleton]; have := HA.out; omega, HN, rfl, by simpa using hcs, HC2⟩
          case measure => simp [hexIntOf]; omega
      · obtain rfl : k = h := by omega
        have H : Hid (unhexOut s = _) := unhexOut_some (uat_end HU.out (by have := HH.out; omega))
        have hcv := conv_row w cur acc k (by rw [← HA.out]; exact HC.out)
        rw [← HA.out] at hcv
        clear HU
        go_wp2_with fail
        go_ret2
        exact ⟨by rw [H.out]; rfl, (Below.refl _ _).alloc (Nat.le_refl _) _⟩
end Go.Proofs.Ytfngknnjdcgciaa
