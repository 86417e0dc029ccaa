/-
  What maskedKey and l2Mask answer.
-/
import Derived.Test.YtnkahdidelhdaacGreatDoorHmMath
import Derived.Test.YtnkahdidelhdaacGreatDoorShaHigh
import Derived.Laws.OwnMore
import Derived.Lib.BufferWrite
import Derived.Lib.SlBuf
import Derived.BigQuiet
import Derived.Deep.WholeRow
namespace Go.Proofs.YtnkahdidelhdaacGreatDoor
open Go.RowKit

theorem cell_set {cur : Array Value} {n i j : Nat} {v : Value} (hs : cur.size = n) (hi : i < n) : (cur.setIfInBounds i v)[j]? = if i = j then some v else cur[j]? := by
  by_cases e : i = j
  · subst e; rw [if_pos rfl, Array.getElem?_setIfInBounds_self_of_lt (by omega)]
  · rw [if_neg e, Array.getElem?_setIfInBounds_ne e]
set_option maxRecDepth 100000 in
set_option maxHeartbeats 2000000 in
theorem smask_any (k : ByteArray) (x : Nat) (w : World) (hx : x < 256) :
    Calls Tryz.prog 40 #[.string k, .int .u8 (x : Int)] w fun e w' => e = .returned (.string (maskB k x)) ∧ Below w.heap.size w w' := by
  obtain ⟨i0, hi, hz0, hz1, hz2⟩ := info_parts Tryz.inf5b
  obtain ⟨M, hM⟩ : ∃ M, M = madeCells (Value.int .u8 0).cells ((64 : Int).toNat * i0.size) := ⟨_, rfl⟩
  have hMs : M.size = 64 := by rw [hM, size_madeCells, hz1]; rfl
  have hM0 : ∀ j, j < 64 → M[j]? = some (.int .u8 0) := fun j hj => by
    have e : M.toList = List.replicate 64 (.int .u8 0) := by rw [hM, hz1]; exact toList_madeCells_one _ _
    rw [← Array.getElem?_toList, e, List.getElem?_replicate, if_pos hj]
  have hmk : ∀ W : World, (Instr.makeSlice 22 (.int .i64 64) (.int .i64 64)).run Tryz.prog W = .ok (.slice (some ⟨W.heap.size, 0, none⟩) 64 64) (W.alloc (.cells M 5)) := fun W => by
    have h := run_make (P := Tryz.prog) W 22 5 i0 (.int .u8 0) Tryz.underlying22 hi hz0 .i64 .i64 64 64 (by omega) (by omega) (by rw [hz2]; omega) (by omega)
    rw [← hM] at h
    simpa using h
  clear hM
  go_enter Tryz.func40, Tryz.ntmps40
  go_wp2_with fail
  clear hmk
  go_loopw [6] (fun c wr => ∃ (i : Nat) (cur : Array Value), i ≤ 64 ∧ c = .int .i64 (i : Int) ∧ wr = w.alloc (.cells cur 5) ∧ cur.size = 64 ∧ Hid (∀ j, j < i → cur[j]? = some (.int .u8 (mk8 k x j : Int))) ∧ Hid (∀ j, i ≤ j → j < 64 → cur[j]? = some (.int .u8 0)))
    (fun c _ => 64 - (bigIntOf c).toNat)
  case atStart => exact ⟨0, M, by omega, rfl, rfl, hMs, fun j hj => absurd hj (by omega), fun j _ hj => hM0 j hj⟩
  case round =>
    obtain ⟨i, cur, hi64, rfl, rfl, hcs, HC, HZ⟩ := hrel
    clear hM0
    by_cases hlt : i < 64
    · have hc0 := HZ.out i (Nat.le_refl _) hlt
      have hm := mk8_lt k hx i
      have HS : Hid (∀ v, ∀ j, (cur.setIfInBounds i v)[j]? = if i = j then some v else cur[j]?) := fun v j => cell_set hcs hlt
      have HC2 : Hid (∀ j, j < i + 1 → (cur.setIfInBounds i (.int .u8 (mk8 k x i : Int)))[j]? = some (.int .u8 (mk8 k x j : Int))) := fun j hj => by
        rw [HS.out]
        by_cases e : i = j
        · subst e; rw [if_pos rfl]
        · rw [if_neg e]; exact HC.out j (by omega)
      have HZ2 : Hid (∀ j, i + 1 ≤ j → j < 64 → (cur.setIfInBounds i (.int .u8 (mk8 k x i : Int)))[j]? = some (.int .u8 0)) := fun j h1 h2 => by
        rw [HS.out, if_neg (by omega)]; exact HZ.out j (by omega) h2
      by_cases hin : i < k.size
      · have hb := bsOf_at k i hin
        have hbl := bsOf_lt k i
        have hxo : bits .xor .u8 (bsOf k i : Int) (x : Int) = ((mk8 k x i : Nat) : Int) := u8_xor_nat (bsOf k i) x hbl hx
        have hself : (cur.setIfInBounds i (.int .u8 (bsOf k i : Int)))[i]? = some (.int .u8 (bsOf k i : Int)) := by rw [HS.out, if_pos rfl]
        generalize mk8 k x i = y at hm HC2 HZ2 hxo
        generalize bsOf k i = b at hb hbl hxo hself
        have hss : ((cur.setIfInBounds i (.int .u8 (b : Int))).setIfInBounds i (.int .u8 (y : Int))) = cur.setIfInBounds i (.int .u8 (y : Int)) := by simp
        go_wp2_with fail
        go_roundw
        case rel => exact ⟨i + 1, _, by omega, by go_num, rfl, by simpa using hcs, HC2, HZ2⟩
        case measure => simp [bigIntOf]; omega
      · have hxo : bits .xor .u8 0 (x : Int) = ((mk8 k x i : Nat) : Int) := by
          have := u8_xor_nat 0 x (by omega) hx
          unfold mk8
          rw [bsOf_ge k i (by omega)]
          exact this
        generalize mk8 k x i = y at hm HC2 HZ2 hxo
        have hcell := (World.cell?_alloc_mark w cur 5 (0, 0) i).trans hc0
        have hcz2 : cur[i] = .int .u8 0 := by
          rw [Array.getElem?_eq_getElem (by omega)] at hc0; injection hc0
        go_wp2_with fail
        go_roundw
        case rel => exact ⟨i + 1, _, by omega, by go_num, rfl, by simpa using hcs, HC2, HZ2⟩
        case measure => simp [bigIntOf]; omega
    · obtain rfl : i = 64 := by omega
      have hcur : cur.toList = Lib.byteCells (maskL k x) := by
        apply List.ext_getElem?
        intro j
        by_cases hj : j < 64
        · rw [Array.getElem?_toList, HC.out j hj, maskL_cells k hx j hj]
        · rw [List.getElem?_eq_none (by simpa [hcs] using hj), List.getElem?_eq_none (by simpa [Lib.byteCells, maskL_len] using hj)]
      have hcv := conv_rowb w cur (maskL k x) 64 (by rw [← hcur, maskL_len, List.take_of_length_le (by simp [hcs])])
      rw [maskL_len] at hcv
      clear hcur
      go_wp2_with fail
      go_ret
      exact ⟨rfl, (Below.refl _ _).alloc (Nat.le_refl _) _⟩
theorem arr64_ty : Tryz.prog.underlying 75 = some (.array (Tryz.prog.arrayLen 75) (Tryz.prog.elem 75)) := by kernel_rfl
theorem arr64_len : Tryz.prog.arrayLen 75 = 64 := by kernel_rfl
theorem arr64_slice (W : World) (b : Nat) :
    (Instr.sliceAt 75 (.pointer (some ⟨b, 0, none⟩)) none none none).run Tryz.prog W = .ok (.slice (some ⟨b, 0, none⟩) 64 64) W := by
  have hsz : (sizeOf (Tryz.prog.elem 75)).run Tryz.prog W = .ok 1 W := by kernel_rfl
  rw [run_sliceAt_array_all W 75 _ arr64_ty, hsz, arr64_len]
  simp [slicedAt, Result.andThen, Addr.add]
theorem conv_arr64 (w : World) (cur : Array Value) (l : List UInt8) (hl : cur.toList = Lib.byteCells l) :
    (convert 22 9 (.slice (some ⟨w.heap.size, 0, none⟩) l.length l.length)).run Tryz.prog (w.alloc (.cells cur 75)) = .ok (.string ⟨l.toArray⟩) (w.alloc (.cells cur 75)) := by
  refine run_convert_bytes_back _ 22 9 5 _ _ l Tryz.underlying22 Tryz.underlying5 Tryz.underlying9 ?_
  intro j hj
  have h1 : (Lib.byteCells l)[j]? = some (.int .u8 (l[j].toNat : Int)) := by simp [Lib.byteCells, hj]
  have h2 : cur[j]? = some (.int .u8 (l[j].toNat : Int)) := by
    rw [← hl] at h1
    simpa using h1
  have ea : (⟨w.heap.size, 0, none⟩ : Addr).add j = ⟨w.heap.size, j, none⟩ := by
    unfold Addr.add
    by_cases h0 : j = 0
    · subst h0; simp
    · simp [h0]
  rw [ea, World.cell?_alloc_mark, h2]
set_option maxRecDepth 100000 in
set_option maxHeartbeats 2000000 in
theorem mask_any (k : ByteArray) (x : Nat) (w : World) (hx : x < 256) (hk : k.size ≤ 64) :
    Calls Tryz.prog 26 #[.string k, .int .u8 (x : Int)] w fun e w' => e = .returned (.string (maskB k x)) ∧ Below w.heap.size w w' := by
  have hsl := arr64_slice
  have hst : (Tryz.prog.info? 5).map (·.size) = some 1 := by kernel_rfl
  obtain ⟨Z, hZ⟩ : ∃ Z : Array Value, Z = Array.replicate 64 (Value.int .u8 0) := ⟨_, rfl⟩
  have hz : ∀ w, (zeroValue 75).run Tryz.prog w = .ok (.agg Z) w := by rw [hZ]; exact (zero_of_info (n := 64) (by kernel_rfl)).1
  have hZs : Z.size = 64 := by rw [hZ]; simp
  have hZc : (Value.agg Z).cells = Z := by rw [hZ]; kernel_rfl
  obtain ⟨C, hC⟩ : ∃ C, C = (Z.toList.take 0 ++ Lib.byteCells k.data.toList ++ Z.toList.drop (0 + k.size)).toArray := ⟨_, rfl⟩
  have hcp : ∀ ty, (Builtin.copy_ #[22, 9] ty #[.slice (some ⟨w.heap.size, 0, none⟩) 64 64, .string k]).run Tryz.prog (w.alloc (.cells Z 75)) = .ok (goInt k.size) (w.alloc (.cells C 75)) := fun ty => by
    have := Lib.run_copy_row_string (P := Tryz.prog) (w.alloc (.cells Z 75)) 22 9 ty 5 w.heap.size 0 64 64 k Z 75 Tryz.underlying22 hst (heap_alloc_new w _) hk (by omega)
    rw [hC]
    rwa [World.setRow_alloc_new] at this
  have hCs : C.size = 64 := by
    rw [hC]; simp [Lib.byteCells, hZs]
    have : k.data.size = k.size := rfl
    omega
  have hC0 : ∀ j, j < 64 → C[j]? = some (.int .u8 (bsOf k j : Int)) := fun j hj => by
    rw [hC, List.take_zero, List.nil_append, Nat.zero_add, List.getElem?_toArray]
    by_cases h : j < k.size
    · rw [List.getElem?_append_left (by rw [Lib.byteCells, List.length_map, ← Lib.size_eq]; exact h)]
      rw [Lib.byteCells, List.getElem?_map, ← bsOf_at k j h, List.getElem?_eq_getElem (by rw [← Lib.size_eq]; exact h)]; rfl
    · rw [List.getElem?_append_right (by rw [Lib.byteCells, List.length_map, ← Lib.size_eq]; omega), bsOf_ge k j (by omega), hZ, Array.toList_replicate, List.getElem?_drop, List.getElem?_replicate]
      rw [if_pos]
      · rfl
      · rw [Lib.byteCells, List.length_map, ← Lib.size_eq]; omega
  have HC0 : Hid _ := hC0
  clear hC hZ hC0 hst
  go_enter Tryz.func26, Tryz.ntmps26
  go_wp2_with (at_builtin; (refine Lib.wpList_copy_run _ rfl _ _ 22 9 rfl _ _ rfl rfl (hcp _) ?_))
  clear hcp hz hZc hZs
  go_loopw [10] (fun c wr => ∃ (i : Nat) (cur : Array Value), i ≤ 64 ∧ c = .int .i64 (i : Int) ∧ wr = w.alloc (.cells cur 75) ∧ cur.size = 64 ∧ Hid (∀ j, j < i → cur[j]? = some (.int .u8 (mk8 k x j : Int))) ∧ Hid (∀ j, i ≤ j → j < 64 → cur[j]? = some (.int .u8 (bsOf k j : Int))))
    (fun c _ => 64 - (bigIntOf c).toNat)
  case atStart => exact ⟨0, C, by omega, rfl, rfl, hCs, fun j hj => absurd hj (by omega), fun j _ hj => HC0.out j hj⟩
  case round =>
    obtain ⟨i, cur, hi64, rfl, rfl, hcs, HC, HZ⟩ := hrel
    clear hCs
    by_cases hlt : i < 64
    · have hc0 := HZ.out i (Nat.le_refl _) hlt
      have hm := mk8_lt k hx i
      have hbl := bsOf_lt k i
      have hxo : bits .xor .u8 (bsOf k i : Int) (x : Int) = ((mk8 k x i : Nat) : Int) := u8_xor_nat (bsOf k i) x hbl hx
      have HS : Hid (∀ v, ∀ j, (cur.setIfInBounds i v)[j]? = if i = j then some v else cur[j]?) := fun v j => cell_set hcs hlt
      have HC2 : Hid (∀ j, j < i + 1 → (cur.setIfInBounds i (.int .u8 (mk8 k x i : Int)))[j]? = some (.int .u8 (mk8 k x j : Int))) := fun j hj => by
        rw [HS.out]
        by_cases e : i = j
        · subst e; rw [if_pos rfl]
        · rw [if_neg e]; exact HC.out j (by omega)
      have HZ2 : Hid (∀ j, i + 1 ≤ j → j < 64 → (cur.setIfInBounds i (.int .u8 (mk8 k x i : Int)))[j]? = some (.int .u8 (bsOf k j : Int))) := fun j h1 h2 => by
        rw [HS.out, if_neg (by omega)]; exact HZ.out j (by omega) h2
      have hcz2 : cur[i] = .int .u8 (bsOf k i : Int) := by
        rw [Array.getElem?_eq_getElem (by omega)] at hc0; injection hc0
      have hcell := (World.cell?_alloc_mark w cur 75 (0, 0) i).trans hc0
      generalize mk8 k x i = y at hm HC2 HZ2 hxo
      generalize bsOf k i = b at hbl hxo hcz2 hcell hc0
      go_wp2_with fail
      go_roundw
      case rel => exact ⟨i + 1, _, by omega, by go_num, rfl, by simpa using hcs, HC2, HZ2⟩
      case measure => simp [bigIntOf]; omega
    · obtain rfl : i = 64 := by omega
      have hcur : cur.toList = Lib.byteCells (maskL k x) := by
        apply List.ext_getElem?
        intro j
        by_cases hj : j < 64
        · rw [Array.getElem?_toList, HC.out j hj, maskL_cells k hx j hj]
        · rw [List.getElem?_eq_none (by simpa [hcs] using hj), List.getElem?_eq_none (by simpa [Lib.byteCells, maskL_len] using hj)]
      have hcv := conv_arr64 w cur (maskL k x) hcur
      rw [maskL_len] at hcv
      clear hcur
      go_wp2_with fail
      go_ret
      exact ⟨rfl, (Below.refl _ _).alloc (Nat.le_refl _) _⟩
end Go.Proofs.YtnkahdidelhdaacGreatDoor
