/-
  Encrypt: the code's.
-/
import Derived.Test.YtnkahdidelhdaabEncAll
import Derived.Lib.BytesEntry
import Derived.Lib.UnsafeStr
namespace Go.Proofs.Ytnkahdidelhdaab
open Go.RowKit
set_option linter.unusedVariables false

/-- sixteen bytes as a text -/
def outL (s : Nat → Nat) : List UInt8 := (List.range 16).map fun i => UInt8.ofNat (s i)
theorem outL_len (s : Nat → Nat) : (outL s).length = 16 := by simp [outL]
theorem outL_cells {s : Nat → Nat} (hs : ∀ i, s i < 256) {j : Nat} (hj : j < 16) : (Lib.byteCells (outL s))[j]? = some (.int .u8 (s j : Nat)) := by
  rw [Lib.byteCells, List.getElem?_map, outL, List.getElem?_map, List.getElem?_range hj]
  simp [UInt8.toNat_ofNat', Nat.mod_eq_of_lt (hs j)]
def encB (blk W : Nat → Nat) : ByteArray := ⟨(outL (stB blk W 14)).toArray⟩

theorem arr16_ty : Try.prog.underlying 58 = some (.array (Try.prog.arrayLen 58) (Try.prog.elem 58)) := by kernel_rfl
theorem arr16_len : Try.prog.arrayLen 58 = 16 := by kernel_rfl
theorem arr16_slice (W : World) (b : Nat) :
    (Instr.sliceAt 58 (.pointer (some ⟨b, 0, none⟩)) none none none).run Try.prog W = .ok (.slice (some ⟨b, 0, none⟩) 16 16) W := by
  have hsz : (sizeOf (Try.prog.elem 58)).run Try.prog W = .ok 1 W := by kernel_rfl
  rw [run_sliceAt_array_all W 58 _ arr16_ty, hsz, arr16_len]
  simp [slicedAt, Result.andThen, Addr.add]
theorem conv_arr16 (w : World) (cur : Array Value) (l : List UInt8) (hl : cur.toList = Lib.byteCells l) :
    (convert 22 9 (.slice (some ⟨w.heap.size, 0, none⟩) l.length l.length)).run Try.prog (w.alloc (.cells cur 58)) = .ok (.string ⟨l.toArray⟩) (w.alloc (.cells cur 58)) := by
  refine run_convert_bytes_back _ 22 9 5 _ _ l Try.underlying22 Try.underlying5 Try.underlying9 ?_
  intro j hj
  have h1 : (Lib.byteCells l)[j]? = some (.int .u8 (l[j].toNat : Int)) := by simp [Lib.byteCells, hj]
  have h2 : cur[j]? = some (.int .u8 (l[j].toNat : Int)) := by
    rw [← hl] at h1
    simpa using h1
  have ea : (⟨w.heap.size, 0, none⟩ : Addr).add j = ⟨w.heap.size, j, none⟩ := by
    unfold Addr.add
    by_cases h0 : j = 0
    · subst h0; simp
    · simp [h0]
  rw [ea, World.cell?_alloc_mark, h2]
theorem kw_all {bs : Nat → Nat} (hb : ∀ j, bs j < 256) : ∀ j, j < 60 → kw bs j < 4294967296 := fun j hj => kw_lt hb j hj

set_option maxRecDepth 100000 in
theorem encrypt_no (k blk : ByteArray) (w : World) (h : ¬ (k.size = 32 ∧ blk.size = 16)) :
    Calls Try.prog 15 #[.string k, .string blk] w fun e w' => e = .returned (.tuple #[.string ⟨#[]⟩, .bool false]) ∧ w' = w := by
  by_cases hk : k.size = 32
  · have h1 : (k.size : Int) = 32 := by omega
    have h2 : ¬ (blk.size : Int) = 16 := by omega
    have h3 : ((blk.size : Int) != 16) = true := by simp; omega
    clear h hk
    go_enter Try.func15, Try.ntmps15
    go_wp2_with fail
    go_ret2
    exact ⟨rfl, rfl⟩
  · have h1 : ¬ (k.size : Int) = 32 := by omega
    have h3 : ((k.size : Int) != 32) = true := by simp; omega
    clear h hk
    go_enter Try.func15, Try.ntmps15
    go_wp2_with fail
    go_ret2
    exact ⟨rfl, rfl⟩
set_option maxRecDepth 100000 in
set_option maxHeartbeats 2000000 in
theorem encrypt_any (k blk : ByteArray) (w : World) (hk : k.size = 32) (hb : blk.size = 16) :
    Calls Try.prog 15 #[.string k, .string blk] w fun e w' => e = .returned (.tuple #[.string (encB (bsOf blk) (kw (bsOf k))), .bool true]) ∧ Below w.heap.size w w' := by
  have HK : Hid (k.size = 32 ∧ blk.size = 16) := ⟨hk, hb⟩
  have h1 : (k.size : Int) = 32 := by omega
  have h2 : (blk.size : Int) = 16 := by omega
  clear hk hb
  obtain ⟨Z, hZ⟩ : ∃ Z : Array Value, Z = cols fun _ => 0 := ⟨_, rfl⟩
  have hz := col_zero
  rw [← hZ] at hz
  have hZs : Z.size = 4 := by rw [hZ]; rfl
  have hZc : (Value.agg Z).cells = Z := by rw [hZ]; kernel_rfl
  obtain ⟨Y, hY⟩ : ∃ Y : Array Value, Y = Array.replicate 16 (Value.int .u8 0) := ⟨_, rfl⟩
  have hy : ∀ w, (zeroValue 58).run Try.prog w = .ok (.agg Y) w := by rw [hY]; exact (zero_of_info (n := 16) (by kernel_rfl)).1
  have hYs : Y.size = 16 := by rw [hY]; simp
  have hYc : (Value.agg Y).cells = Y := by rw [hY]; kernel_rfl
  have HY0 : Hid (∀ j, j < 16 → Y[j]? = some (.int .u8 0)) := fun j hj => by rw [hY, Array.getElem?_replicate, if_pos hj]
  have HYS : Hid _ := hYs
  have HZS : Hid _ := hZs
  clear hZ hY hYs hZs
  have hsl := arr16_slice
  have HI : Hid _ := col_info
  go_enter Try.func15, Try.ntmps15
  go_wp2_with fail
  refine (with_any k _ HK.out.1).mono ?_
  rintro e w1 ⟨b, rfl, hcw⟩
  have HCW : Hid _ := hcw
  clear hcw
  go_wp2_with fail
  refine (columns_any blk _ (by rw [HK.out.2]; omega)).mono ?_
  rintro e w2 ⟨rfl, hb2⟩
  have HB2 : Hid (Below w.heap.size w w2 ∧ KC b (kw (bsOf k)) w2) := ⟨below_trans HCW.out.below hb2 HCW.out.below.size, HCW.out.kc.below hb2 HCW.out.lt⟩
  clear hb2 HCW
  have HEN : Hid (Calls Try.prog 34 #[.pointer (some ⟨b, 0, none⟩), .agg (cols (cl (bsOf blk)))] w2 fun e w' => e = .returned (.agg (cols (cl (stB (bsOf blk) (kw (bsOf k)) 14)))) ∧ Below w2.heap.size w2 w') :=
    enc_any b _ _ w2 (bsOf_lt blk) HB2.out.2 (kw_all (bsOf_lt k))
  have HSL : Hid (∀ i, stB (bsOf blk) (kw (bsOf k)) 14 i < 256) := stB_lt (bsOf_lt blk) 14
  have HEB : Hid (encB (bsOf blk) (kw (bsOf k)) = ⟨(outL (stB (bsOf blk) (kw (bsOf k)) 14)).toArray⟩) := rfl
  generalize stB (bsOf blk) (kw (bsOf k)) 14 = s at HEN HSL HEB
  generalize cols (cl (bsOf blk)) = D0 at HEN ⊢
  obtain ⟨D, hD⟩ : ∃ D : Array Value, D = cols (cl s) := ⟨_, rfl⟩
  rw [← hD] at HEN
  have HDC : Hid (∀ j, j < 4 → D[j]? = some (.int .u32 (cl s j : Nat))) := fun j hj => by rw [hD]; exact cols_at _ hj
  have HDI : Hid (Option.map (·.size) (Try.prog.info? 53) = some D.size ∧ Z.size = D.size ∧ D.all (·.oneCell') = true) := by rw [hD, HZS.out]; exact ⟨HI.out, rfl, cols_one _⟩
  clear hD
  go_wp2_with fail
  refine HEN.out.mono ?_
  rintro e w3 ⟨rfl, hb3⟩
  have HB3 : Hid (Below w.heap.size w w3) := below_trans HB2.out.1 hb3 HB2.out.1.size
  clear hb3 HB2 HEN
  go_wp2_with (refine wpList_store_row rfl 53 _ (.tmp 21) rfl w3.heap.size D rfl rfl 53 Z (by exact heap_alloc_new w3 _) HDI.out.1 HDI.out.2.1 HDI.out.2.2 ?_)
  have hrow := setRow_heap (w3.alloc (.cells Z 53)) w3.heap.size Z D 53 (0, 0) (heap_alloc_new w3 _)
  have hsz : ((w3.alloc (.cells Z 53)).setRow w3.heap.size D).heap.size = w3.heap.size + 1 := by simp
  have hb4 : Below w.heap.size w ((w3.alloc (.cells Z 53)).setRow w3.heap.size D) :=
    (HB3.out.alloc HB3.out.size _).trans ⟨rfl, rfl, rfl, by simp, fun k hk => setRow_other _ _ _ _ (by have := HB3.out.size; omega)⟩
  rw [← hsz]
  generalize (w3.alloc (.cells Z 53)).setRow w3.heap.size D = W4 at hrow hsz hb4 ⊢
  have HA : Hid (∀ cur j, j < 4 → (W4.alloc (.cells cur 58)).cell? ⟨w3.heap.size, j, none⟩ = some (.int .u32 (cl s j : Nat))) := fun cur j hj => by
    have hb := (Below.refl W4.heap.size W4).alloc (Nat.le_refl _) (.cells cur 58)
    rw [hb.cell (p := ⟨w3.heap.size, j, none⟩) (by show w3.heap.size < _; omega), cell_of_row W4 _ j _ _ _ hrow]
    exact HDC.out j hj
  have HB4 : Hid (Below w.heap.size w W4) := hb4
  have HSZ : Hid _ := hsz
  clear hsz hb4 hrow hz hZc hy hYc HB3 HDI HDC HZS HI
  go_loopw [22] (fun c wr => ∃ (n : Nat) (cur : Array Value), n ≤ 16 ∧ c = .int .i64 (n : Int) ∧ wr = W4.alloc (.cells cur 58) ∧ cur.size = 16 ∧ Hid (∀ j, j < n → cur[j]? = some (.int .u8 (s j : Nat))) ∧ Hid (∀ j, n ≤ j → j < 16 → cur[j]? = some (.int .u8 0)))
    (fun c _ => 16 - (cipIntOf c).toNat)
  case atStart => exact ⟨0, Y, by omega, rfl, rfl, HYS.out, fun j hj => absurd hj (by omega), fun j _ hj => HY0.out j hj⟩
  case round =>
    obtain ⟨n, cur, hn, rfl, hwr, hcs, HC, HZ⟩ := hrel
    subst hwr
    by_cases hlt : n < 16
    · have hc0 := HZ.out n (Nat.le_refl _) hlt
      have HS : Hid (∀ v, ∀ j, (cur.setIfInBounds n v)[j]? = if n = j then some v else cur[j]?) := fun v j => by
        rw [Array.getElem?_setIfInBounds]
        by_cases e : n = j
        · subst e; rw [if_pos rfl, if_pos (by omega), if_pos rfl]
        · rw [if_neg e, if_neg e]
      have HC2 : Hid (∀ j, j < n + 1 → (cur.setIfInBounds n (.int .u8 (s n : Nat)))[j]? = some (.int .u8 (s j : Nat))) := fun j hj => by
        rw [HS.out]
        by_cases e : n = j
        · subst e; rw [if_pos rfl]
        · rw [if_neg e]; exact HC.out j (by omega)
      have HZ2 : Hid (∀ j, n + 1 ≤ j → j < 16 → (cur.setIfInBounds n (.int .u8 (s n : Nat)))[j]? = some (.int .u8 0)) := fun j h1 h2 => by
        rw [HS.out, if_neg (by omega)]; exact HZ.out j (by omega) h2
      have hcell := (World.cell?_alloc_mark W4 cur 58 (0, 0) n).trans hc0
      have HBY : Hid (Calls Try.prog 36 #[.pointer (some ⟨w3.heap.size, 0, none⟩), .int .i64 (n : Int)] (W4.alloc (.cells cur 58)) fun e w' => e = .returned (.int .u8 (s n : Nat)) ∧ w' = W4.alloc (.cells cur 58)) :=
        byte_any w3.heap.size s n _ HSL.out hlt (HA.out cur (n / 4) (by omega))
      clear HS
      generalize s n = y at HC2 HZ2 HBY
      go_wp2_with fail
      refine HBY.out.mono ?_
      rintro e w' ⟨rfl, hw⟩
      subst w'
      go_wp2_with fail
      go_roundw
      case rel => exact ⟨n + 1, _, by omega, by go_num, rfl, by simpa using hcs, HC2, HZ2⟩
      case measure => simp [cipIntOf]; omega
    · obtain rfl : n = 16 := by omega
      have hcur : cur.toList = Lib.byteCells (outL s) := by
        apply List.ext_getElem?
        intro j
        by_cases hj : j < 16
        · rw [Array.getElem?_toList, HC.out j hj, outL_cells HSL.out hj]
        · rw [List.getElem?_eq_none (by simpa [hcs] using hj), List.getElem?_eq_none (by simpa [Lib.byteCells, outL_len] using hj)]
      have hcv := conv_arr16 W4 cur (outL s) hcur
      rw [outL_len] at hcv
      rw [← HEB.out] at hcv
      have HBF : Hid (Below w.heap.size w (W4.alloc (.cells cur 58))) := HB4.out.alloc HB4.out.size _
      clear hcur HEB HC HZ HA
      generalize hR : encB (bsOf blk) (kw (bsOf k)) = R at hcv
      have HR : Hid (encB (bsOf blk) (kw (bsOf k)) = R) := hR
      clear hR
      go_wp2_with fail
      go_ret2
      exact ⟨by rw [HR.out]; rfl, HBF.out⟩
end Go.Proofs.Ytnkahdidelhdaab
