/-
  What the specification's Sum answers.
-/
import Derived.Test.YtnkahdidelhdaacGreatDoorShaConst
import Derived.Test.YtnkahdidelhdaacGreatDoorShaBlockS
import Derived.Test.YtnkahdidelhdaacGreatDoorShaBytes
namespace Go.Proofs.YtnkahdidelhdaacGreatDoor
open Go.RowKit

def sliceLen : Value → Nat | .slice _ l _ => l | _ => 0
def kTab : Array Value := (kL.map fun x => Value.int .u32 x).toArray
theorem kTab_at (j : Nat) (h : j < 64) : kTab[j]? = some (.int .u32 (kF j)) := by
  have hl : j < kL.length := h
  unfold kTab kF
  rw [List.getElem?_toArray, List.getElem?_map, List.getElem?_eq_getElem hl, List.getD_eq_getElem?_getD, List.getElem?_eq_getElem hl]
  rfl
set_option maxRecDepth 100000 in
set_option maxHeartbeats 1000000 in
theorem sk_any (w : World) :
    Calls Tryz.prog 47 #[] w fun e w' => e = .returned (.slice (some ⟨w.heap.size, 0, none⟩) 64 64) ∧ (∀ j, j < 64 → w'.cell? ⟨w.heap.size, j, none⟩ = some (.int .u32 (kF j))) ∧ Below w.heap.size w w' ∧ w.heap.size < w'.heap.size := by
  go_enter Tryz.func47, Tryz.ntmps47
  go_wp2_with fail
  go_ret
  refine ⟨rfl, fun j hj => ?_, (Below.refl _ _).alloc (Nat.le_refl _) _, by simp⟩
  have := (World.cell?_alloc_mark w kTab 67 (0, 0) j).trans (kTab_at j hj)
  exact this

/-- the message -/
def msgL (s : ByteArray) (t : Nat) : List UInt8 := s.data.toList ++ [128] ++ List.replicate t 0
theorem msgL_len (s : ByteArray) (t : Nat) : (msgL s t).length = s.size + 1 + t := by
  unfold msgL; rw [List.length_append, List.length_append, List.length_replicate, ← Lib.size_eq]; rfl
theorem msgL_snoc (s : ByteArray) (t : Nat) : msgL s t ++ [0] = msgL s (t + 1) := by
  unfold msgL; rw [List.append_assoc, List.append_assoc, ← List.replicate_succ', ← List.append_assoc]
theorem msg_all (s : ByteArray) : (s ++ padB s.size).data.toList = msgL s (zs s.size) ++ bigL (8 * s.size) 8 := by
  unfold padB msgL
  simp [ByteArray.data_append]
theorem bsOf_cell {s : ByteArray} {j : Nat} (h : j < s.size) : (Lib.byteCells s.data.toList)[j]? = some (.int .u8 (bsOf s j : Int)) := by
  rw [Lib.byteCells, List.getElem?_map, ← bsOf_at s j h]
  rw [List.getElem?_eq_getElem (by rw [← Lib.size_eq]; exact h)]
  rfl

set_option maxRecDepth 100000 in
set_option maxHeartbeats 4000000 in
theorem ssum_any (s : ByteArray) (w : World) (hl : s.size ≤ 1099511627776) :
    Calls Tryz.prog 27 #[.string s] w fun e w' => e = .returned (.string (sumB s)) ∧ Below w.heap.size w w' := by
  have hcv : ∀ (W : World) (s : ByteArray), (convert 9 22 (.string s)).run Tryz.prog W = .ok (.slice (some ⟨W.heap.size, 0, none⟩) s.size (grownCap W s.size 0 5)) (Lib.bytesWorld W 5 s) := fun W s =>
    Lib.run_convert_string_bytes W 9 22 5 s Tryz.underlying9 Tryz.underlying22 Tryz.underlying5
  have HL : Hid (s.size ≤ 1099511627776) := hl
  have hz := zs_lt s.size
  have hzm := zs_mod s.size
  go_enter Tryz.func27, Tryz.ntmps27
  go_wp2_with (at_builtin; (refine wpList_append_br rfl _ _ rfl (B := w.heap.size) rfl ((br_conv w s).alloc _) (by simp [Lib.bytesWorld_size]; omega) ⟨(Lib.bytesWorld w 5 s).heap.size, 0, none⟩ 1 1 [128] rfl rfl ?c1 ?c2 ?_))
  case c1 =>
    exact cell_one_new _ _ _
  case c2 => rw [← Lib.size_eq]; show s.size + 1 ≤ _; omega
  intro v1 w1 hBR1 hb1
  have HB1 : Hid (BR w.heap.size w1 v1 (msgL s 0)) := by
    show BR _ _ _ _
    have e : msgL s 0 = s.data.toList ++ [128] := by unfold msgL; rw [List.replicate_zero, List.append_nil]
    rw [e]; exact hBR1
  have hbl1 : Below w.heap.size w w1 := ((below_conv w s (Nat.le_refl _)).alloc (by rw [Lib.bytesWorld_size]; omega) _).trans hb1
  clear hBR1 hb1
  obtain ⟨g1, cap1, rfl, hBg1⟩ : ∃ g cap : Nat, v1 = .slice (some ⟨g, 0, none⟩) (s.size + 1 + 0) cap ∧ True := by
    obtain ⟨g, cap, h1, _⟩ := HB1.out
    exact ⟨g, cap, by rw [h1, msgL_len], trivial⟩
  go_wp2_with fail
  go_loopw [3] (fun v wr => ∃ t g cap : Nat, t ≤ zs s.size ∧ v = .slice (some ⟨g, 0, none⟩) (s.size + 1 + t) cap ∧ Hid (BR w.heap.size wr (.slice (some ⟨g, 0, none⟩) (s.size + 1 + t) cap) (msgL s t)) ∧ Below w.heap.size w wr)
    (fun v _ => s.size + 100 - sliceLen v)
  case atStart => exact ⟨0, g1, cap1, by omega, rfl, HB1, hbl1⟩
  case round =>
    obtain ⟨t, g, cap, ht, rfl, HB, hbl⟩ := hrel
    clear hbl1 HB1
    have hsz := hbl.size
    by_cases hlt : t < zs s.size
    · have hne : (((s.size : Int) + 1 + (t : Int)) % 64 != 56) = true := by
        rw [bne_iff_ne]; unfold zs at hlt; omega
      have hln : (msgL s t).length + ([0] : List UInt8).length ≤ 70368744177664 := by rw [msgL_len]; show s.size + 1 + t + 1 ≤ _; omega
      have HLN : Hid _ := hln
      clear hln
      go_wp2_with (at_builtin; (refine wpList_append_br rfl _ _ rfl (B := w.heap.size) rfl (HB.out.alloc _) (by simp; omega) ⟨wr.heap.size, 0, none⟩ 1 1 [0] rfl rfl ?c1 HLN.out ?_))
      case c1 => exact cell_one_new _ _ _
      intro v2 w2 hBR2 hb2
      have HB2 : Hid (BR w.heap.size w2 v2 (msgL s (t + 1))) := by
        show BR _ _ _ _
        rw [← msgL_snoc]; exact hBR2
      have hbl2 : Below w.heap.size w w2 := (hbl.alloc hsz _).trans hb2
      clear hBR2 hb2 hbl HB
      obtain ⟨g2, cap2, rfl, _⟩ : ∃ g cap : Nat, v2 = .slice (some ⟨g, 0, none⟩) (s.size + 1 + (t + 1)) cap ∧ True := by
        obtain ⟨g, cap, h1, _⟩ := HB2.out
        exact ⟨g, cap, by rw [h1, msgL_len], trivial⟩
      go_wp2_with fail
      go_roundw
      case rel =>
        first
          | exact ⟨t + 1, g2, cap2, by omega, rfl, HB2, hbl2⟩
          | (repeat apply Exists.intro
             exact ⟨⟨t + 1, g2, cap2, by omega, rfl, HB2, hbl2⟩, rfl⟩)
      case measure => simp [sliceLen]; omega
    · obtain rfl : t = zs s.size := by omega
      have hne : (((s.size : Int) + 1 + (zs s.size : Int)) % 64 != 56) = false := by
        rw [bne_eq_false_iff_eq]; omega
      have HBIG : Hid (∀ w, Calls Tryz.prog 21 #[.int .u64 ((s.size : Int) * 8), .int .i64 8] w fun e w' => e = .returned (.string ⟨(bigL (8 * s.size) 8).toArray⟩) ∧ Below w.heap.size w w') := fun w => by
        have := sbig_any (8 * s.size) 8 w (by omega) (by omega) (by omega)
        rwa [show ((8 * s.size : Nat) : Int) = (s.size : Int) * 8 by omega] at this
      have HNB : Hid (s.size + 9 + zs s.size = 64 * ((s.size + 9 + zs s.size) / 64)) := by show _ = _; omega
      have HY : Hid ((⟨(bigL (8 * s.size) 8).toArray⟩ : ByteArray).size = 8) := by show (bigL (8 * s.size) 8).toArray.size = 8; rw [List.size_toArray, bigL_len]
      have HYL : Hid (msgL s (zs s.size) ++ (⟨(bigL (8 * s.size) 8).toArray⟩ : ByteArray).data.toList = (s ++ padB s.size).data.toList) := (msg_all s).symm
      have HMS : Hid ((s ++ padB s.size).size = s.size + 9 + zs s.size) := by show _ = _; rw [ByteArray.size_append, padB_size]; omega
      have HLEN : Hid (((msgL s (zs s.size)).length + (⟨(bigL (8 * s.size) 8).toArray⟩ : ByteArray).data.toList.length ≤ 70368744177664)) := by
        show _ ≤ _
        rw [msgL_len, ← Lib.size_eq, HY.out]; omega
      generalize (⟨(bigL (8 * s.size) 8).toArray⟩ : ByteArray) = Y at HY HYL HLEN HBIG
      go_wp2_with fail
      refine (HBIG.out _).mono ?_
      rintro e w3 ⟨rfl, hb3⟩
      have hbl3 := hbl.trans (hb3.mono hsz)
      have hsz3 := hbl3.size
      have HB3 : Hid (BR w.heap.size (Lib.bytesWorld w3 5 Y) (.slice (some ⟨g, 0, none⟩) (s.size + 1 + zs s.size) cap) (msgL s (zs s.size))) := (HB.out.call hb3).call (below_conv w3 Y (Nat.le_refl _))
      have HYM : Hid (Y.data.toList.length = Y.size) := (Lib.size_eq Y).symm
      go_wp2_with (at_builtin; (refine wpList_append_br rfl _ _ rfl (B := w.heap.size) rfl HB3.out (by rw [Lib.bytesWorld_size]; omega) ⟨w3.heap.size, 0, none⟩ Y.size _ Y.data.toList HYM.out rfl (conv_cells w3 Y) HLEN.out ?_))
      intro v4 w4 hBR4 hb4
      rw [HYL.out] at hBR4
      have hbl4 : Below w.heap.size w w4 := (hbl3.trans (below_conv w3 Y hsz3)).trans hb4
      clear HB3 HB hbl hb3 hb4 hbl3 HYL HLEN HBIG HYM HY
      have hsz4 := hbl4.size
      obtain ⟨g4, cap4, rfl, hg4, hg4l, hcap4, hcell4, _⟩ := hBR4
      have HC4 : Hid (∀ j, j < s.size + 9 + zs s.size → w4.cell? ⟨g4, j, none⟩ = some (.int .u8 (bsOf (s ++ padB s.size) j : Int))) := fun j hj => hcell4 j _ (bsOf_cell (by rw [HMS.out]; exact hj))
      rw [← Lib.size_eq, HMS.out, HNB.out] at hcap4 ⊢
      clear hcell4 hsz3
      go_wp2_with fail
      refine (sk_any _).mono ?_
      rintro e w5 ⟨rfl, hk5, hb5, hlt5⟩
      have HC5 : Hid (∀ j, j < s.size + 9 + zs s.size → w5.cell? ⟨g4, j, none⟩ = some (.int .u8 (bsOf (s ++ padB s.size) j : Int))) := fun j hj => (hb5.cell (p := ⟨g4, j, none⟩) hg4l).trans (HC4.out j hj)
      have HK5 : Hid _ := hk5
      have hbl5 := hbl4.trans (hb5.mono hsz4)
      have hg5 : g4 < w5.heap.size := by have := hb5.size; omega
      clear HC4 hk5 hb5 hbl4
      go_wp2_with fail
      obtain ⟨W6, hW6⟩ : ∃ W6, W6 = w5.alloc (.cells #[.int .u32 1779033703, .int .u32 3144134277, .int .u32 1013904242, .int .u32 2773480762, .int .u32 1359893119, .int .u32 2600822924, .int .u32 528734635, .int .u32 1541459225] 67) := ⟨_, rfl⟩
      have HH6 : Hid (∀ j, j < 8 → W6.cell? ⟨w5.heap.size, j, none⟩ = some (.int .u32 (foldV ivF kF (bsOf (s ++ padB s.size)) 0 j))) := fun j hj => by
        rw [hW6, World.cell?_alloc_mark]
        match j, hj with
        | 0, _ => rfl
        | 1, _ => rfl
        | 2, _ => rfl
        | 3, _ => rfl
        | 4, _ => rfl
        | 5, _ => rfl
        | 6, _ => rfl
        | 7, _ => rfl
      have hb6 : Below w5.heap.size w5 W6 := by rw [hW6]; exact (Below.refl _ _).alloc (Nat.le_refl _) _
      have HC6 : Hid (∀ j, j < s.size + 9 + zs s.size → W6.cell? ⟨g4, j, none⟩ = some (.int .u8 (bsOf (s ++ padB s.size) j : Int))) := fun j hj => (hb6.cell (p := ⟨g4, j, none⟩) hg5).trans (HC5.out j hj)
      have HK6 : Hid (∀ j, j < 64 → W6.cell? ⟨w4.heap.size, j, none⟩ = some (.int .u32 (kF j))) := fun j hj => (hb6.cell (p := ⟨w4.heap.size, j, none⟩) hlt5).trans (HK5.out j hj)
      have hs6 : W6.heap.size = w5.heap.size + 1 := by rw [hW6]; simp
      have hbl6 : Below w.heap.size w W6 := hbl5.trans (hb6.mono hbl5.size)
      have HBD : Hid (∀ j, bsOf (s ++ padB s.size) j < 256) := fun j => bsOf_lt _ j
      have HV : Hid (foldV ivF kF (bsOf (s ++ padB s.size)) ((s.size + 9 + zs s.size) / 64) = sumV s) := rfl
      rw [← hW6]
      clear hW6 HC5 HK5 hb6 hbl5
      have HG1 : Hid (g4 < W6.heap.size) := by show _ < _; omega
      have HG2 : Hid (w4.heap.size < W6.heap.size) := by show _ < _; omega
      generalize (s.size + 9 + zs s.size) / 64 = nb at HNB HV hcap4 ⊢
      generalize bsOf (s ++ padB s.size) = D at HH6 HC6 HBD HV
      have hnb64 : 64 * nb < 2199023255552 := by have := HNB.out; omega
      go_loopw [5, 6] (fun h c wr => ∃ k hg hcap : Nat, k ≤ nb ∧ c = .int .i64 ((64 * k : Nat) : Int) ∧ h = .slice (some ⟨hg, 0, none⟩) 8 hcap ∧ 8 ≤ hcap ∧ hg < wr.heap.size ∧ Hid (∀ j, j < 8 → wr.cell? ⟨hg, j, none⟩ = some (.int .u32 (foldV ivF kF D k j))) ∧ Hid (Below W6.heap.size W6 wr))
        (fun _ c _ => 64 * nb - (shaIntOf c).toNat)
      case atStart => exact ⟨0, w5.heap.size, 8, by omega, rfl, rfl, by omega, by omega, HH6, Below.refl _ _⟩
      case round =>
        obtain ⟨k, hg, hcap, hk, rfl, rfl, hc8, hgl, HH, HBW⟩ := hrel
        clear HH6
        by_cases hlt : k < nb
        · have h1 : ((64 * k : Nat) : Int) < ((64 * nb : Nat) : Int) := by omega
          have h2 : ((64 * k : Nat) : Int) + 64 ≤ ((64 * nb : Nat) : Int) := by omega
          have h3 : (0 : Int) ≤ ((64 * k : Nat) : Int) := by omega
          have h4 : IntKind.i64.wrap (((64 * k : Nat) : Int) + 64) = ((64 * k : Nat) : Int) + 64 := by rw [IntKind.wrap_i64]; omega
          have h7 : ((64 * k : Nat) : Int) + 64 ≤ (cap4 : Int) := by omega
          have HCB : Hid (∀ W, Below W6.heap.size W6 W → ∀ j, j < 64 → W.cell? ⟨g4, 64 * k + j, none⟩ = some (.int .u8 (D (64 * k + j) : Int))) := fun W hW j hj =>
            (hW.cell (p := ⟨g4, 64 * k + j, none⟩) HG1.out).trans (HC6.out _ (by have := HNB.out; omega))
          have HKB : Hid (∀ W, Below W6.heap.size W6 W → ∀ j, j < 64 → W.cell? ⟨w4.heap.size, j, none⟩ = some (.int .u32 (kF j))) := fun W hW j hj =>
            (hW.cell (p := ⟨w4.heap.size, j, none⟩) HG2.out).trans (HK6.out j hj)
          have HFV : Hid (foldV ivF kF D (k + 1) = blockV (foldV ivF kF D k) kF (fun j => D (64 * k + j))) := rfl
          have HP : Hid (64 * k + 64 = 64 * (k + 1)) := by show _ = _; omega
          generalize foldV ivF kF D k = V0 at HH HFV
          generalize 64 * k = p at h1 h2 h3 h4 h7 HCB HFV HP ⊢
          generalize hNN : 64 * nb = N at h1 h2 ⊢
          go_wp2_with fail
          refine (sblock_any hg w4.heap.size g4 p (cap4 - p) hcap 64 V0 kF (fun j => D (p + j)) _ HH.out (HKB.out _ HBW.out) (HCB.out _ HBW.out) (fun j => HBD.out _) hgl (by have := HBW.out.size; have := HG2.out; omega) (by have := HBW.out.size; have := HG1.out; omega) hc8 (by omega) (by omega)).mono ?_
          rintro e w7 ⟨⟨g7, cap7, rfl, hc7, hg7, hcells7⟩, hb7⟩
          have HH7 : Hid (∀ j, j < 8 → w7.cell? ⟨g7, j, none⟩ = some (.int .u32 (foldV ivF kF D (k + 1) j))) := by
            show ∀ j, j < 8 → _
            rw [HFV.out]; exact hcells7
          have hg7l : g7 < w7.heap.size := World.block_lt_of_cell? w7 ⟨g7, 0, none⟩ (hcells7 0 (by omega))
          have HBW7 : Hid (Below W6.heap.size W6 w7) := HBW.out.trans (hb7.mono HBW.out.size)
          clear hcells7 hb7 HH HBW HCB HKB HFV
          go_wp2_with fail
          go_roundw
          case rel =>
            have e1 : Value.int IntKind.i64 ((p : Int) + 64) = Value.int IntKind.i64 ((64 * (k + 1) : Nat) : Int) := by rw [← HP.out]; congr 1
            first
              | exact ⟨k + 1, g7, cap7, by omega, e1, rfl, hc7, hg7l, HH7, HBW7⟩
              | (repeat apply Exists.intro
                 exact ⟨⟨k + 1, g7, cap7, by omega, e1, rfl, hc7, hg7l, HH7, HBW7⟩, rfl⟩)
          case measure => simp [shaIntOf]; omega
        · obtain rfl : k = nb := by omega
          rw [HV.out] at HH
          go_wp2_with fail
          have HBR : Hid (Below w.heap.size w wr) := hbl6.trans (HBW.out.mono hbl6.size)
          have hb0 := HBR.out.size
          clear HBW hbl6
          generalize wr = WB at HH HBR hgl hb0 ⊢
          go_loopw [7, 8] (fun x c w8 => ∃ j : Nat, j ≤ 8 ∧ c = .int .i64 (j : Int) ∧ x = .string ⟨(wordsL (sumV s) j).toArray⟩ ∧ Hid (Below WB.heap.size WB w8))
            (fun _ c _ => 8 - (shaIntOf c).toNat)
          case atStart => exact ⟨0, by omega, rfl, rfl, Below.refl _ _⟩
          case round =>
            obtain ⟨j, hj, rfl, rfl, HB8⟩ := hrel
            by_cases hlt8 : j < 8
            · have hcx := (HB8.out.cell (p := ⟨hg, j, none⟩) hgl).trans (HH.out j hlt8)
              have hbd := sumV_bd s j
              have HW : Hid ((⟨(wordsL (sumV s) j).toArray⟩ : ByteArray) ++ ⟨(bigL (sumV s j).toNat 4).toArray⟩ = ⟨(wordsL (sumV s) (j + 1)).toArray⟩) := by
                show _ = _
                apply ByteArray.ext
                simp [ByteArray.data_append, wordsL]
              have hsz8 : (⟨(wordsL (sumV s) j).toArray⟩ : ByteArray).size = 4 * j := by show (wordsL (sumV s) j).toArray.size = _; rw [List.size_toArray, wordsL_len]
              have h4z : (⟨(bigL (sumV s j).toNat 4).toArray⟩ : ByteArray).size = 4 := by show (bigL (sumV s j).toNat 4).toArray.size = 4; rw [List.size_toArray, bigL_len]
              have HBG : Hid (∀ w, Calls Tryz.prog 21 #[.int .u64 (sumV s j), .int .i64 4] w fun e w' => e = .returned (.string ⟨(bigL (sumV s j).toNat 4).toArray⟩) ∧ Below w.heap.size w w') := fun w => by
                have := sbig_any (sumV s j).toNat 4 w (by omega) (by omega) (by omega)
                rwa [show (((sumV s j).toNat : Nat) : Int) = sumV s j by omega] at this
              generalize (⟨(bigL (sumV s j).toNat 4).toArray⟩ : ByteArray) = Z at HW h4z HBG
              generalize (⟨(wordsL (sumV s) j).toArray⟩ : ByteArray) = X1 at HW hsz8 ⊢
              generalize sumV s j = x at hcx hbd HBG
              obtain ⟨hx0, hx1⟩ := hbd
              go_wp2_with fail
              refine (HBG.out _).mono ?_
              rintro e w9 ⟨rfl, hb9⟩
              have HB9 : Hid (Below WB.heap.size WB w9) := HB8.out.trans (hb9.mono HB8.out.size)
              clear hb9 HB8 hcx
              go_wp2_with fail
              go_roundw
              case rel =>
                first
                  | exact ⟨j + 1, by omega, by go_num, by rw [HW.out], HB9⟩
                  | (repeat apply Exists.intro
                     exact ⟨⟨j + 1, by omega, by go_num, by rw [HW.out], HB9⟩, rfl⟩)
              case measure => simp [shaIntOf]; omega
            · obtain rfl : j = 8 := by omega
              go_wp2_with fail
              go_ret
              exact ⟨rfl, HBR.out.trans (HB8.out.mono hb0)⟩
end Go.Proofs.YtnkahdidelhdaacGreatDoor
