/-
  Count: the specification's.
-/
import Derived.Test.YtnkahdidelhdaacGreatDoorCntC
import Derived.Test.YtnkahdidelhdaacGreatDoorEncLaw
namespace Go.Proofs.YtnkahdidelhdaacGreatDoor
open Go.RowKit
set_option linter.unusedVariables false

theorem bsOf_out {s : Nat → Nat} (hs : ∀ i, s i < 256) {j : Nat} (hj : j < 16) : bsOf ⟨(outL s).toArray⟩ j = s j := by
  unfold bsOf
  show ((outL s).getD j 0).toNat = _
  rw [List.getD_eq_getElem?_getD, outL, List.getElem?_map, List.getElem?_range hj]
  simp [UInt8.toNat_ofNat', Nat.mod_eq_of_lt (hs j)]
theorem out_size (s : Nat → Nat) : (⟨(outL s).toArray⟩ : ByteArray).size = 16 := by
  show (outL s).toArray.size = 16
  rw [List.size_toArray, outL_len]

set_option linter.unusedSimpArgs false in
set_option maxRecDepth 100000 in
set_option maxHeartbeats 2000000 in
theorem scount_any (k nonce d : ByteArray) (w : World) (hk : k.size = 32) (hn : nonce.size = 12) (hd : d.size ≤ 60000) :
    Calls Tryz.prog 20 #[.string k, .string nonce, .string d] w fun e w' => e = .returned (.tuple #[.string (cntB nonce (kw (bsOf k)) d), .bool true]) ∧ Below w.heap.size w w' := by
  have HK : Hid (k.size = 32 ∧ nonce.size = 12 ∧ d.size ≤ 60000) := ⟨hk, hn, hd⟩
  have h1 : (k.size : Int) = 32 := by omega
  have h2 : (nonce.size : Int) = 12 := by omega
  have h3 : (d.size : Int) ≤ 60000 := by omega
  clear hk hn hd
  have hcv : ∀ W, (convert 9 22 (.string d)).run Tryz.prog W = .ok (.slice (some ⟨W.heap.size, 0, none⟩) d.size (grownCap W d.size 0 5)) (Lib.bytesWorld W 5 d) := fun W => Lib.run_convert_string_bytes W 9 22 5 d Tryz.underlying9 Tryz.underlying22 Tryz.underlying5
  have HWL : Hid (∀ j, j < 60 → kw (bsOf k) j < 4294967296) := kw_lt (bsOf_lt k)
  go_enter Tryz.func20, Tryz.ntmps20
  go_wp2_with fail
  refine (stab_any _).mono ?_
  rintro e w1 ⟨⟨v, rfl, hown⟩, hb1⟩
  obtain ⟨g, cap, rfl, hg1, hg2, hg3, hcells⟩ := owns_form hown (by omega)
  have HS : Hid (Calls Tryz.prog 38 #[.slice (some ⟨g, 0, none⟩) 256 cap, .string k] w1 fun e w' => (∃ v, e = .returned v ∧ w'.ownsRow w1.heap.size 67 1 v 60 (wCells (kw (bsOf k)) 60)) ∧ Below w1.heap.size w1 w') := skeys_any k g cap w1 HK.out.1 hcells hg2
  have HB1 : Hid (Below w.heap.size w w1) := hb1
  have HG : Hid (g < w1.heap.size ∧ ∀ j, j < 256 → w1.cell? ⟨g, j, none⟩ = some (.int .u32 (sbox j : Nat))) := ⟨hg2, hcells⟩
  clear hown hcells hb1 hg1 hg2 hg3
  go_wp2_with fail
  refine HS.out.mono ?_
  rintro e w2 ⟨⟨v, rfl, hown⟩, hb2⟩
  obtain ⟨g2, cap2, rfl, hg1, hg2, hg3, hcells⟩ := owns_form hown (by omega)
  have HB2 : Hid (Below w.heap.size w w2) := bl_trans HB1.out hb2 HB1.out.size
  have HEN : Hid (∀ (blk : ByteArray) (W : World), blk.size = 16 → Below w2.heap.size w2 W → Calls Tryz.prog 39 #[.slice (some ⟨g, 0, none⟩) 256 cap, .slice (some ⟨g2, 0, none⟩) 60 cap2, .string blk] W fun e w' => e = .returned (.string (encB (bsOf blk) (kw (bsOf k)))) ∧ Below W.heap.size W w') := fun blk W hs hb =>
    senc_any g cap g2 cap2 blk (kw (bsOf k)) W hs (Nat.lt_of_lt_of_le (Nat.lt_of_lt_of_le HG.out.1 hb2.size) hb.size)
      (fun j hj => (hb.cell (p := ⟨g, j, none⟩) (Nat.lt_of_lt_of_le HG.out.1 hb2.size)).trans ((hb2.cell (p := ⟨g, j, none⟩) HG.out.1).trans (HG.out.2 j hj)))
      (Nat.lt_of_lt_of_le hg2 hb.size) (fun j hj => (hb.cell (p := ⟨g2, j, none⟩) hg2).trans (hcells j hj)) HWL.out
  clear hown hcells hb2 hg1 hg2 hg3 HS HB1 HG
  generalize hKW : kw (bsOf k) = KW at HEN HWL
  have HKW : Hid (kw (bsOf k) = KW) := hKW
  clear hKW
  have HDW : Hid (DatW w2.heap.size d.size (partF nonce KW (bsOf d) 0) (Lib.bytesWorld w2 5 d) ∧ Below w2.heap.size w2 (Lib.bytesWorld w2 5 d)) :=
    ⟨(DatW.conv w2 d).congr fun j _ => by unfold partF; rw [if_neg (by omega)], below_conv w2 d (Nat.le_refl _)⟩
  go_wp2_with fail
  clear hcv
  generalize Lib.bytesWorld w2 5 d = W5 at HDW ⊢
  generalize grownCap w2 d.size 0 5 = capd
  go_loopw [11] (fun c wr => ∃ q : Nat, 16 * q ≤ d.size + 15 ∧ c = .int .i64 ((16 * q : Nat) : Int) ∧ Hid (DatW w2.heap.size d.size (partF nonce KW (bsOf d) (16 * q)) wr ∧ Below w2.heap.size w2 wr))
    (fun c _ => d.size + 16 - (cipIntOf c).toNat)
  case atStart => exact ⟨0, by omega, rfl, HDW⟩
  case round =>
    obtain ⟨q, hq, rfl, HQ⟩ := hrel
    clear HDW
    obtain ⟨i, hi⟩ : ∃ i, i = 16 * q := ⟨_, rfl⟩
    rw [← hi]
    rw [← hi] at hq
    have HI : Hid (i = 16 * q) := hi
    have HQI : Hid (DatW w2.heap.size d.size (partF nonce KW (bsOf d) i) wr ∧ Below w2.heap.size w2 wr) := by rw [hi]; exact HQ.out
    clear HQ
    by_cases hlt : i < d.size
    · have hi6 : i < 60000 := by have := HK.out.2.2; omega
      have ei : (i : Int) / 16 = (q : Int) := by omega
      have hq4 : q < 4000 := by omega
      clear hi
      have HBG : Hid (∀ W, Calls Tryz.prog 21 #[.int .u64 (q : Int), .int .i64 4] W fun e w' => e = .returned (.string ⟨(bigL q 4).toArray⟩) ∧ Below W.heap.size W w') := fun W => sbig_any q 4 W (by omega) (by omega) (by omega)
      have HCE : Hid (∀ W, Below w2.heap.size w2 W → Calls Tryz.prog 39 #[.slice (some ⟨g, 0, none⟩) 256 cap, .slice (some ⟨g2, 0, none⟩) 60 cap2, .string (nonce ++ ⟨(bigL q 4).toArray⟩)] W fun e w' => e = .returned (.string ⟨(outL (stB (ctrS nonce q) KW 14)).toArray⟩) ∧ Below W.heap.size W w') := fun W hb => HEN.out (ctrB nonce q) W (ctrB_size HK.out.2.1 q) hb
      obtain ⟨R, hR⟩ : ∃ R : ByteArray, R = ⟨(outL (stB (ctrS nonce q) KW 14)).toArray⟩ := ⟨_, rfl⟩
      have HR : Hid (R.size = 16 ∧ ∀ j, j < 16 → bsOf R j = stB (ctrS nonce q) KW 14 j) := by rw [hR]; exact ⟨out_size _, fun j hj => bsOf_out (stB_lt (ctrS_lt nonce q) 14) hj⟩
      rw [← hR] at HCE
      clear hR
      obtain ⟨L4, hL4⟩ : ∃ L4 : ByteArray, L4 = ⟨(bigL q 4).toArray⟩ := ⟨_, rfl⟩
      rw [← hL4] at HBG HCE
      have hl4s : L4.size = 4 := by rw [hL4]; show (bigL q 4).toArray.size = 4; rw [List.size_toArray, bigL_len]
      have hl4i : (L4.size : Int) = 4 := by omega
      have hcat : nonce.size + L4.size ≤ maxLen := by unfold maxLen; omega
      clear hL4
      go_wp2_with fail
      refine (HBG.out _).mono ?_
      rintro e w6 ⟨rfl, hb6⟩
      have HB6 : Hid (DatW w2.heap.size d.size (partF nonce KW (bsOf d) i) w6 ∧ Below w2.heap.size w2 w6) := ⟨HQI.out.1.below hb6 HQI.out.1.lt, bl_trans HQI.out.2 hb6 HQI.out.2.size⟩
      clear hb6 HQI
      go_wp2_with fail
      refine (HCE.out _ HB6.out.2).mono ?_
      rintro e w7 ⟨rfl, hb7⟩
      have HB7 : Hid (DatW w2.heap.size d.size (partF nonce KW (bsOf d) i) w7 ∧ Below w2.heap.size w2 w7) := ⟨HB6.out.1.below hb7 HB6.out.1.lt, bl_trans HB6.out.2 hb7 HB6.out.2.size⟩
      clear hb7 HB6 HBG HCE
      go_wp2_with fail
      go_loopw [13] (fun c wr => ∃ n : Nat, i ≤ n ∧ n ≤ i + 16 ∧ n ≤ d.size ∧ c = .int .i64 (n : Int) ∧ Hid (DatW w2.heap.size d.size (partF nonce KW (bsOf d) n) wr ∧ Below w2.heap.size w2 wr))
        (fun c _ => d.size - (cipIntOf c).toNat)
      case atStart => exact ⟨i, by omega, by omega, by omega, rfl, HB7⟩
      case round =>
        obtain ⟨n, hn1, hn2, hn3, rfl, HN⟩ := hrel
        rename World => wx
        clear HB7
        by_cases hn16 : n < i + 16
        · have hg16 : (n : Int) < (i : Int) + 16 := by omega
          by_cases hns : n < d.size
          · have hgs : (n : Int) < (d.size : Int) := by omega
            have cd := HN.out.1.word n hns
            rw [show partF nonce KW (bsOf d) n n = bsOf d n by unfold partF; rw [if_neg (by omega)]] at cd
            have fd := HN.out.1.fz n hns
            have hx := bsOf_lt d n
            have hm16 : n - i < 16 := by omega
            have hy := stB_lt (w := KW) (ctrS_lt nonce q) 14 (n - i)
            have hnq : n / 16 = q := by have := HI.out; omega
            have hnm : n % 16 = n - i := by have := HI.out; omega
            have hxo : bits .xor .u8 (bsOf d n : Int) (stB (ctrS nonce q) KW 14 (n - i) : Nat) = ((cntF nonce KW (bsOf d) n : Nat) : Int) := by
              unfold cntF; rw [hnq, hnm]; exact u8_xor_nat _ _ hx hy
            have hmr : n - i < R.size := by rw [HR.out.1]; exact hm16
            have hmr2 : ((n - i : Nat) : Int) < (R.size : Int) := by omega
            have hrb := bsOf_at R (n - i) hmr
            rw [HR.out.2 (n - i) hm16] at hrb
            have HNN : Hid (DatW w2.heap.size d.size (partF nonce KW (bsOf d) (n + 1)) (wx.drew.setCell ⟨w2.heap.size, n, none⟩ (.int .u8 (cntF nonce KW (bsOf d) n : Nat))) ∧ Below w2.heap.size w2 (wx.drew.setCell ⟨w2.heap.size, n, none⟩ (.int .u8 (cntF nonce KW (bsOf d) n : Nat)))) :=
              ⟨part_set (wr := wx.drew) ⟨HN.out.1.lt, HN.out.1.word, HN.out.1.fz⟩ hns, HN.out.2.drew.setCell (p := ⟨w2.heap.size, n, none⟩) (Nat.le_refl _) _⟩
            have em : (n : Int) - (i : Int) = ((n - i : Nat) : Int) := by omega
            clear HN hnq hnm
            generalize cntF nonce KW (bsOf d) n = z at hxo HNN
            generalize stB (ctrS nonce q) KW 14 (n - i) = y at hy hxo hrb
            generalize bsOf d n = x at cd hx hxo
            generalize n - i = m at em hm16 hmr hmr2 hrb
            go_wp2_with fail
            go_region
            go_wp2_with fail
            go_roundw
            case rel =>
              first
                | exact ⟨n + 1, by omega, by omega, by omega, by go_num, HNN⟩
                | (repeat apply Exists.intro
                   exact ⟨⟨n + 1, by omega, by omega, by omega, by go_num, HNN⟩, rfl⟩)
            case measure => simp [cipIntOf]; omega
          · have hgs : ¬ (n : Int) < (d.size : Int) := by omega
            have HNX : Hid (DatW w2.heap.size d.size (partF nonce KW (bsOf d) (16 * (q + 1))) wx ∧ Below w2.heap.size w2 wx) := ⟨HN.out.1.congr fun j hj => by
              have := HI.out
              unfold partF; rw [if_pos (by omega), if_pos (by omega)], HN.out.2⟩
            have HIN : Hid (((i : Int) + 16) = ((16 * (q + 1) : Nat) : Int) ∧ 16 * (q + 1) ≤ d.size + 15) := ⟨by have := HI.out; omega, by have := HI.out; omega⟩
            go_wp2_with fail
            go_roundw
            case rel =>
              first
                | exact ⟨q + 1, HIN.out.2, by rw [← HIN.out.1], HNX⟩
                | (repeat apply Exists.intro
                   exact ⟨⟨q + 1, HIN.out.2, by rw [← HIN.out.1], HNX⟩, rfl⟩)
            case measure => simp [cipIntOf]; omega
        · have hg16 : ¬ (n : Int) < (i : Int) + 16 := by omega
          have HNX : Hid (DatW w2.heap.size d.size (partF nonce KW (bsOf d) (16 * (q + 1))) wx ∧ Below w2.heap.size w2 wx) := ⟨HN.out.1.congr fun j hj => by
            have := HI.out
            show partF nonce KW (bsOf d) n j = partF nonce KW (bsOf d) (16 * (q + 1)) j
            exact congrArg (fun t => partF nonce KW (bsOf d) t j) (by omega : n = 16 * (q + 1)), HN.out.2⟩
          have HIN : Hid (((i : Int) + 16) = ((16 * (q + 1) : Nat) : Int) ∧ 16 * (q + 1) ≤ d.size + 15) := ⟨by have := HI.out; omega, by have := HI.out; omega⟩
          go_wp2_with fail
          go_roundw
          case rel =>
            first
              | exact ⟨q + 1, HIN.out.2, by rw [← HIN.out.1], HNX⟩
              | (repeat apply Exists.intro
                 exact ⟨⟨q + 1, HIN.out.2, by rw [← HIN.out.1], HNX⟩, rfl⟩)
          case measure => simp [cipIntOf]; omega
    · have hcb := run_convert_bytes_back wr 22 9 5 ⟨w2.heap.size, 0, none⟩ capd (cntL nonce KW d) Tryz.underlying22 Tryz.underlying5 Tryz.underlying9 (fun j hj => by
        rw [add0]
        have hj' : j < d.size := by rwa [cntL_len] at hj
        rw [HQI.out.1.word j hj', cntL_at]
        unfold partF
        rw [if_pos (by omega)])
      rw [cntL_len] at hcb
      have HR0 : Hid ((⟨(cntL nonce KW d).toArray⟩ : ByteArray) = cntB nonce KW d) := rfl
      rw [HR0.out] at hcb
      have HBF : Hid (Below w.heap.size w wr) := bl_trans HB2.out HQI.out.2 HB2.out.size
      generalize hR : cntB nonce KW d = R at hcb
      have HR : Hid (cntB nonce KW d = R) := hR
      clear hR HR0 HQI hi
      go_wp2_with fail
      go_ret2
      exact ⟨by rw [HKW.out, HR.out]; rfl, HBF.out⟩
end Go.Proofs.YtnkahdidelhdaacGreatDoor
