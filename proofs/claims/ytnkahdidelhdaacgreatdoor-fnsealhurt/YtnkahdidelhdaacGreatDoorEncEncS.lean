/-
  Encrypt of a block, the specification's.
-/
import Derived.Test.YtnkahdidelhdaacGreatDoorEncAddS
import Derived.Test.YtnkahdidelhdaacGreatDoorEncA
namespace Go.Proofs.YtnkahdidelhdaacGreatDoor
open Go.RowKit
set_option linter.unusedVariables false

theorem Tryz.infb : (Tryz.prog.info? 5).map (fun i => (i.zero, i.size, i.bytes)) = some (some (.int .u8 0), 1, 1) := by kernel_rfl
/-- so many bytes as cells -/
def bCells (f : Nat → Nat) (n : Nat) : List Value := (List.range n).map fun i => Value.int .u8 (f i : Nat)
theorem bCells_len (f : Nat → Nat) (n : Nat) : (bCells f n).length = n := by simp [bCells]
theorem bCells_snoc (f : Nat → Nat) (n : Nat) : bCells f n ++ [Value.int .u8 (f n : Nat)] = bCells f (n + 1) := by simp [bCells, List.range_succ]
theorem bCells_at (f : Nat → Nat) {n j : Nat} (h : j < n) : (bCells f n)[j]? = some (.int .u8 (f j : Nat)) := by
  rw [bCells, List.getElem?_map, List.getElem?_range h]; rfl
theorem owns_formb {w : World} {B : Nat} {v : Value} {f : Nat → Nat} {n : Nat} (h : w.ownsRow B 5 1 v n (bCells f n)) (h0 : 0 < n) :
    ∃ g cap : Nat, v = .slice (some ⟨g, 0, none⟩) n cap ∧ B ≤ g ∧ g < w.heap.size ∧ n ≤ cap ∧ ∀ j, j < n → w.cell? ⟨g, j, none⟩ = some (.int .u8 (f j : Nat)) := by
  have hb := h
  obtain ⟨_, ⟨_, h1⟩ | ⟨g, cap, cur, rfl, hbg, hg, hn, _, _, ht⟩⟩ := h
  · omega
  · refine ⟨g, cap, rfl, hbg, (Array.getElem?_eq_some_iff.1 hg).1, hn, fun j hj => ?_⟩
    have := hb.cells (g := g) rfl j _ (bCells_at f hj)
    have ea : (⟨g, 0, none⟩ : Addr).add j = ⟨g, j, none⟩ := by
      unfold Addr.add
      by_cases h0 : j = 0
      · subst h0; simp
      · simp [h0]
    rwa [ea] at this
theorem FR.of {w : World} {B g : Nat} {f : Nat → Nat} (h1 : g < w.heap.size) (h2 : ∀ j, j < 16 → w.cell? ⟨g, j, none⟩ = some (.int .u32 (f j : Nat))) : FR w g f := ⟨h1, h2⟩
theorem conv_out (w : World) (g cap : Nat) (s : Nat → Nat) (hs : ∀ i, s i < 256) (hc : ∀ j, j < 16 → w.cell? ⟨g, j, none⟩ = some (.int .u8 (s j : Nat))) :
    (convert 22 9 (.slice (some ⟨g, 0, none⟩) 16 cap)).run Tryz.prog w = .ok (.string ⟨(outL s).toArray⟩) w := by
  have h := run_convert_bytes_back w 22 9 5 ⟨g, 0, none⟩ cap (outL s) Tryz.underlying22 Tryz.underlying5 Tryz.underlying9 (fun j hj => by
    rw [outL_len] at hj
    have ea : (⟨g, 0, none⟩ : Addr).add j = ⟨g, j, none⟩ := by
      unfold Addr.add
      by_cases h0 : j = 0
      · subst h0; simp
      · simp [h0]
    rw [ea, hc j hj]
    simp [outL, UInt8.toNat_ofNat', Nat.mod_eq_of_lt (hs j)])
  rwa [outL_len] at h
/-- what lies below stays -/
structure TK (w : World) (tg wg : Nat) (W : Nat → Nat) (W' : World) : Prop where
  tab : ∀ j, j < 256 → W'.cell? ⟨tg, j, none⟩ = some (.int .u32 (sbox j : Nat))
  wrd : ∀ j, j < 60 → W'.cell? ⟨wg, j, none⟩ = some (.int .u32 (W j : Nat))

set_option linter.unusedSimpArgs false in
set_option maxRecDepth 100000 in
set_option maxHeartbeats 4000000 in
theorem senc_any (tg tc wg wc : Nat) (blk : ByteArray) (W : Nat → Nat) (w : World) (hb16 : blk.size = 16) (htl : tg < w.heap.size) (hT : ∀ j, j < 256 → w.cell? ⟨tg, j, none⟩ = some (.int .u32 (sbox j : Nat)))
    (hwg : wg < w.heap.size) (hw : ∀ j, j < 60 → w.cell? ⟨wg, j, none⟩ = some (.int .u32 (W j : Nat))) (hW : ∀ j, j < 60 → W j < 4294967296) :
    Calls Tryz.prog 39 #[.slice (some ⟨tg, 0, none⟩) 256 tc, .slice (some ⟨wg, 0, none⟩) 60 wc, .string blk] w fun e w' => e = .returned (.string (encB (bsOf blk) W)) ∧ Below w.heap.size w w' := by
  obtain ⟨i0, hi, hz0, hz1, hz2⟩ := info_parts Tryz.infu
  obtain ⟨i1, hj, hy0, hy1, hy2⟩ := info_parts Tryz.infb
  have HK : Hid (∀ W', Below w.heap.size w W' → TK w tg wg W W' ∧ tg < W'.heap.size ∧ wg < W'.heap.size) := fun W' h =>
    ⟨⟨fun j hj => (h.cell (p := ⟨tg, j, none⟩) htl).trans (hT j hj), fun j hj => (h.cell (p := ⟨wg, j, none⟩) hwg).trans (hw j hj)⟩, Nat.lt_of_lt_of_le htl h.size, Nat.lt_of_lt_of_le hwg h.size⟩
  have HWL : Hid _ := hW
  have HB : Hid (blk.size = 16) := hb16
  have hbz : (16 : Int) ≤ (blk.size : Int) := by omega
  clear hT htl hwg hw hW hb16
  have HAD : Hid (∀ (g c r : Nat) (s : Nat → Nat) (w0 : World), Below w.heap.size w w0 → FR w0 g s → (∀ i, s i < 256) → r ≤ 14 →
      Calls Tryz.prog 55 #[.slice (some ⟨g, 0, none⟩) 16 c, .slice (some ⟨wg, 0, none⟩) 60 wc, .int .i64 (r : Int)] w0 fun e w' => (∃ g2 cap, e = .returned (.slice (some ⟨g2, 0, none⟩) 16 cap) ∧ FR w' g2 (addB s W r)) ∧ Below w.heap.size w w') := fun g c r s w0 hb0 hf hs hr =>
    (sadd_any g c wg wc r s W w0 hf hs (HK.out w0 hb0).2.2 (HK.out w0 hb0).1.wrd HWL.out hr).mono fun e w' ⟨⟨v, he, hown⟩, hb1⟩ => by
      obtain ⟨g2, cap, rfl, _, hg2, _, hcells⟩ := owns_form hown (by omega)
      exact ⟨⟨g2, cap, he, hg2, hcells⟩, bl_trans hb0 hb1 hb0.size⟩
  go_enter Tryz.func39, Tryz.ntmps39
  go_wp2_with fail
  go_loopw [7, 8] (fun v c wr => ∃ n : Nat, n ≤ 16 ∧ c = .int .i64 (n : Int) ∧ wr.ownsRow w.heap.size 67 1 v n (wCells (bsOf blk) n) ∧ Below w.heap.size w wr)
    (fun _ c _ => 16 - (cipIntOf c).toNat)
  case atStart => exact ⟨0, by omega, rfl, World.ownsRow_made w #[] 0 (Nat.le_refl _) (by unfold maxLen; omega) rfl, (Below.refl _ _).alloc (Nat.le_refl _) _⟩
  case round =>
    obtain ⟨n, hn, rfl, hown, hb⟩ := hrel
    have hsz := hb.size
    by_cases hlt : n < 16
    · have HSN : Hid _ := wCells_snoc (bsOf blk) n
      have hx := bsOf_at blk n (by have := HB.out; omega)
      have hl := bsOf_lt blk n
      generalize bsOf blk n = x at HSN hx hl
      go_wp2_with (at_builtin; (refine wpList_append_own _ rfl _ _ 62 rfl w.heap.size 67 i0 (.int .u32 0) 1 4 Tryz.underlying62 hi hz0 hz1 hz2 rfl (by decide) _ _ _ rfl (hown.alloc _) ⟨wr.heap.size, 0, none⟩ 1 1 [_] rfl rfl (cell_one_new _ _ _) ?c2 ?c3 ?c4 ?c5 ?_))
      case c2 => exact one_u
      case c3 => unfold maxLen; omega
      case c4 => omega
      case c5 => simp; omega
      intro v' w1 hown' hgrow _
      rw [HSN.out] at hown'
      have hb2 : Below w.heap.size w w1 := (hb.alloc (by first | omega | (simp; omega)) _).grown hgrow (by simp; omega) (fun k hk => (hown.lt k hk).1)
      have H1 : Hid (w1.ownsRow w.heap.size 67 1 v' (n + 1) (wCells (bsOf blk) (n + 1)) ∧ Below w.heap.size w w1) := ⟨hown', hb2⟩
      clear hown' hb2 hgrow hown hb HSN
      go_wp2_with fail
      go_roundw
      case rel =>
        first
          | exact ⟨n + 1, by omega, by go_num, H1.out.1, H1.out.2⟩
          | (repeat apply Exists.intro
             exact ⟨⟨n + 1, by omega, by go_num, H1.out.1, H1.out.2⟩, rfl⟩)
      case measure => simp [cipIntOf]; omega
    · obtain rfl : n = 16 := by omega
      obtain ⟨g0, cap0, rfl, _, hg0, _, hcells⟩ := owns_form hown (by omega)
      have HF0 : Hid (FR wr g0 (bsOf blk) ∧ Below w.heap.size w wr) := ⟨⟨hg0, hcells⟩, hb⟩
      clear hown hcells hb hg0 hsz
      have HC0 : Hid (Calls Tryz.prog 55 #[.slice (some ⟨g0, 0, none⟩) 16 cap0, .slice (some ⟨wg, 0, none⟩) 60 wc, .int .i64 0] wr fun e w' => (∃ g2 cap, e = .returned (.slice (some ⟨g2, 0, none⟩) 16 cap) ∧ FR w' g2 (stB (bsOf blk) W 0)) ∧ Below w.heap.size w w') := HAD.out g0 cap0 0 (bsOf blk) wr HF0.out.2 HF0.out.1 (bsOf_lt blk) (by omega)
      have HSB : Hid (∀ r i, stB (bsOf blk) W r i < 256) := stB_lt (bsOf_lt blk)
      have HSS : Hid (∀ r, stB (bsOf blk) W (r + 1) = addB (midB (stB (bsOf blk) W r) (r + 1)) W (r + 1)) := fun r => rfl
      have HEB : Hid (encB (bsOf blk) W = ⟨(outL (stB (bsOf blk) W 14)).toArray⟩) := rfl
      generalize stB (bsOf blk) W = st at HC0 HSB HSS HEB
      go_wp2_with fail
      refine HC0.out.mono ?_
      rintro e w2 ⟨⟨g1, cap1, rfl, hf⟩, hb⟩
      have HF1 : Hid (FR w2 g1 (st 0) ∧ Below w.heap.size w w2) := ⟨hf, hb⟩
      clear hf hb HF0 HC0
      go_wp2_with fail
      go_loopw [7, 9] (fun v c wr => ∃ q g cap : Nat, 1 ≤ q ∧ q ≤ 15 ∧ c = .int .i64 (q : Int) ∧ v = .slice (some ⟨g, 0, none⟩) 16 cap ∧ Hid (FR wr g (st (q - 1)) ∧ Below w.heap.size w wr))
        (fun _ c _ => 15 - (cipIntOf c).toNat)
      case atStart => exact ⟨1, g1, cap1, by omega, by omega, rfl, rfl, HF1⟩
      case round =>
        obtain ⟨q, g, cap, hq1, hq, rfl, rfl, HF⟩ := hrel
        clear HF1
        by_cases hlt : q < 15
        · have HS0 : Hid (∀ i, st (q - 1) i < 256) := HSB.out (q - 1)
          have HSR := HSS.out (q - 1)
          rw [show q - 1 + 1 = q by omega] at HSR
          have HSR2 : Hid _ := HSR
          clear HSR
          generalize st (q - 1) = s at HF HS0 HSR2
          have hq14 : (q : Int) ≤ 14 := by omega
          have e34 : decide ((q : Int) ≤ 14) = true := decide_eq_true hq14
          go_wp2_with fail
          go_loopw [10, 11] (fun v c wx => ∃ n : Nat, n ≤ 16 ∧ c = .int .i64 (n : Int) ∧ wx.ownsRow wr.heap.size 67 1 v n (wCells (subsB s) n) ∧ Below wr.heap.size wr wx)
            (fun _ c _ => 16 - (cipIntOf c).toNat)
          case atStart => exact ⟨0, by omega, rfl, World.ownsRow_made wr #[] 0 (Nat.le_refl _) (by unfold maxLen; omega) rfl, (Below.refl _ _).alloc (Nat.le_refl _) _⟩
          case round =>
            obtain ⟨n, hn, rfl, hown, hb⟩ := hrel
            rename World => wx
            have hsz := hb.size
            by_cases hlt : n < 16
            · have HSN : Hid _ := wCells_snoc (subsB s) n
              have hj16 : (n + 4 * (n % 4)) % 16 < 16 := by omega
              have c0 := (HF.out.1.below hb HF.out.1.lt).word _ hj16
              have hsj := HS0.out ((n + 4 * (n % 4)) % 16)
              have c1 := (HK.out _ (bl_trans HF.out.2 hb HF.out.2.size)).1.tab _ hsj
              have ej : ((n : Int) + 4 * ((n : Int) % 4)) % 16 = (((n + 4 * (n % 4)) % 16 : Nat) : Int) := by omega
              have HSU : subsB s n = sbox (s ((n + 4 * (n % 4)) % 16)) := rfl
              rw [HSU] at HSN
              clear HSU
              generalize sbox (s ((n + 4 * (n % 4)) % 16)) = z at HSN c1
              generalize s ((n + 4 * (n % 4)) % 16) = y at c0 c1 hsj
              generalize (n + 4 * (n % 4)) % 16 = j at c0 ej hj16
              go_wp2_with (at_builtin; (refine wpList_append_own _ rfl _ _ 62 rfl wr.heap.size 67 i0 (.int .u32 0) 1 4 Tryz.underlying62 hi hz0 hz1 hz2 rfl (by decide) _ _ _ rfl (hown.alloc _) ⟨wx.heap.size, 0, none⟩ 1 1 [_] rfl rfl (cell_one_new _ _ _) ?c2 ?c3 ?c4 ?c5 ?_))
              case c2 => exact one_u
              case c3 => unfold maxLen; omega
              case c4 => omega
              case c5 => simp; omega
              intro v' w1 hown' hgrow _
              rw [HSN.out] at hown'
              have hb2 : Below wr.heap.size wr w1 := (hb.alloc (by first | omega | (simp; omega)) _).grown hgrow (by simp; omega) (fun k hk => (hown.lt k hk).1)
              have H1 : Hid (w1.ownsRow wr.heap.size 67 1 v' (n + 1) (wCells (subsB s) (n + 1)) ∧ Below wr.heap.size wr w1) := ⟨hown', hb2⟩
              clear hown' hb2 hgrow hown hb HSN
              go_wp2_with fail
              go_roundw
              case rel =>
                first
                  | exact ⟨n + 1, by omega, by go_num, H1.out.1, H1.out.2⟩
                  | (repeat apply Exists.intro
                     exact ⟨⟨n + 1, by omega, by go_num, H1.out.1, H1.out.2⟩, rfl⟩)
              case measure => simp [cipIntOf]; omega
            · obtain rfl : n = 16 := by omega
              obtain ⟨gx, capx, rfl, _, hgx, _, hcx⟩ := owns_form hown (by omega)
              have HX : Hid (FR wx gx (subsB s) ∧ Below w.heap.size w wx) := ⟨⟨hgx, hcx⟩, bl_trans HF.out.2 hb HF.out.2.size⟩
              have HXL : Hid (∀ i, subsB s i < 256) := subsB_lt HS0.out
              clear hown hgx hcx hb hsz hlt hn
              by_cases h13 : q < 14
              · have HSR : Hid (st q = addB (mixB (subsB s)) W q) := by
                  show _ = _
                  rw [HSR2.out]; unfold midB; rw [if_pos h13]
                generalize subsB s = x at HX HXL HSR
                have hq13 : (q : Int) < 14 := by omega
                have e13 : decide ((q : Int) < 14) = true := decide_eq_true hq13
                go_wp2_with fail
                (try simp only [Int.Nat.cast_ofNat_Int])
                go_loopw [12, 13] (fun v c wy => ∃ n : Nat, n ≤ 16 ∧ c = .int .i64 (n : Int) ∧ wy.ownsRow wx.heap.size 67 1 v n (wCells (mixB x) n) ∧ Below wx.heap.size wx wy)
                  (fun _ c _ => 16 - (cipIntOf c).toNat)
                case atStart => exact ⟨0, by omega, rfl, World.ownsRow_made wx #[] 0 (Nat.le_refl _) (by unfold maxLen; omega) rfl, (Below.refl _ _).alloc (Nat.le_refl _) _⟩
                case round =>
                  obtain ⟨n, hn, rfl, hown, hb⟩ := hrel
                  rename World => wy
                  have hsz := hb.size
                  by_cases hlt : n < 16
                  · have HSN : Hid _ := wCells_snoc (mixB x) n
                    have HMB : mixB x n = mx (x n) (x (n / 4 * 4 + (n % 4 + 1) % 4)) (x (n / 4 * 4 + (n % 4 + 2) % 4)) (x (n / 4 * 4 + (n % 4 + 3) % 4)) := rfl
                    rw [HMB] at HSN
                    clear HMB
                    have j1 : n / 4 * 4 + (n % 4 + 1) % 4 < 16 := by omega
                    have j2 : n / 4 * 4 + (n % 4 + 2) % 4 < 16 := by omega
                    have j3 : n / 4 * 4 + (n % 4 + 3) % 4 < 16 := by omega
                    obtain ⟨S, hS⟩ : ∃ S : World → Prop, S = fun w' => Below wx.heap.size wx w' := ⟨_, rfl⟩
                    have hSd : S wy.drew := by rw [hS]; exact hb.drew
                    have kk : ∀ j, j < 16 → ∀ w', S w' → w'.cell? ⟨gx, j, none⟩ = some (.int .u32 (x j : Nat)) := fun j hj w' h => (HX.out.1.below (by rw [hS] at h; exact h) HX.out.1.lt).word j hj
                    have k0 := kk n hlt
                    have k1 := kk _ j1
                    have k2 := kk _ j2
                    have k3 := kk _ j3
                    have HS : Hid _ := hS
                    clear hS kk
                    have l0 := HXL.out n
                    have l1 := HXL.out (n / 4 * 4 + (n % 4 + 1) % 4)
                    have l2 := HXL.out (n / 4 * 4 + (n % 4 + 2) % 4)
                    have l3 := HXL.out (n / 4 * 4 + (n % 4 + 3) % 4)
                    generalize x n = x0 at k0 l0 HSN
                    generalize x (n / 4 * 4 + (n % 4 + 1) % 4) = x1 at k1 l1 HSN
                    generalize x (n / 4 * 4 + (n % 4 + 2) % 4) = x2 at k2 l2 HSN
                    generalize x (n / 4 * 4 + (n % 4 + 3) % 4) = x3 at k3 l3 HSN
                    have ej1 : ((n / 4 * 4 : Nat) : Int) + (((n % 4 : Nat) : Int) + 1) % 4 = ((n / 4 * 4 + (n % 4 + 1) % 4 : Nat) : Int) := by omega
                    have ej2 : ((n / 4 * 4 : Nat) : Int) + (((n % 4 : Nat) : Int) + 2) % 4 = ((n / 4 * 4 + (n % 4 + 2) % 4 : Nat) : Int) := by omega
                    have ej3 : ((n / 4 * 4 : Nat) : Int) + (((n % 4 : Nat) : Int) + 3) % 4 = ((n / 4 * 4 + (n % 4 + 3) % 4 : Nat) : Int) := by omega
                    have eC : (n : Int) / 4 * 4 = ((n / 4 * 4 : Nat) : Int) := by omega
                    have eK : (n : Int) % 4 = ((n % 4 : Nat) : Int) := by omega
                    have hC : n / 4 * 4 < 16 := by omega
                    have hK4 : n % 4 < 4 := by omega
                    generalize n / 4 * 4 + (n % 4 + 1) % 4 = q1 at k1 ej1 j1
                    generalize n / 4 * 4 + (n % 4 + 2) % 4 = q2 at k2 ej2 j2
                    generalize n / 4 * 4 + (n % 4 + 3) % 4 = q3 at k3 ej3 j3
                    generalize n / 4 * 4 = C at ej1 ej2 ej3 eC hC
                    generalize n % 4 = K at ej1 ej2 ej3 eK hK4
                    have a1 := mulB_lt x0 2 l0
                    have a2 := mulB_lt x1 3 l1
                    have HT1 : Hid (∀ w, Calls Tryz.prog 54 #[.int .u32 (x0 : Int), .int .u32 2] w fun e w' => e = .returned (.int .u32 (mulB x0 2 : Nat)) ∧ w' = w) := fun w => stimes_any x0 2 w l0
                    have HT2 : Hid (∀ w, Calls Tryz.prog 54 #[.int .u32 (x1 : Int), .int .u32 3] w fun e w' => e = .returned (.int .u32 (mulB x1 3 : Nat)) ∧ w' = w) := fun w => stimes_any x1 3 w l1
                    have hz : mx x0 x1 x2 x3 = ((mulB x0 2 ^^^ mulB x1 3) ^^^ x2) ^^^ x3 := rfl
                    rw [hz] at HSN
                    clear hz
                    generalize mulB x0 2 = m1 at a1 HT1 HSN
                    generalize mulB x1 3 = m2 at a2 HT2 HSN
                    have b1 := xor_byte a1 a2
                    have b2 := xor_byte b1 l2
                    have hx1 : bits .xor .u32 (m1 : Int) (m2 : Int) = ((m1 ^^^ m2 : Nat) : Int) := u32_xor_nat _ _ (by omega) (by omega)
                    have hx2 : bits .xor .u32 ((m1 ^^^ m2 : Nat) : Int) (x2 : Int) = (((m1 ^^^ m2) ^^^ x2 : Nat) : Int) := u32_xor_nat _ _ (by omega) (by omega)
                    have hx3 : bits .xor .u32 (((m1 ^^^ m2) ^^^ x2 : Nat) : Int) (x3 : Int) = ((((m1 ^^^ m2) ^^^ x2) ^^^ x3 : Nat) : Int) := u32_xor_nat _ _ (by omega) (by omega)
                    generalize ((m1 ^^^ m2) ^^^ x2) ^^^ x3 = z at hx3 HSN
                    generalize (m1 ^^^ m2) ^^^ x2 = y2 at hx2 hx3 b2
                    generalize m1 ^^^ m2 = y1 at hx1 hx2 b1
                    have hl3 : n + 1 ≤ maxLen := by unfold maxLen; omega
                    have hl4 : (n + 1) * 4 ≤ 140737488355328 := by omega
                    go_wp2_with fail
                    refine wp_region_held (S := S) (by kernel_rfl) ?_
                    change wpAnyH _ _ _ _ _ _ _ _ (World.drew _)
                    refine wpAnyH_take (i := 0) (v := u12) rfl (by kernel_rfl) (by kernel_rfl) (by kernel_rfl) (fun _ _ _ h => h) (Or.inl ⟨by rfl, by intro w' hS'; go_simp <;> (first | omega | (rw [IntKind.wrap_i64]; omega) | (rw [Int.tmod_eq_emod_of_nonneg (by omega)]))⟩) hSd ?_
                    (try simp only [List.getElem_toArray, List.getElem_cons_succ, List.getElem_cons_zero, Act.put, List.setIfInBounds_toArray, List.set_cons_zero, List.set_cons_succ])
                    refine wpAnyH_take (i := 1) (v := .slice (some ⟨gx, 0, none⟩) 16 capx) rfl (by kernel_rfl) (by kernel_rfl) (by kernel_rfl) (fun _ _ _ h => h) (Or.inl ⟨by rfl, by intro w' hS'; go_simp <;> (first | omega | (rw [IntKind.wrap_i64]; omega) | (rw [Int.tmod_eq_emod_of_nonneg (by omega)]))⟩) hSd ?_
                    (try simp only [List.getElem_toArray, List.getElem_cons_succ, List.getElem_cons_zero, Act.put, List.setIfInBounds_toArray, List.set_cons_zero, List.set_cons_succ])
                    refine wpAnyH_take (i := 2) (v := .int .i64 ((n : Int))) rfl (by kernel_rfl) (by kernel_rfl) (by kernel_rfl) (fun _ _ _ h => h) (Or.inl ⟨by rfl, by intro w' hS'; go_simp <;> (first | omega | (rw [IntKind.wrap_i64]; omega) | (rw [Int.tmod_eq_emod_of_nonneg (by omega)]))⟩) hSd ?_
                    (try simp only [List.getElem_toArray, List.getElem_cons_succ, List.getElem_cons_zero, Act.put, List.setIfInBounds_toArray, List.set_cons_zero, List.set_cons_succ])
                    refine wpAnyH_take (i := 3) (v := .pointer (some ⟨gx, n, none⟩)) rfl (by kernel_rfl) (by kernel_rfl) (by kernel_rfl) (fun _ _ _ h => h) (Or.inl ⟨by rfl, by intro w' hS'; go_simp <;> (first | omega | (rw [IntKind.wrap_i64]; omega) | (rw [Int.tmod_eq_emod_of_nonneg (by omega)]))⟩) hSd ?_
                    (try simp only [List.getElem_toArray, List.getElem_cons_succ, List.getElem_cons_zero, Act.put, List.setIfInBounds_toArray, List.set_cons_zero, List.set_cons_succ])
                    refine wpAnyH_take (i := 4) (v := .int .u32 ((x0 : Int))) rfl (by kernel_rfl) (by kernel_rfl) (by kernel_rfl) (fun _ _ _ h => h) (Or.inl ⟨by rfl, by intro w' hS'; have hcell := k0 w' hS'; go_simp⟩) hSd ?_
                    (try simp only [List.getElem_toArray, List.getElem_cons_succ, List.getElem_cons_zero, Act.put, List.setIfInBounds_toArray, List.set_cons_zero, List.set_cons_succ])
                    refine wpAnyH_take (i := 6) (v := .slice (some ⟨gx, 0, none⟩) 16 capx) rfl (by kernel_rfl) (by kernel_rfl) (by kernel_rfl) (fun _ _ _ h => h) (Or.inl ⟨by rfl, by intro w' hS'; go_simp <;> (first | omega | (rw [IntKind.wrap_i64]; omega) | (rw [Int.tmod_eq_emod_of_nonneg (by omega)]))⟩) hSd ?_
                    (try simp only [List.getElem_toArray, List.getElem_cons_succ, List.getElem_cons_zero, Act.put, List.setIfInBounds_toArray, List.set_cons_zero, List.set_cons_succ])
                    refine wpAnyH_take (i := 7) (v := .int .i64 ((C : Int))) rfl (by kernel_rfl) (by kernel_rfl) (by kernel_rfl) (fun _ _ _ h => h) (Or.inl ⟨by rfl, by intro w' hS'; go_simp <;> (first | omega | (rw [IntKind.wrap_i64]; omega) | (rw [Int.tmod_eq_emod_of_nonneg (by omega)]))⟩) hSd ?_
                    (try simp only [List.getElem_toArray, List.getElem_cons_succ, List.getElem_cons_zero, Act.put, List.setIfInBounds_toArray, List.set_cons_zero, List.set_cons_succ])
                    refine wpAnyH_take (i := 8) (v := .int .i64 ((K : Int))) rfl (by kernel_rfl) (by kernel_rfl) (by kernel_rfl) (fun _ _ _ h => h) (Or.inl ⟨by rfl, by intro w' hS'; go_simp <;> (first | omega | (rw [IntKind.wrap_i64]; omega) | (rw [Int.tmod_eq_emod_of_nonneg (by omega)]))⟩) hSd ?_
                    (try simp only [List.getElem_toArray, List.getElem_cons_succ, List.getElem_cons_zero, Act.put, List.setIfInBounds_toArray, List.set_cons_zero, List.set_cons_succ])
                    refine wpAnyH_take (i := 9) (v := .int .i64 ((K : Int) + 1)) rfl (by kernel_rfl) (by kernel_rfl) (by kernel_rfl) (fun _ _ _ h => h) (Or.inl ⟨by rfl, by intro w' hS'; go_simp <;> (first | omega | (rw [IntKind.wrap_i64]; omega) | (rw [Int.tmod_eq_emod_of_nonneg (by omega)]))⟩) hSd ?_
                    (try simp only [List.getElem_toArray, List.getElem_cons_succ, List.getElem_cons_zero, Act.put, List.setIfInBounds_toArray, List.set_cons_zero, List.set_cons_succ])
                    refine wpAnyH_take (i := 10) (v := .int .i64 (((K : Int) + 1) % 4)) rfl (by kernel_rfl) (by kernel_rfl) (by kernel_rfl) (fun _ _ _ h => h) (Or.inl ⟨by rfl, by intro w' hS'; go_simp <;> (first | omega | (rw [IntKind.wrap_i64]; omega) | (rw [Int.tmod_eq_emod_of_nonneg (by omega)]))⟩) hSd ?_
                    (try simp only [List.getElem_toArray, List.getElem_cons_succ, List.getElem_cons_zero, Act.put, List.setIfInBounds_toArray, List.set_cons_zero, List.set_cons_succ])
                    refine wpAnyH_take (i := 11) (v := .int .i64 ((q1 : Int))) rfl (by kernel_rfl) (by kernel_rfl) (by kernel_rfl) (fun _ _ _ h => h) (Or.inl ⟨by rfl, by intro w' hS'; go_simp <;> (first | omega | (rw [IntKind.wrap_i64]; omega) | (rw [Int.tmod_eq_emod_of_nonneg (by omega)]))⟩) hSd ?_
                    (try simp only [List.getElem_toArray, List.getElem_cons_succ, List.getElem_cons_zero, Act.put, List.setIfInBounds_toArray, List.set_cons_zero, List.set_cons_succ])
                    refine wpAnyH_take (i := 12) (v := .pointer (some ⟨gx, q1, none⟩)) rfl (by kernel_rfl) (by kernel_rfl) (by kernel_rfl) (fun _ _ _ h => h) (Or.inl ⟨by rfl, by intro w' hS'; go_simp <;> (first | omega | (rw [IntKind.wrap_i64]; omega) | (rw [Int.tmod_eq_emod_of_nonneg (by omega)]))⟩) hSd ?_
                    (try simp only [List.getElem_toArray, List.getElem_cons_succ, List.getElem_cons_zero, Act.put, List.setIfInBounds_toArray, List.set_cons_zero, List.set_cons_succ])
                    refine wpAnyH_take (i := 13) (v := .int .u32 ((x1 : Int))) rfl (by kernel_rfl) (by kernel_rfl) (by kernel_rfl) (fun _ _ _ h => h) (Or.inl ⟨by rfl, by intro w' hS'; have hcell := k1 w' hS'; go_simp⟩) hSd ?_
                    (try simp only [List.getElem_toArray, List.getElem_cons_succ, List.getElem_cons_zero, Act.put, List.setIfInBounds_toArray, List.set_cons_zero, List.set_cons_succ])
                    refine wpAnyH_take (i := 16) (v := .slice (some ⟨gx, 0, none⟩) 16 capx) rfl (by kernel_rfl) (by kernel_rfl) (by kernel_rfl) (fun _ _ _ h => h) (Or.inl ⟨by rfl, by intro w' hS'; go_simp <;> (first | omega | (rw [IntKind.wrap_i64]; omega) | (rw [Int.tmod_eq_emod_of_nonneg (by omega)]))⟩) hSd ?_
                    (try simp only [List.getElem_toArray, List.getElem_cons_succ, List.getElem_cons_zero, Act.put, List.setIfInBounds_toArray, List.set_cons_zero, List.set_cons_succ])
                    refine wpAnyH_take (i := 17) (v := .int .i64 ((C : Int))) rfl (by kernel_rfl) (by kernel_rfl) (by kernel_rfl) (fun _ _ _ h => h) (Or.inl ⟨by rfl, by intro w' hS'; go_simp <;> (first | omega | (rw [IntKind.wrap_i64]; omega) | (rw [Int.tmod_eq_emod_of_nonneg (by omega)]))⟩) hSd ?_
                    (try simp only [List.getElem_toArray, List.getElem_cons_succ, List.getElem_cons_zero, Act.put, List.setIfInBounds_toArray, List.set_cons_zero, List.set_cons_succ])
                    refine wpAnyH_take (i := 18) (v := .int .i64 ((K : Int))) rfl (by kernel_rfl) (by kernel_rfl) (by kernel_rfl) (fun _ _ _ h => h) (Or.inl ⟨by rfl, by intro w' hS'; go_simp <;> (first | omega | (rw [IntKind.wrap_i64]; omega) | (rw [Int.tmod_eq_emod_of_nonneg (by omega)]))⟩) hSd ?_
                    (try simp only [List.getElem_toArray, List.getElem_cons_succ, List.getElem_cons_zero, Act.put, List.setIfInBounds_toArray, List.set_cons_zero, List.set_cons_succ])
                    refine wpAnyH_take (i := 19) (v := .int .i64 ((K : Int) + 2)) rfl (by kernel_rfl) (by kernel_rfl) (by kernel_rfl) (fun _ _ _ h => h) (Or.inl ⟨by rfl, by intro w' hS'; go_simp <;> (first | omega | (rw [IntKind.wrap_i64]; omega) | (rw [Int.tmod_eq_emod_of_nonneg (by omega)]))⟩) hSd ?_
                    (try simp only [List.getElem_toArray, List.getElem_cons_succ, List.getElem_cons_zero, Act.put, List.setIfInBounds_toArray, List.set_cons_zero, List.set_cons_succ])
                    refine wpAnyH_take (i := 20) (v := .int .i64 (((K : Int) + 2) % 4)) rfl (by kernel_rfl) (by kernel_rfl) (by kernel_rfl) (fun _ _ _ h => h) (Or.inl ⟨by rfl, by intro w' hS'; go_simp <;> (first | omega | (rw [IntKind.wrap_i64]; omega) | (rw [Int.tmod_eq_emod_of_nonneg (by omega)]))⟩) hSd ?_
                    (try simp only [List.getElem_toArray, List.getElem_cons_succ, List.getElem_cons_zero, Act.put, List.setIfInBounds_toArray, List.set_cons_zero, List.set_cons_succ])
                    refine wpAnyH_take (i := 21) (v := .int .i64 ((q2 : Int))) rfl (by kernel_rfl) (by kernel_rfl) (by kernel_rfl) (fun _ _ _ h => h) (Or.inl ⟨by rfl, by intro w' hS'; go_simp <;> (first | omega | (rw [IntKind.wrap_i64]; omega) | (rw [Int.tmod_eq_emod_of_nonneg (by omega)]))⟩) hSd ?_
                    (try simp only [List.getElem_toArray, List.getElem_cons_succ, List.getElem_cons_zero, Act.put, List.setIfInBounds_toArray, List.set_cons_zero, List.set_cons_succ])
                    refine wpAnyH_take (i := 22) (v := .pointer (some ⟨gx, q2, none⟩)) rfl (by kernel_rfl) (by kernel_rfl) (by kernel_rfl) (fun _ _ _ h => h) (Or.inl ⟨by rfl, by intro w' hS'; go_simp <;> (first | omega | (rw [IntKind.wrap_i64]; omega) | (rw [Int.tmod_eq_emod_of_nonneg (by omega)]))⟩) hSd ?_
                    (try simp only [List.getElem_toArray, List.getElem_cons_succ, List.getElem_cons_zero, Act.put, List.setIfInBounds_toArray, List.set_cons_zero, List.set_cons_succ])
                    refine wpAnyH_take (i := 23) (v := .int .u32 ((x2 : Int))) rfl (by kernel_rfl) (by kernel_rfl) (by kernel_rfl) (fun _ _ _ h => h) (Or.inl ⟨by rfl, by intro w' hS'; have hcell := k2 w' hS'; go_simp⟩) hSd ?_
                    (try simp only [List.getElem_toArray, List.getElem_cons_succ, List.getElem_cons_zero, Act.put, List.setIfInBounds_toArray, List.set_cons_zero, List.set_cons_succ])
                    refine wpAnyH_take (i := 25) (v := .slice (some ⟨gx, 0, none⟩) 16 capx) rfl (by kernel_rfl) (by kernel_rfl) (by kernel_rfl) (fun _ _ _ h => h) (Or.inl ⟨by rfl, by intro w' hS'; go_simp <;> (first | omega | (rw [IntKind.wrap_i64]; omega) | (rw [Int.tmod_eq_emod_of_nonneg (by omega)]))⟩) hSd ?_
                    (try simp only [List.getElem_toArray, List.getElem_cons_succ, List.getElem_cons_zero, Act.put, List.setIfInBounds_toArray, List.set_cons_zero, List.set_cons_succ])
                    refine wpAnyH_take (i := 26) (v := .int .i64 ((C : Int))) rfl (by kernel_rfl) (by kernel_rfl) (by kernel_rfl) (fun _ _ _ h => h) (Or.inl ⟨by rfl, by intro w' hS'; go_simp <;> (first | omega | (rw [IntKind.wrap_i64]; omega) | (rw [Int.tmod_eq_emod_of_nonneg (by omega)]))⟩) hSd ?_
                    (try simp only [List.getElem_toArray, List.getElem_cons_succ, List.getElem_cons_zero, Act.put, List.setIfInBounds_toArray, List.set_cons_zero, List.set_cons_succ])
                    refine wpAnyH_take (i := 27) (v := .int .i64 ((K : Int))) rfl (by kernel_rfl) (by kernel_rfl) (by kernel_rfl) (fun _ _ _ h => h) (Or.inl ⟨by rfl, by intro w' hS'; go_simp <;> (first | omega | (rw [IntKind.wrap_i64]; omega) | (rw [Int.tmod_eq_emod_of_nonneg (by omega)]))⟩) hSd ?_
                    (try simp only [List.getElem_toArray, List.getElem_cons_succ, List.getElem_cons_zero, Act.put, List.setIfInBounds_toArray, List.set_cons_zero, List.set_cons_succ])
                    refine wpAnyH_take (i := 28) (v := .int .i64 ((K : Int) + 3)) rfl (by kernel_rfl) (by kernel_rfl) (by kernel_rfl) (fun _ _ _ h => h) (Or.inl ⟨by rfl, by intro w' hS'; go_simp <;> (first | omega | (rw [IntKind.wrap_i64]; omega) | (rw [Int.tmod_eq_emod_of_nonneg (by omega)]))⟩) hSd ?_
                    (try simp only [List.getElem_toArray, List.getElem_cons_succ, List.getElem_cons_zero, Act.put, List.setIfInBounds_toArray, List.set_cons_zero, List.set_cons_succ])
                    refine wpAnyH_take (i := 29) (v := .int .i64 (((K : Int) + 3) % 4)) rfl (by kernel_rfl) (by kernel_rfl) (by kernel_rfl) (fun _ _ _ h => h) (Or.inl ⟨by rfl, by intro w' hS'; go_simp <;> (first | omega | (rw [IntKind.wrap_i64]; omega) | (rw [Int.tmod_eq_emod_of_nonneg (by omega)]))⟩) hSd ?_
                    (try simp only [List.getElem_toArray, List.getElem_cons_succ, List.getElem_cons_zero, Act.put, List.setIfInBounds_toArray, List.set_cons_zero, List.set_cons_succ])
                    refine wpAnyH_take (i := 30) (v := .int .i64 ((q3 : Int))) rfl (by kernel_rfl) (by kernel_rfl) (by kernel_rfl) (fun _ _ _ h => h) (Or.inl ⟨by rfl, by intro w' hS'; go_simp <;> (first | omega | (rw [IntKind.wrap_i64]; omega) | (rw [Int.tmod_eq_emod_of_nonneg (by omega)]))⟩) hSd ?_
                    (try simp only [List.getElem_toArray, List.getElem_cons_succ, List.getElem_cons_zero, Act.put, List.setIfInBounds_toArray, List.set_cons_zero, List.set_cons_succ])
                    refine wpAnyH_take (i := 31) (v := .pointer (some ⟨gx, q3, none⟩)) rfl (by kernel_rfl) (by kernel_rfl) (by kernel_rfl) (fun _ _ _ h => h) (Or.inl ⟨by rfl, by intro w' hS'; go_simp <;> (first | omega | (rw [IntKind.wrap_i64]; omega) | (rw [Int.tmod_eq_emod_of_nonneg (by omega)]))⟩) hSd ?_
                    (try simp only [List.getElem_toArray, List.getElem_cons_succ, List.getElem_cons_zero, Act.put, List.setIfInBounds_toArray, List.set_cons_zero, List.set_cons_succ])
                    refine wpAnyH_take (i := 32) (v := .int .u32 ((x3 : Int))) rfl (by kernel_rfl) (by kernel_rfl) (by kernel_rfl) (fun _ _ _ h => h) (Or.inl ⟨by rfl, by intro w' hS'; have hcell := k3 w' hS'; go_simp⟩) hSd ?_
                    (try simp only [List.getElem_toArray, List.getElem_cons_succ, List.getElem_cons_zero, Act.put, List.setIfInBounds_toArray, List.set_cons_zero, List.set_cons_succ])
                    refine held_step (i := 5) (by kernel_rfl) rfl (by rfl) ?_
                    go_simp
                    refine (HT1.out _).mono ?_
                    rintro e w' ⟨rfl, hw⟩
                    subst w'
                    refine ⟨hSd, ?_⟩
                    (try simp only [List.getElem_toArray, List.getElem_cons_succ, List.getElem_cons_zero, Act.put, List.setIfInBounds_toArray, List.set_cons_zero, List.set_cons_succ])
                    refine held_step (i := 14) (by kernel_rfl) rfl (by rfl) ?_
                    go_simp
                    refine (HT2.out _).mono ?_
                    rintro e w' ⟨rfl, hw⟩
                    subst w'
                    refine ⟨hSd, ?_⟩
                    (try simp only [List.getElem_toArray, List.getElem_cons_succ, List.getElem_cons_zero, Act.put, List.setIfInBounds_toArray, List.set_cons_zero, List.set_cons_succ])
                    refine wpAnyH_take (i := 15) (v := .int .u32 ((y1 : Int))) rfl (by kernel_rfl) (by kernel_rfl) (by kernel_rfl) (fun _ _ _ h => h) (Or.inl ⟨by rfl, by intro w' hS'; go_simp <;> (first | omega | (rw [IntKind.wrap_i64]; omega) | (rw [Int.tmod_eq_emod_of_nonneg (by omega)]))⟩) hSd ?_
                    (try simp only [List.getElem_toArray, List.getElem_cons_succ, List.getElem_cons_zero, Act.put, List.setIfInBounds_toArray, List.set_cons_zero, List.set_cons_succ])
                    refine wpAnyH_take (i := 24) (v := .int .u32 ((y2 : Int))) rfl (by kernel_rfl) (by kernel_rfl) (by kernel_rfl) (fun _ _ _ h => h) (Or.inl ⟨by rfl, by intro w' hS'; go_simp <;> (first | omega | (rw [IntKind.wrap_i64]; omega) | (rw [Int.tmod_eq_emod_of_nonneg (by omega)]))⟩) hSd ?_
                    (try simp only [List.getElem_toArray, List.getElem_cons_succ, List.getElem_cons_zero, Act.put, List.setIfInBounds_toArray, List.set_cons_zero, List.set_cons_succ])
                    refine wpAnyH_take (i := 33) (v := .int .u32 ((z : Int))) rfl (by kernel_rfl) (by kernel_rfl) (by kernel_rfl) (fun _ _ _ h => h) (Or.inl ⟨by rfl, by intro w' hS'; go_simp <;> (first | omega | (rw [IntKind.wrap_i64]; omega) | (rw [Int.tmod_eq_emod_of_nonneg (by omega)]))⟩) hSd ?_
                    (try simp only [List.getElem_toArray, List.getElem_cons_succ, List.getElem_cons_zero, Act.put, List.setIfInBounds_toArray, List.set_cons_zero, List.set_cons_succ])
                    refine held_step (i := 34) (by kernel_rfl) rfl (by rfl) ?_
                    go_simp
                    refine ⟨by rw [HS.out]; exact hb.drew.alloc (by simp; omega) _, ?_⟩
                    (try simp only [List.getElem_toArray, List.getElem_cons_succ, List.getElem_cons_zero, Act.put, List.setIfInBounds_toArray, List.set_cons_zero, List.set_cons_succ])
                    refine held_step (i := 35) (by kernel_rfl) rfl (by rfl) ?_
                    refine wp_append_own _ _ _ 62 rfl wx.heap.size 67 i0 (.int .u32 0) 1 4 Tryz.underlying62 hi hz0 hz1 hz2 rfl (by decide) _ _ _ rfl ((owns_drew hown).alloc _) ⟨wy.heap.size, 0, none⟩ 1 1 [_] rfl rfl (cell_one_new _ _ _) one_u hl3 hl4 (by simp; omega) ?_
                    intro v' w1 hown' hgrow _
                    rw [HSN.out] at hown'
                    have hb2 : Below wx.heap.size wx w1 := (hb.drew.alloc (by simp; omega) _).grown hgrow (by simp; omega) (fun k hk => (hown.lt k hk).1)
                    have hS1 : S w1 := by rw [HS.out]; exact hb2
                    have H1 : Hid (w1.ownsRow wx.heap.size 67 1 v' (n + 1) (wCells (mixB x) (n + 1)) ∧ Below wx.heap.size wx w1) := ⟨hown', hb2⟩
                    clear hown' hb2 hgrow hown hb HSN
                    refine ⟨hS1, ?_⟩
                    (try simp only [List.getElem_toArray, List.getElem_cons_succ, List.getElem_cons_zero, Act.put, List.setIfInBounds_toArray, List.set_cons_zero, List.set_cons_succ])
                    refine wpAnyH_take (i := 36) (v := v') rfl (by kernel_rfl) (by kernel_rfl) (by kernel_rfl) (fun _ _ _ h => h) (Or.inl ⟨by rfl, by intro w' hS'; go_simp⟩) hS1 ?_
                    (try simp only [List.getElem_toArray, List.getElem_cons_succ, List.getElem_cons_zero, Act.put, List.setIfInBounds_toArray, List.set_cons_zero, List.set_cons_succ])
                    refine wpAnyH_done (by kernel_rfl) ?_ _
                    go_wp2_with fail
                    go_roundw
                    case rel =>
                      first
                        | exact ⟨n + 1, by omega, by go_num, H1.out.1, H1.out.2⟩
                        | (repeat apply Exists.intro
                           exact ⟨⟨n + 1, by omega, by go_num, H1.out.1, H1.out.2⟩, rfl⟩)
                    case measure => simp [cipIntOf]; omega
                  · obtain rfl : n = 16 := by omega
                    obtain ⟨gy, capy, rfl, _, hgy, _, hcy⟩ := owns_form hown (by omega)
                    have HY : Hid (FR wy gy (mixB x) ∧ Below w.heap.size w wy) := ⟨⟨hgy, hcy⟩, bl_trans HX.out.2 hb HX.out.2.size⟩
                    have HYL : Hid (∀ i, mixB x i < 256) := mixB_lt HXL.out
                    clear hown hgy hcy hb hsz hlt hn
                    have HCA : Hid (Calls Tryz.prog 55 #[.slice (some ⟨gy, 0, none⟩) 16 capy, .slice (some ⟨wg, 0, none⟩) 60 wc, .int .i64 (q : Int)] wy fun e w' => (∃ g2 cap, e = .returned (.slice (some ⟨g2, 0, none⟩) 16 cap) ∧ FR w' g2 (st q)) ∧ Below w.heap.size w w') := by
                      have t := HAD.out gy capy q (mixB x) _ HY.out.2 HY.out.1 HYL.out (by omega)
                      rw [← HSR.out] at t
                      exact t
                    clear HSR HYL
                    go_wp2_with fail
                    refine HCA.out.mono ?_
                    rintro e w5 ⟨⟨g5, cap5, rfl, hf5⟩, hb5⟩
                    have HN : Hid (FR w5 g5 (st q) ∧ Below w.heap.size w w5) := ⟨hf5, hb5⟩
                    clear hf5 hb5 HCA
                    go_wp2_with fail
                    go_roundw
                    case rel =>
                      first
                        | exact ⟨q + 1, g5, cap5, by omega, by omega, by go_num, rfl, HN⟩
                        | (repeat apply Exists.intro
                           exact ⟨⟨q + 1, g5, cap5, by omega, by omega, by go_num, rfl, HN⟩, rfl⟩)
                    case measure => simp [cipIntOf]; omega
              · have HSR : Hid (st q = addB (subsB s) W q) := by
                  show _ = _
                  rw [HSR2.out]; unfold midB; rw [if_neg h13]
                generalize subsB s = x at HX HXL HSR
                have HCA : Hid (Calls Tryz.prog 55 #[.slice (some ⟨gx, 0, none⟩) 16 capx, .slice (some ⟨wg, 0, none⟩) 60 wc, .int .i64 (q : Int)] wx fun e w' => (∃ g2 cap, e = .returned (.slice (some ⟨g2, 0, none⟩) 16 cap) ∧ FR w' g2 (st q)) ∧ Below w.heap.size w w') := by
                  have t := HAD.out gx capx q (x) _ HX.out.2 HX.out.1 HXL.out (by omega)
                  rw [← HSR.out] at t
                  exact t
                clear HSR HXL
                go_wp2_with fail
                refine HCA.out.mono ?_
                rintro e w5 ⟨⟨g5, cap5, rfl, hf5⟩, hb5⟩
                have HN : Hid (FR w5 g5 (st q) ∧ Below w.heap.size w w5) := ⟨hf5, hb5⟩
                clear hf5 hb5 HCA
                go_wp2_with fail
                go_roundw
                case rel =>
                  first
                    | exact ⟨q + 1, g5, cap5, by omega, by omega, by go_num, rfl, HN⟩
                    | (repeat apply Exists.intro
                       exact ⟨⟨q + 1, g5, cap5, by omega, by omega, by go_num, rfl, HN⟩, rfl⟩)
                case measure => simp [cipIntOf]; omega
        · obtain rfl : q = 15 := by omega
          have HF : Hid (FR wr g (st 14) ∧ Below w.heap.size w wr) := HF
          have HS0 : Hid (∀ i, st 14 i < 256) := HSB.out 14
          generalize st 14 = s at HF HS0 HEB
          go_wp2_with fail
          go_loopw [16, 17] (fun v c wo => ∃ n : Nat, n ≤ 16 ∧ c = .int .i64 (n : Int) ∧ wo.ownsRow wr.heap.size 5 1 v n (bCells s n) ∧ Below wr.heap.size wr wo)
            (fun _ c _ => 16 - (cipIntOf c).toNat)
          case atStart => exact ⟨0, by omega, rfl, World.ownsRow_made wr #[] 0 (Nat.le_refl _) (by unfold maxLen; omega) rfl, (Below.refl _ _).alloc (Nat.le_refl _) _⟩
          case round =>
            obtain ⟨n, hn, rfl, hown, hb⟩ := hrel
            rename World => wo
            have hsz := hb.size
            by_cases hlt : n < 16
            · have HSN : Hid _ := bCells_snoc s n
              have c0 := (HF.out.1.below hb HF.out.1.lt).word n hlt
              have hsj := HS0.out n
              generalize s n = y at HSN c0 hsj
              go_wp2_with (at_builtin; (refine wpList_append_own _ rfl _ _ 22 rfl wr.heap.size 5 i1 (.int .u8 0) 1 1 Tryz.underlying22 hj hy0 hy1 hy2 rfl (by decide) _ _ _ rfl (hown.alloc _) ⟨wo.heap.size, 0, none⟩ 1 1 [_] rfl rfl (cell_one_new _ _ _) ?c2 ?c3 ?c4 ?c5 ?_))
              case c2 => exact one_u
              case c3 => unfold maxLen; omega
              case c4 => omega
              case c5 => simp; omega
              intro v' w1 hown' hgrow _
              rw [HSN.out] at hown'
              have hb2 : Below wr.heap.size wr w1 := (hb.alloc (by first | omega | (simp; omega)) _).grown hgrow (by simp; omega) (fun k hk => (hown.lt k hk).1)
              have H1 : Hid (w1.ownsRow wr.heap.size 5 1 v' (n + 1) (bCells s (n + 1)) ∧ Below wr.heap.size wr w1) := ⟨hown', hb2⟩
              clear hown' hb2 hgrow hown hb HSN
              go_wp2_with fail
              go_roundw
              case rel =>
                first
                  | exact ⟨n + 1, by omega, by go_num, H1.out.1, H1.out.2⟩
                  | (repeat apply Exists.intro
                     exact ⟨⟨n + 1, by omega, by go_num, H1.out.1, H1.out.2⟩, rfl⟩)
              case measure => simp [cipIntOf]; omega
            · obtain rfl : n = 16 := by omega
              obtain ⟨go, capo, rfl, _, hgo, _, hco⟩ := owns_formb hown (by omega)
              have hcv := conv_out wo go capo s HS0.out hco
              rw [← HEB.out] at hcv
              have HBF : Hid (Below w.heap.size w wo) := bl_trans HF.out.2 hb HF.out.2.size
              generalize hR : encB (bsOf blk) W = R at hcv
              have HR : Hid (encB (bsOf blk) W = R) := hR
              clear hR hown hco hb
              go_wp2_with fail
              go_ret
              exact ⟨by rw [HR.out]; rfl, HBF.out⟩
end Go.Proofs.YtnkahdidelhdaacGreatDoor
