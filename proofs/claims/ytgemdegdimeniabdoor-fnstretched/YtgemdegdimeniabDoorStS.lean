/-
  What the specification's Stretch answers.
-/
import Derived.Test.YtgemdegdimeniabDoorStMath
import Derived.Test.YtgemdegdimeniabDoorHmS
namespace Go.Proofs.YtgemdegdimeniabDoor
open Go.RowKit

set_option maxRecDepth 100000 in
theorem sin_yes (r : Int) (w : World) (h1 : 1 ≤ r) (h2 : r ≤ 50) : Calls Tryd.prog 17 #[.int .i64 r, .int .i64 1, .int .i64 50] w fun e w' => e = .returned (.bool true) ∧ w' = w := by
  go_enter Tryd.func17, Tryd.ntmps17
  go_wp2_with fail
  go_ret
  exact ⟨rfl, rfl⟩
set_option maxRecDepth 100000 in
theorem sin_low (r : Int) (w : World) (h1 : r < 1) : Calls Tryd.prog 17 #[.int .i64 r, .int .i64 1, .int .i64 50] w fun e w' => e = .returned (.bool false) ∧ w' = w := by
  go_enter Tryd.func17, Tryd.ntmps17
  go_wp2_with fail
  go_ret
  exact ⟨rfl, rfl⟩
set_option maxRecDepth 100000 in
theorem sin_high (r : Int) (w : World) (h1 : 50 < r) : Calls Tryd.prog 17 #[.int .i64 r, .int .i64 1, .int .i64 50] w fun e w' => e = .returned (.bool false) ∧ w' = w := by
  have h0 : 1 ≤ r := by omega
  go_enter Tryd.func17, Tryd.ntmps17
  go_wp2_with fail
  go_ret
  exact ⟨by show Ending.returned (Value.bool (decide (r ≤ 50))) = _; rw [decide_eq_false (by omega)], rfl⟩

set_option maxRecDepth 100000 in
set_option maxHeartbeats 4000000 in
theorem sstretch_any (p s : ByteArray) (r : Int) (w : World) (hp : p.size ≤ 1099511627776) (hs : s.size ≤ 274877906944) (hr0 : -9223372036854775808 ≤ r) (hr1 : r ≤ 9223372036854775807) :
    Calls Tryd.prog 8 #[.string p, .string s, .int .i64 r] w fun e w' => e = .returned (if 1 ≤ r ∧ r ≤ 50 then .tuple #[.string (stB p s (r - 1).toNat), .bool true] else .tuple #[.string ⟨#[]⟩, .bool false]) ∧ Below w.heap.size w w' := by
  have hcv : ∀ (W : World) (s : ByteArray), (convert 9 22 (.string s)).run Tryd.prog W = .ok (.slice (some ⟨W.heap.size, 0, none⟩) s.size (grownCap W s.size 0 5)) (Lib.bytesWorld W 5 s) := fun W s =>
    Lib.run_convert_string_bytes W 9 22 5 s Tryd.underlying9 Tryd.underlying22 Tryd.underlying5
  have HH : Hid (∀ W d, Below w.heap.size w W → d.size ≤ 549755813888 → Calls Tryd.prog 18 #[.string p, .string d] W fun e w' => e = .returned (.string (hmacB p d)) ∧ Below W.heap.size W w') := fun W d _ hd => shmac_any p d W hp hd
  by_cases hr : 1 ≤ r ∧ r ≤ 50
  · obtain ⟨R, hR0⟩ := Int.eq_ofNat_of_zero_le (by omega : 0 ≤ r - 1)
    obtain rfl : r = (R : Int) + 1 := by omega
    clear hR0
    rw [if_pos hr, show ((R : Int) + 1 - 1).toNat = R by omega]
    have hs4 : (s ++ ⟨#[0, 0, 0, 1]⟩ : ByteArray).size = s.size + 4 := by rw [ByteArray.size_append]; rfl
    have HT0 : Hid (∀ W, Below w.heap.size w W → Calls Tryd.prog 18 #[.string p, .string (s ++ ⟨#[0, 0, 0, 1]⟩)] W fun e w' => e = .returned (.string (stU p s 0)) ∧ Below W.heap.size W w') := fun W hW => HH.out W _ hW (by omega)
    have hT0 := stU_size p s 0
    have hR : (R : Int) ≤ 49 := by omega
    have HIN : Hid (∀ w, Calls Tryd.prog 17 #[.int .i64 ((R : Int) + 1), .int .i64 1, .int .i64 50] w fun e w' => e = .returned (.bool true) ∧ w' = w) := fun w => sin_yes _ w (by omega) (by omega)
    clear hs4 hr hr0 hr1
    go_enter Tryd.func8, Tryd.ntmps8
    go_wp2_with fail
    refine (HIN.out _).mono ?_
    rintro e w' ⟨rfl, hw⟩
    subst w'
    go_wp2_with fail
    refine (HT0.out _ (Below.refl _ _)).mono ?_
    rintro e w1 ⟨rfl, hb1⟩
    have hST0 : ST w w1.heap.size (stX p s 0) (Lib.bytesWorld w1 5 (stU p s 0)) := ST.first w _ (stU p s 0) w1 hb1 hT0 rfl
    have HST0 : Hid _ := hST0
    clear hST0
    go_wp2_with fail
    generalize grownCap w1 32 0 5 = cap0
    generalize Lib.bytesWorld w1 5 (stU p s 0) = W2 at HST0 ⊢
    generalize w1.heap.size = b at HST0 ⊢
    go_loopw [8, 10] (fun t c wr => ∃ n : Nat, n ≤ R ∧ c = .int .i64 ((n : Int) + 1) ∧ t = .string (stU p s n) ∧ Hid (ST w b (stX p s n) wr))
      (fun _ c _ => R + 1 - (shaIntOf c).toNat)
    case atStart => exact ⟨0, by omega, rfl, rfl, HST0⟩
    case round =>
      obtain ⟨n, hn, rfl, rfl, HS⟩ := hrel
      clear HST0
      by_cases hlt : n < R
      · have HT1 : Hid (∀ W, Below w.heap.size w W → Calls Tryd.prog 18 #[.string p, .string (stU p s n)] W fun e w' => e = .returned (.string (stU p s (n + 1))) ∧ Below W.heap.size W w') := fun W hW => HH.out W _ hW (by rw [stU_size]; omega)
        have hT1 := stU_size p s (n + 1)
        have hbl := fun j => bsOf_lt (stU p s (n + 1)) j
        have HAT : Hid (∀ j (h : j < (stU p s (n + 1)).size), (stU p s (n + 1))[j].toNat = bsOf (stU p s (n + 1)) j) := fun j h => bsOf_at _ j h
        have HX : Hid (∀ j, stX p s (n + 1) j = stX p s n j ^^^ bsOf (stU p s (n + 1)) j) := fun j => rfl
        have HXL : Hid (∀ j, stX p s n j < 256) := fun j => stX_lt p s n j
        generalize hTe : stU p s (n + 1) = T at HT1 hT1 hbl HAT HX
        generalize hfe : stX p s (n + 1) = f2 at HX
        have HTE : Hid (stU p s (n + 1) = T) := hTe
        have HFE : Hid (stX p s (n + 1) = f2) := hfe
        clear hTe hfe
        generalize stX p s n = f at HS HX HXL
        go_wp2_with fail
        refine (HT1.out _ HS.out.below).mono ?_
        rintro e w3 ⟨rfl, hb3⟩
        have HS3 : Hid (ST w b f w3) := HS.out.call hb3
        clear hb3 HS HT1
        go_wp2_with fail
        go_loopw [11] (fun c wr => ∃ j : Nat, j ≤ 32 ∧ c = .int .i64 (j : Int) ∧ Hid (ST w b (fun i => if i < j then f2 i else f i) wr))
          (fun c _ => 32 - (shaIntOf c).toNat)
        case atStart => exact ⟨0, by omega, rfl, HS3.out.congr (fun i _ => by simp)⟩
        case round =>
          obtain ⟨j, hj, rfl, HSJ⟩ := hrel
          clear HS3
          by_cases hlt2 : j < 32
          · have hcell := HSJ.out.cell j hlt2
            rw [if_neg (by omega)] at hcell
            have hfz := HSJ.out.fz j hlt2
            have hix : j < T.size := by omega
            have hix2 : (j : Int) < (T.size : Int) := by omega
            have hat := HAT.out j hix
            have hbj := hbl j
            have hxo : bits .xor .u8 (f j : Int) (bsOf T j : Int) = ((f2 j : Nat) : Int) := by rw [HX.out j]; exact u8_xor_nat (f j) (bsOf T j) (HXL.out j) hbj
            have HSN : Hid (ST w b (fun i => if i < j + 1 then f2 i else f i) (wr.setCell ⟨b, j, none⟩ (.int .u8 (f2 j : Int)))) := by
              have h := HSJ.out.set (g := fun i => if i < j + 1 then f2 i else f i) j hlt2 (fun i _ => by
                by_cases e : i = j
                · subst e; simp
                · by_cases e2 : i < j
                  · simp [e, e2, show i < j + 1 by omega]
                  · simp [e, e2, show ¬ i < j + 1 by omega])
              show ST _ _ _ _
              simpa using h
            generalize bsOf T j = bj at hat hbj hxo
            generalize f2 j = y at hxo HSN
            generalize f j = x at hcell hxo
            go_wp2_with fail
            go_region
            go_wp2_with fail
            go_roundw
            case rel => exact ⟨j + 1, by omega, by go_num, HSN.out.drew⟩
            case measure => simp [shaIntOf]; omega
          · obtain rfl : j = 32 := by omega
            have HS4 : Hid (ST w b f2 wr) := HSJ.out.congr (fun i hi => if_pos hi)
            clear HSJ
            go_wp2_with fail
            go_roundw
            case rel =>
              first
                | exact ⟨n + 1, by omega, by go_num, by rw [HTE.out], by rw [HFE.out]; exact HS4⟩
                | (repeat apply Exists.intro
                   exact ⟨⟨n + 1, by omega, by go_num, by rw [HTE.out], by rw [HFE.out]; exact HS4⟩, rfl⟩)
            case measure => simp [shaIntOf]; omega
      · obtain rfl : n = R := by omega
        have hcb := conv_st HS.out cap0
        go_wp2_with fail
        go_ret2
        exact ⟨rfl, HS.out.below⟩
  · rw [if_neg hr]
    by_cases h1 : r < 1
    · have HIN := fun w => sin_low r w h1
      go_enter Tryd.func8, Tryd.ntmps8
      go_wp2_with fail
      refine (HIN _).mono ?_
      rintro e w' ⟨rfl, hw⟩
      subst w'
      go_wp2_with fail
      go_ret2
      exact ⟨rfl, Below.refl _ _⟩
    · have h5 : 50 < r := by omega
      have HIN := fun w => sin_high r w h5
      go_enter Tryd.func8, Tryd.ntmps8
      go_wp2_with fail
      refine (HIN _).mono ?_
      rintro e w' ⟨rfl, hw⟩
      subst w'
      go_wp2_with fail
      go_ret2
      exact ⟨rfl, Below.refl _ _⟩
end Go.Proofs.YtgemdegdimeniabDoor
