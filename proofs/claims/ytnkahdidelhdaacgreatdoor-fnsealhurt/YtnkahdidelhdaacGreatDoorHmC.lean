/-
  What the code's Hmac answers.
-/
import Derived.Test.YtnkahdidelhdaacGreatDoorHmMask
import Derived.Test.YtnkahdidelhdaacGreatDoorShaSumC
namespace Go.Proofs.YtnkahdidelhdaacGreatDoor
open Go.RowKit

set_option maxRecDepth 100000 in
set_option maxHeartbeats 2000000 in
theorem hmac_any (k d : ByteArray) (w : World) (hk : k.size ≤ 1099511627776) (hd : d.size ≤ 549755813888) (hK : ∀ j, j < 64 → w.cell? ⟨1, j, none⟩ = some (.int .u32 (kF j))) (h0 : 1 < w.heap.size) :
    Calls Tryz.prog 11 #[.string k, .string d] w fun e w' => e = .returned (.string (hmacB k d)) ∧ Below w.heap.size w w' := by
  have HM1 : Hid (∀ w, Calls Tryz.prog 26 #[.string (keyB k), .int .u8 54] w fun e w' => e = .returned (.string (maskB (keyB k) 54)) ∧ Below w.heap.size w w') := fun w => mask_any (keyB k) 54 w (by omega) (keyB_size k)
  have HM2 : Hid (∀ w, Calls Tryz.prog 26 #[.string (keyB k), .int .u8 92] w fun e w' => e = .returned (.string (maskB (keyB k) 92)) ∧ Below w.heap.size w w') := fun w => mask_any (keyB k) 92 w (by omega) (keyB_size k)
  have hs1 := maskB_size (keyB k) 54
  have hs2 := maskB_size (keyB k) 92
  have HS1 : Hid (∀ w1, Below w.heap.size w w1 → Calls Tryz.prog 25 #[.string (maskB (keyB k) 54 ++ d)] w1 fun e w' => e = .returned (.string (sumB (maskB (keyB k) 54 ++ d))) ∧ Below w1.heap.size w1 w') := fun w1 hb => sum_any _ w1 (by rw [ByteArray.size_append]; omega) (fun j hj => (hb.cell (p := ⟨1, j, none⟩) h0).trans (hK j hj)) (by have := hb.size; omega)
  have hs3 := sumB_size (maskB (keyB k) 54 ++ d)
  have HS2 : Hid (∀ w1, Below w.heap.size w w1 → Calls Tryz.prog 25 #[.string (maskB (keyB k) 92 ++ sumB (maskB (keyB k) 54 ++ d))] w1 fun e w' => e = .returned (.string (hmacB k d)) ∧ Below w1.heap.size w1 w') := fun w1 hb => sum_any _ w1 (by rw [ByteArray.size_append]; omega) (fun j hj => (hb.cell (p := ⟨1, j, none⟩) h0).trans (hK j hj)) (by have := hb.size; omega)
  generalize hmacB k d = R at HS2 ⊢
  generalize sumB (maskB (keyB k) 54 ++ d) = S1 at hs3 HS1 HS2
  generalize maskB (keyB k) 54 = M1 at hs1 HM1 HS1
  generalize maskB (keyB k) 92 = M2 at hs2 HM2 HS2
  by_cases h64 : 64 < k.size
  · have HK : Hid (∀ w1, Below w.heap.size w w1 → Calls Tryz.prog 25 #[.string k] w1 fun e w' => e = .returned (.string (keyB k)) ∧ Below w1.heap.size w1 w') := fun w1 hb => by
      have := sum_any k w1 hk (fun j hj => (hb.cell (p := ⟨1, j, none⟩) h0).trans (hK j hj)) (by have := hb.size; omega)
      rwa [show sumB k = keyB k by unfold keyB; rw [if_pos h64]] at this
    generalize keyB k = kk at HK HM1 HM2
    clear hK
    go_enter Tryz.func11, Tryz.ntmps11
    go_wp2_with fail
    refine (HK.out _ (Below.refl _ _)).mono ?_
    rintro e w1 ⟨rfl, hb1⟩
    go_wp2_with fail
    refine (HM1.out _).mono ?_
    rintro e w2 ⟨rfl, hb2⟩
    replace hb2 := hb1.trans (hb2.mono hb1.size)
    clear hb1
    go_wp2_with fail
    refine (HS1.out _ hb2).mono ?_
    rintro e w3 ⟨rfl, hb3⟩
    replace hb3 := hb2.trans (hb3.mono hb2.size)
    clear hb2
    go_wp2_with fail
    refine (HM2.out _).mono ?_
    rintro e w4 ⟨rfl, hb4⟩
    replace hb4 := hb3.trans (hb4.mono hb3.size)
    clear hb3
    go_wp2_with fail
    refine (HS2.out _ hb4).mono ?_
    rintro e w5 ⟨rfl, hb5⟩
    replace hb5 := hb4.trans (hb5.mono hb4.size)
    clear hb4
    go_wp2_with fail
    go_ret
    exact ⟨rfl, hb5⟩
  · have e : keyB k = k := by unfold keyB; rw [if_neg h64]
    rw [e] at HM1 HM2
    clear e hK
    go_enter Tryz.func11, Tryz.ntmps11
    go_wp2_with fail
    refine (HM1.out _).mono ?_
    rintro e w2 ⟨rfl, hb2⟩
    go_wp2_with fail
    refine (HS1.out _ hb2).mono ?_
    rintro e w3 ⟨rfl, hb3⟩
    replace hb3 := hb2.trans (hb3.mono hb2.size)
    clear hb2
    go_wp2_with fail
    refine (HM2.out _).mono ?_
    rintro e w4 ⟨rfl, hb4⟩
    replace hb4 := hb3.trans (hb4.mono hb3.size)
    clear hb3
    go_wp2_with fail
    refine (HS2.out _ hb4).mono ?_
    rintro e w5 ⟨rfl, hb5⟩
    replace hb5 := hb4.trans (hb5.mono hb4.size)
    clear hb4
    go_wp2_with fail
    go_ret
    exact ⟨rfl, hb5⟩
end Go.Proofs.YtnkahdidelhdaacGreatDoor
