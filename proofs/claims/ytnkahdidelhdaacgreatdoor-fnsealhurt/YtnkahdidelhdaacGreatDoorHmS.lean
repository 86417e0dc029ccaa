/-
  What the specification's Hmac answers.
-/
import Derived.Test.YtnkahdidelhdaacGreatDoorHmMask
import Derived.Test.YtnkahdidelhdaacGreatDoorShaSumS
namespace Go.Proofs.YtnkahdidelhdaacGreatDoor
open Go.RowKit

set_option maxRecDepth 100000 in
set_option maxHeartbeats 2000000 in
theorem shmac_any (k d : ByteArray) (w : World) (hk : k.size ≤ 1099511627776) (hd : d.size ≤ 549755813888) :
    Calls Tryz.prog 22 #[.string k, .string d] w fun e w' => e = .returned (.string (hmacB k d)) ∧ Below w.heap.size w w' := by
  have HM1 : Hid (∀ w, Calls Tryz.prog 40 #[.string (keyB k), .int .u8 54] w fun e w' => e = .returned (.string (maskB (keyB k) 54)) ∧ Below w.heap.size w w') := fun w => smask_any (keyB k) 54 w (by omega)
  have HM2 : Hid (∀ w, Calls Tryz.prog 40 #[.string (keyB k), .int .u8 92] w fun e w' => e = .returned (.string (maskB (keyB k) 92)) ∧ Below w.heap.size w w') := fun w => smask_any (keyB k) 92 w (by omega)
  have hs1 := maskB_size (keyB k) 54
  have hs2 := maskB_size (keyB k) 92
  have HS1 : Hid (∀ w, Calls Tryz.prog 27 #[.string (maskB (keyB k) 54 ++ d)] w fun e w' => e = .returned (.string (sumB (maskB (keyB k) 54 ++ d))) ∧ Below w.heap.size w w') := fun w => ssum_any _ w (by rw [ByteArray.size_append]; omega)
  have hs3 := sumB_size (maskB (keyB k) 54 ++ d)
  have HS2 : Hid (∀ w, Calls Tryz.prog 27 #[.string (maskB (keyB k) 92 ++ sumB (maskB (keyB k) 54 ++ d))] w fun e w' => e = .returned (.string (hmacB k d)) ∧ Below w.heap.size w w') := fun w => ssum_any _ w (by rw [ByteArray.size_append]; omega)
  generalize hmacB k d = R at HS2 ⊢
  generalize sumB (maskB (keyB k) 54 ++ d) = S1 at hs3 HS1 HS2
  generalize maskB (keyB k) 54 = M1 at hs1 HM1 HS1
  generalize maskB (keyB k) 92 = M2 at hs2 HM2 HS2
  by_cases h64 : 64 < k.size
  · have HK : Hid (∀ w, Calls Tryz.prog 27 #[.string k] w fun e w' => e = .returned (.string (keyB k)) ∧ Below w.heap.size w w') := fun w => by
      have := ssum_any k w hk
      rwa [show sumB k = keyB k by unfold keyB; rw [if_pos h64]] at this
    generalize keyB k = kk at HK HM1 HM2
    go_enter Tryz.func22, Tryz.ntmps22
    go_wp2_with fail
    refine (HK.out _).mono ?_
    rintro e w1 ⟨rfl, hb1⟩
    go_wp2_with fail
    refine (HM2.out _).mono ?_
    rintro e w2 ⟨rfl, hb2⟩
    replace hb2 := hb1.trans (hb2.mono hb1.size)
    clear hb1
    go_wp2_with fail
    refine (HM1.out _).mono ?_
    rintro e w3 ⟨rfl, hb3⟩
    replace hb3 := hb2.trans (hb3.mono hb2.size)
    clear hb2
    go_wp2_with fail
    refine (HS1.out _).mono ?_
    rintro e w4 ⟨rfl, hb4⟩
    replace hb4 := hb3.trans (hb4.mono hb3.size)
    clear hb3
    go_wp2_with fail
    refine (HS2.out _).mono ?_
    rintro e w5 ⟨rfl, hb5⟩
    replace hb5 := hb4.trans (hb5.mono hb4.size)
    clear hb4
    go_wp2_with fail
    go_ret
    exact ⟨rfl, hb5⟩
  · have e : keyB k = k := by unfold keyB; rw [if_neg h64]
    rw [e] at HM1 HM2
    clear e
    go_enter Tryz.func22, Tryz.ntmps22
    go_wp2_with fail
    refine (HM2.out _).mono ?_
    rintro e w2 ⟨rfl, hb2⟩
    go_wp2_with fail
    refine (HM1.out _).mono ?_
    rintro e w3 ⟨rfl, hb3⟩
    replace hb3 := hb2.trans (hb3.mono hb2.size)
    clear hb2
    go_wp2_with fail
    refine (HS1.out _).mono ?_
    rintro e w4 ⟨rfl, hb4⟩
    replace hb4 := hb3.trans (hb4.mono hb3.size)
    clear hb3
    go_wp2_with fail
    refine (HS2.out _).mono ?_
    rintro e w5 ⟨rfl, hb5⟩
    replace hb5 := hb4.trans (hb5.mono hb4.size)
    clear hb4
    go_wp2_with fail
    go_ret
    exact ⟨rfl, hb5⟩
end Go.Proofs.YtnkahdidelhdaacGreatDoor
