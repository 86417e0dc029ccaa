/-
  Keys, Seal and Open of the specification.
-/
import Derived.Test.YtnkahdidelhdaacGreatDoorSealMath
import Derived.Test.YtnkahdidelhdaacGreatDoorHmS
import Derived.Test.YtnkahdidelhdaacGreatDoorCntLaw
import Derived.Test.YtnkahdidelhdaacGreatDoorIn
import Derived.OwnWalk
import Derived.Deep.RegionWith
namespace Go.Proofs.YtnkahdidelhdaacGreatDoor
open Go.RowKit
set_option linter.unusedVariables false

theorem u64_in' {n : Int} (h : 0 ≤ n ∧ n ≤ 1000000000000) : n % 18446744073709551616 = n := by omega
set_option maxRecDepth 100000 in
theorem skeys_yes (m : ByteArray) (w : World) (h : m.size = 32) :
    Calls Tryz.prog 18 #[.string m] w fun e w' => e = .returned (.tuple #[.string (ciphK m), .string (tagK m), .bool true]) ∧ Below w.heap.size w w' := by
  have h1 : (m.size : Int) = 32 := by omega
  have HA : Hid (∀ w, Calls Tryz.prog 22 #[.string m, .string ⟨#[99, 105, 112, 104, 101, 114]⟩] w fun e w' => e = .returned (.string (ciphK m)) ∧ Below w.heap.size w w') := fun w => shmac_any m _ w (by omega) (by decide)
  have HB : Hid (∀ w, Calls Tryz.prog 22 #[.string m, .string ⟨#[116, 97, 103]⟩] w fun e w' => e = .returned (.string (tagK m)) ∧ Below w.heap.size w w') := fun w => shmac_any m _ w (by omega) (by decide)
  clear h
  generalize ciphK m = ck at HA ⊢
  generalize tagK m = tk at HB ⊢
  go_enter Tryz.func18, Tryz.ntmps18
  go_wp2_with fail
  refine (HA.out _).mono ?_
  rintro e w1 ⟨rfl, hb1⟩
  go_wp2_with fail
  refine (HB.out _).mono ?_
  rintro e w2 ⟨rfl, hb2⟩
  have hb3 := bl_trans hb1 hb2 hb1.size
  clear hb1 hb2
  go_wp2_with fail
  go_ret3
  exact ⟨rfl, hb3⟩
set_option maxRecDepth 100000 in
theorem skeys_no (m : ByteArray) (w : World) (h : m.size ≠ 32) :
    Calls Tryz.prog 18 #[.string m] w fun e w' => e = .returned (.tuple #[.string ⟨#[]⟩, .string ⟨#[]⟩, .bool false]) ∧ w' = w := by
  have h1 : ¬ (m.size : Int) = 32 := by omega
  have h3 : ((m.size : Int) != 32) = true := by simp; omega
  clear h
  go_enter Tryz.func18, Tryz.ntmps18
  go_wp2_with fail
  go_ret3
  exact ⟨rfl, rfl⟩
set_option maxRecDepth 100000 in
theorem sseal_yes (m d : ByteArray) (n : Int) (w : World) (h : sealOk m n d) :
    Calls Tryz.prog 7 #[.string m, .int .i64 n, .string d] w fun e w' => e = .returned (.tuple #[.string (sealB m n d), .bool true]) ∧ Below w.heap.size w w' := by
  obtain ⟨hm, hn, hd⟩ := h
  have hz := maskedB_size (ciphK m) n d
  have hzt := tagB_size (tagK m) n (maskedB (ciphK m) n d)
  have hz8 := bigB_size n 8
  have HI : Hid (∀ w, Calls Tryz.prog 19 #[.int .i64 n, .int .i64 0, .int .i64 1000000000000] w fun e w' => e = .returned (.bool true) ∧ w' = w) := fun w => in_yes n 0 _ w hn.1 hn.2
  have HA : Hid (∀ w, Calls Tryz.prog 18 #[.string m] w fun e w' => e = .returned (.tuple #[.string (ciphK m), .string (tagK m), .bool true]) ∧ Below w.heap.size w w') := fun w => skeys_yes m w hm
  have HH : Hid (∀ w, Calls Tryz.prog 21 #[.int .u64 n, .int .i64 12] w fun e w' => e = .returned (.string (bigB n 12)) ∧ Below w.heap.size w w') := fun w => by
    have := sbig_any (u64N n) 12 w (u64N_lt n) (by omega) (by omega)
    rw [u64N_cast, u64_in' hn] at this
    exact this
  have H8 : Hid (∀ w, Calls Tryz.prog 21 #[.int .u64 n, .int .i64 8] w fun e w' => e = .returned (.string (bigB n 8)) ∧ Below w.heap.size w w') := fun w => by
    have := sbig_any (u64N n) 8 w (u64N_lt n) (by omega) (by omega)
    rw [u64N_cast, u64_in' hn] at this
    exact this
  have HC : Hid (∀ w, Calls Tryz.prog 20 #[.string (ciphK m), .string (bigB n 12), .string d] w fun e w' => e = .returned (.tuple #[.string (maskedB (ciphK m) n d), .bool true]) ∧ Below w.heap.size w w') := fun w => scount_any _ _ d w (ciphK_size m) (bigB_size n 12) hd
  have HT : Hid (∀ w, Calls Tryz.prog 22 #[.string (tagK m), .string (bigB n 8 ++ maskedB (ciphK m) n d)] w fun e w' => e = .returned (.string (tagB (tagK m) n (maskedB (ciphK m) n d))) ∧ Below w.heap.size w w') := fun w => shmac_any _ _ w (by have := tagK_size m; omega) (by rw [ByteArray.size_append]; omega)
  have h1 : ¬ (60000 : Int) < (d.size : Int) := by omega
  have h2 : n < 18446744073709551616 := by omega
  have h3 : 0 ≤ n := hn.1
  unfold sealB
  generalize tagB (tagK m) n (maskedB (ciphK m) n d) = tg at HT hzt ⊢
  generalize maskedB (ciphK m) n d = bd at HC HT hz ⊢
  generalize ciphK m = ck at HA HC
  generalize tagK m = tk at HA HT
  generalize bigB n 12 = n12 at HH HC
  generalize bigB n 8 = n8 at H8 HT hz8
  clear hm hn
  go_enter Tryz.func7, Tryz.ntmps7
  go_wp2_with fail
  refine (HA.out _).mono ?_
  rintro e w1 ⟨rfl, hb1⟩
  go_wp2_with fail
  refine (HI.out _).mono ?_
  rintro e w' ⟨rfl, hw⟩
  subst w'
  go_wp2_with fail
  refine (HH.out _).mono ?_
  rintro e w2 ⟨rfl, hb2⟩
  replace hb2 := bl_trans hb1 hb2 hb1.size
  clear hb1
  go_wp2_with fail
  refine (HC.out _).mono ?_
  rintro e w3 ⟨rfl, hb3⟩
  replace hb3 := bl_trans hb2 hb3 hb2.size
  clear hb2
  go_wp2_with fail
  refine (H8.out _).mono ?_
  rintro e w4 ⟨rfl, hb4⟩
  replace hb4 := bl_trans hb3 hb4 hb3.size
  clear hb3
  go_wp2_with fail
  refine (HT.out _).mono ?_
  rintro e w5 ⟨rfl, hb5⟩
  replace hb5 := bl_trans hb4 hb5 hb4.size
  clear hb4
  go_wp2_with fail
  go_ret2
  exact ⟨rfl, hb5⟩
set_option maxRecDepth 100000 in
theorem sseal_no (m d : ByteArray) (n : Int) (w : World) (h : ¬ sealOk m n d) :
    Calls Tryz.prog 7 #[.string m, .int .i64 n, .string d] w fun e w' => e = .returned (.tuple #[.string ⟨#[]⟩, .bool false]) ∧ Below w.heap.size w w' := by
  by_cases hm : m.size = 32
  · have HA : Hid (∀ w, Calls Tryz.prog 18 #[.string m] w fun e w' => e = .returned (.tuple #[.string (ciphK m), .string (tagK m), .bool true]) ∧ Below w.heap.size w w') := fun w => skeys_yes m w hm
    generalize ciphK m = ck at HA
    generalize tagK m = tk at HA
    by_cases hn : 0 ≤ n ∧ n ≤ 1000000000000
    · have HI : Hid (∀ w, Calls Tryz.prog 19 #[.int .i64 n, .int .i64 0, .int .i64 1000000000000] w fun e w' => e = .returned (.bool true) ∧ w' = w) := fun w => in_yes n 0 _ w hn.1 hn.2
      have h1 : (60000 : Int) < (d.size : Int) := by
        have : ¬ d.size ≤ 60000 := fun hd => h ⟨hm, hn, hd⟩
        omega
      clear h hm hn
      go_enter Tryz.func7, Tryz.ntmps7
      go_wp2_with fail
      refine (HA.out _).mono ?_
      rintro e w1 ⟨rfl, hb1⟩
      go_wp2_with fail
      refine (HI.out _).mono ?_
      rintro e w' ⟨rfl, hw⟩
      subst w'
      go_wp2_with fail
      go_ret2
      exact ⟨rfl, hb1⟩
    · have HI : Hid (∀ w, Calls Tryz.prog 19 #[.int .i64 n, .int .i64 0, .int .i64 1000000000000] w fun e w' => e = .returned (.bool false) ∧ w' = w) := fun w => in_no n 0 _ w hn
      clear h hm hn
      go_enter Tryz.func7, Tryz.ntmps7
      go_wp2_with fail
      refine (HA.out _).mono ?_
      rintro e w1 ⟨rfl, hb1⟩
      go_wp2_with fail
      refine (HI.out _).mono ?_
      rintro e w' ⟨rfl, hw⟩
      subst w'
      go_wp2_with fail
      go_ret2
      exact ⟨rfl, hb1⟩
  · have HA : Hid (∀ w, Calls Tryz.prog 18 #[.string m] w fun e w' => e = .returned (.tuple #[.string ⟨#[]⟩, .string ⟨#[]⟩, .bool false]) ∧ w' = w) := fun w => skeys_no m w hm
    clear h hm
    go_enter Tryz.func7, Tryz.ntmps7
    go_wp2_with fail
    refine (HA.out _).mono ?_
    rintro e w' ⟨rfl, hw⟩
    subst w'
    go_wp2_with fail
    go_ret2
    exact ⟨rfl, Below.refl _ _⟩
end Go.Proofs.YtnkahdidelhdaacGreatDoor
