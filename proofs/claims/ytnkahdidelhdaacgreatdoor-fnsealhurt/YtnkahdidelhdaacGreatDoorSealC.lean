/-
  Seals: the code's.
-/
import Derived.Test.YtnkahdidelhdaacGreatDoorSealMath
import Derived.Test.YtnkahdidelhdaacGreatDoorIsErr
import Derived.Test.YtnkahdidelhdaacGreatDoorHmC
import Derived.Test.YtnkahdidelhdaacGreatDoorCntLaw
import Derived.OwnWalk
import Derived.Deep.RegionWith
namespace Go.Proofs.YtnkahdidelhdaacGreatDoor
open Go.RowKit
set_option linter.unusedVariables false

structure SF (w : World) (a : Addr) : Prop where
  hK : ∀ j, j < 64 → w.cell? ⟨1, j, none⟩ = some (.int .u32 (kF j))
  h0 : 1 < w.heap.size
  hE : w.cell? ⟨0, 0, none⟩ = some (refV a)
  h1 : 0 < w.heap.size
theorem SF.below {w w' : World} {a : Addr} (h : SF w a) (hb : Below w.heap.size w w') : SF w' a :=
  ⟨fun j hj => (hb.cell (p := ⟨1, j, none⟩) h.h0).trans (h.hK j hj), Nat.lt_of_lt_of_le h.h0 hb.size, (hb.cell (p := ⟨0, 0, none⟩) h.h1).trans h.hE, Nat.lt_of_lt_of_le h.h1 hb.size⟩
set_option maxRecDepth 100000 in
theorem refused_any (s : ByteArray) (a : Addr) (w : World) (hF : SF w a) :
    Calls Tryz.prog 41 #[.string s] w fun e w' => e = .returned (fltV s a) ∧ w' = w := by
  have hE := hF.hE
  unfold refV at hE
  clear hF
  go_enter Tryz.func41, Tryz.ntmps41
  go_wp2_with fail
  go_ret
  exact ⟨rfl, rfl⟩
set_option maxRecDepth 100000 in
theorem keysOf_yes (m : ByteArray) (a : Addr) (w : World) (hF : SF w a) (h : m.size = 32) :
    Calls Tryz.prog 23 #[.string m] w fun e w' => e = .returned (.tuple #[.string (ciphK m), .string (tagK m), .nilIface]) ∧ Below w.heap.size w w' := by
  have h1 : (m.size : Int) = 32 := by omega
  have HA : Hid (∀ w, SF w a → Calls Tryz.prog 11 #[.string m, .string ⟨#[99, 105, 112, 104, 101, 114]⟩] w fun e w' => e = .returned (.string (ciphK m)) ∧ Below w.heap.size w w') := fun w hF => hmac_any m _ w (by omega) (by decide) hF.hK hF.h0
  have HB : Hid (∀ w, SF w a → Calls Tryz.prog 11 #[.string m, .string ⟨#[116, 97, 103]⟩] w fun e w' => e = .returned (.string (tagK m)) ∧ Below w.heap.size w w') := fun w hF => hmac_any m _ w (by omega) (by decide) hF.hK hF.h0
  have HF : Hid (SF w a) := hF
  clear hF h
  generalize ciphK m = ck at HA ⊢
  generalize tagK m = tk at HB ⊢
  go_enter Tryz.func23, Tryz.ntmps23
  go_wp2_with fail
  refine (HA.out _ HF.out).mono ?_
  rintro e w1 ⟨rfl, hb1⟩
  go_wp2_with fail
  refine (HB.out _ (HF.out.below hb1)).mono ?_
  rintro e w2 ⟨rfl, hb2⟩
  have hb3 := bl_trans hb1 hb2 hb1.size
  clear hb1 hb2
  go_wp2_with fail
  go_ret3
  exact ⟨rfl, hb3⟩
set_option maxRecDepth 100000 in
theorem keysOf_no (m : ByteArray) (a : Addr) (w : World) (hF : SF w a) (h : m.size ≠ 32) :
    Calls Tryz.prog 23 #[.string m] w fun e w' => (∃ s, e = .returned (.tuple #[.string ⟨#[]⟩, .string ⟨#[]⟩, fltV s a])) ∧ w' = w := by
  have h1 : ¬ (m.size : Int) = 32 := by omega
  have h3 : ((m.size : Int) != 32) = true := by simp; omega
  have HR : Hid (∀ s, Calls Tryz.prog 41 #[.string s] w fun e w' => e = .returned (fltV s a) ∧ w' = w) := fun s => refused_any s a w hF
  clear hF h
  go_enter Tryz.func23, Tryz.ntmps23
  go_wp2_with fail
  refine (HR.out _).mono ?_
  rintro e w' ⟨rfl, hw⟩
  subst w'
  unfold fltV
  go_wp2_with fail
  go_ret3
  exact ⟨⟨_, rfl⟩, rfl⟩
set_option maxRecDepth 100000 in
theorem masked_num (k d : ByteArray) (n : Int) (a : Addr) (w : World) (hF : SF w a) (h : ¬ (0 ≤ n ∧ n ≤ 1000000000000)) :
    Calls Tryz.prog 33 #[.string k, .int .i64 n, .string d] w fun e w' => (∃ s, e = .returned (.tuple #[.string ⟨#[]⟩, fltV s a])) ∧ w' = w := by
  have HR : Hid (∀ s, Calls Tryz.prog 41 #[.string s] w fun e w' => e = .returned (fltV s a) ∧ w' = w) := fun s => refused_any s a w hF
  clear hF
  by_cases h1 : n < 0
  · clear h
    go_enter Tryz.func33, Tryz.ntmps33
    go_wp2_with fail
    refine (HR.out _).mono ?_
    rintro e w' ⟨rfl, hw⟩
    subst w'
    unfold fltV
    go_wp2_with fail
    go_ret2
    exact ⟨⟨_, rfl⟩, rfl⟩
  · have h2 : 1000000000000 < n := by omega
    clear h
    go_enter Tryz.func33, Tryz.ntmps33
    go_wp2_with fail
    refine (HR.out _).mono ?_
    rintro e w' ⟨rfl, hw⟩
    subst w'
    unfold fltV
    go_wp2_with fail
    go_ret2
    exact ⟨⟨_, rfl⟩, rfl⟩
theorem u64_in {n : Int} (h : 0 ≤ n ∧ n ≤ 1000000000000) : n % 18446744073709551616 = n := by omega
set_option maxRecDepth 100000 in
theorem masked_yes (k d : ByteArray) (n : Int) (w : World) (hk : k.size = 32) (h : 0 ≤ n ∧ n ≤ 1000000000000) (hd : d.size ≤ 60000) :
    Calls Tryz.prog 33 #[.string k, .int .i64 n, .string d] w fun e w' => e = .returned (.tuple #[.string (maskedB k n d), .nilIface]) ∧ Below w.heap.size w w' := by
  have HH : Hid (∀ w, Calls Tryz.prog 45 #[.int .u64 n, .int .i64 12] w fun e w' => e = .returned (.string (bigB n 12)) ∧ Below w.heap.size w w') := fun w => by
    have := high_any (u64N n) 12 w (u64N_lt n) (by omega) (by omega)
    rw [u64N_cast, u64_in h] at this
    exact this
  have HC : Hid (∀ w, Calls Tryz.prog 51 #[.string k, .string (bigB n 12), .string d] w fun e w' => e = .returned (.tuple #[.string (maskedB k n d), .bool true]) ∧ Below w.heap.size w w') := fun w => count_any k _ d w hk (bigB_size n 12) hd
  have h1 : ¬ n < 0 := by omega
  have h2 : ¬ 1000000000000 < n := by omega
  have h3 : n < 18446744073709551616 := by omega
  clear hk hd h
  generalize maskedB k n d = R at HC ⊢
  generalize bigB n 12 = nn at HH HC
  go_enter Tryz.func33, Tryz.ntmps33
  go_wp2_with fail
  refine (HH.out _).mono ?_
  rintro e w1 ⟨rfl, hb1⟩
  go_wp2_with fail
  refine (HC.out _).mono ?_
  rintro e w2 ⟨rfl, hb2⟩
  have hb3 := bl_trans hb1 hb2 hb1.size
  clear hb1 hb2
  go_wp2_with fail
  go_ret2
  exact ⟨rfl, hb3⟩
set_option maxRecDepth 100000 in
theorem masked_long (k d : ByteArray) (n : Int) (a : Addr) (w : World) (hF : SF w a) (h : 0 ≤ n ∧ n ≤ 1000000000000) (hd : ¬ d.size ≤ 60000) :
    Calls Tryz.prog 33 #[.string k, .int .i64 n, .string d] w fun e w' => (∃ s, e = .returned (.tuple #[.string ⟨#[]⟩, fltV s a])) ∧ Below w.heap.size w w' := by
  have HH : Hid (∀ w, Calls Tryz.prog 45 #[.int .u64 n, .int .i64 12] w fun e w' => e = .returned (.string (bigB n 12)) ∧ Below w.heap.size w w') := fun w => by
    have := high_any (u64N n) 12 w (u64N_lt n) (by omega) (by omega)
    rw [u64N_cast, u64_in h] at this
    exact this
  have HC : Hid (∀ w, Calls Tryz.prog 51 #[.string k, .string (bigB n 12), .string d] w fun e w' => e = .returned (.tuple #[.string ⟨#[]⟩, .bool false]) ∧ w' = w) := fun w => count_no k _ d w (fun c => hd c.2.2)
  have HR : Hid (∀ w', Below w.heap.size w w' → ∀ s, Calls Tryz.prog 41 #[.string s] w' fun e w'' => e = .returned (fltV s a) ∧ w'' = w') := fun w' hb s => refused_any s a w' (hF.below hb)
  have h1 : ¬ n < 0 := by omega
  have h2 : ¬ 1000000000000 < n := by omega
  have h3 : n < 18446744073709551616 := by omega
  clear hd h hF
  generalize bigB n 12 = nn at HH HC
  go_enter Tryz.func33, Tryz.ntmps33
  go_wp2_with fail
  refine (HH.out _).mono ?_
  rintro e w1 ⟨rfl, hb1⟩
  go_wp2_with fail
  refine (HC.out _).mono ?_
  rintro e w' ⟨rfl, hw⟩
  subst w'
  go_wp2_with fail
  refine (HR.out _ hb1 _).mono ?_
  rintro e w' ⟨rfl, hw⟩
  subst w'
  unfold fltV
  go_wp2_with fail
  go_ret2
  exact ⟨⟨_, rfl⟩, hb1⟩
set_option maxRecDepth 100000 in
theorem tag_any (k body : ByteArray) (n : Int) (a : Addr) (w : World) (hF : SF w a) (hk : k.size = 32) (hd : body.size ≤ 1073741824) (hn1 : -9223372036854775808 ≤ n) (hn2 : n ≤ 9223372036854775807) :
    Calls Tryz.prog 34 #[.string k, .int .i64 n, .string body] w fun e w' => e = .returned (.string (tagB k n body)) ∧ Below w.heap.size w w' := by
  have hz := bigB_size n 8
  have HH : Hid (∀ w, Calls Tryz.prog 45 #[.int .u64 (n % 18446744073709551616), .int .i64 8] w fun e w' => e = .returned (.string (bigB n 8)) ∧ Below w.heap.size w w') := fun w => by
    have := high_any (u64N n) 8 w (u64N_lt n) (by omega) (by omega)
    rw [u64N_cast] at this
    exact this
  have HC : Hid (∀ w, SF w a → Calls Tryz.prog 11 #[.string k, .string (bigB n 8 ++ body)] w fun e w' => e = .returned (.string (tagB k n body)) ∧ Below w.heap.size w w') := fun w hF => hmac_any k _ w (by omega) (by rw [ByteArray.size_append]; omega) hF.hK hF.h0
  have HF : Hid (SF w a) := hF
  clear hF hk
  generalize tagB k n body = R at HC ⊢
  generalize bigB n 8 = nn at HH HC hz
  go_enter Tryz.func34, Tryz.ntmps34
  go_wp2_with fail
  refine (HH.out _).mono ?_
  rintro e w1 ⟨rfl, hb1⟩
  go_wp2_with fail
  refine (HC.out _ (HF.out.below hb1)).mono ?_
  rintro e w2 ⟨rfl, hb2⟩
  have hb3 := bl_trans hb1 hb2 hb1.size
  clear hb1 hb2
  go_wp2_with fail
  go_ret
  exact ⟨rfl, hb3⟩
end Go.Proofs.YtnkahdidelhdaacGreatDoor
