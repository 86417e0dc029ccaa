/-
  Open of the specification.
-/
import Derived.Test.YtnkahdidelhdaamDoorSealMath
import Derived.Test.YtnkahdidelhdaamDoorHmS
import Derived.Test.YtnkahdidelhdaamDoorCntLaw
import Derived.Test.YtnkahdidelhdaamDoorIn
import Derived.OwnWalk
import Derived.Deep.RegionWith
import Derived.OrdersHeld
namespace Go.Proofs.YtnkahdidelhdaamDoor
open Go.RowKit
set_option linter.unusedVariables false

theorem u64_in2 {n : Int} (h : 0 ≤ n ∧ n ≤ 1000000000000) : n % 18446744073709551616 = n := by omega
set_option maxRecDepth 100000 in
theorem okeys_yes (m : ByteArray) (w : World) (h : m.size = 32) :
    Calls Tryd.prog 6 #[.string m] w fun e w' => e = .returned (.tuple #[.string (ciphK m), .string (tagK m), .bool true]) ∧ Below w.heap.size w w' := by
  have h1 : (m.size : Int) = 32 := by omega
  have HA : Hid (∀ w, Calls Tryd.prog 8 #[.string m, .string ⟨#[99, 105, 112, 104, 101, 114]⟩] w fun e w' => e = .returned (.string (ciphK m)) ∧ Below w.heap.size w w') := fun w => shmac_any m _ w (by omega) (by decide)
  have HB : Hid (∀ w, Calls Tryd.prog 8 #[.string m, .string ⟨#[116, 97, 103]⟩] w fun e w' => e = .returned (.string (tagK m)) ∧ Below w.heap.size w w') := fun w => shmac_any m _ w (by omega) (by decide)
  clear h
  generalize ciphK m = ck at HA ⊢
  generalize tagK m = tk at HB ⊢
  go_enter Tryd.func6, Tryd.ntmps6
  go_wp2_with fail
  refine (HA.out _).mono ?_
  rintro e w1 ⟨rfl, hb1⟩
  go_wp2_with fail
  refine (HB.out _).mono ?_
  rintro e w2 ⟨rfl, hb2⟩
  have hb3 := bl_trans hb1 hb2 hb1.size
  clear hb1 hb2
  go_wp2_with fail
  go_ret3
  exact ⟨rfl, hb3⟩
set_option maxRecDepth 100000 in
theorem okeys_no (m : ByteArray) (w : World) (h : m.size ≠ 32) :
    Calls Tryd.prog 6 #[.string m] w fun e w' => e = .returned (.tuple #[.string ⟨#[]⟩, .string ⟨#[]⟩, .bool false]) ∧ w' = w := by
  have h1 : ¬ (m.size : Int) = 32 := by omega
  have h3 : ((m.size : Int) != 32) = true := by simp; omega
  clear h
  go_enter Tryd.func6, Tryd.ntmps6
  go_wp2_with fail
  go_ret3
  exact ⟨rfl, rfl⟩
/-- how Open of the specification ends behind the tests of its arguments, given what the tag is -/
theorem big_u (n : Int) (k : Nat) (hn : 0 ≤ n ∧ n ≤ 1000000000000) (h1 : 1 ≤ k) (h2 : k ≤ 12) (w : World) : Calls Tryd.prog 9 #[.int .u64 n, .int .i64 (k : Int)] w fun e w' => e = .returned (.string (bigB n k)) ∧ Below w.heap.size w w' := by
  have := sbig_any (u64N n) k w (u64N_lt n) h1 h2
  rw [u64N_cast, u64_in2 hn] at this
  exact this
set_option linter.unusedSimpArgs false in
set_option maxRecDepth 100000 in
set_option maxHeartbeats 1000000 in
theorem sopen_tag (m s : ByteArray) (n : Int) (w : World) (hm : m.size = 32) (hn : 0 ≤ n ∧ n ≤ 1000000000000) (h32 : 32 ≤ s.size) (hs : s.size ≤ 60032) (ht : tagB (tagK m) n (bodyOf s) ≠ tailOf s) :
    Calls Tryd.prog 4 #[.string m, .int .i64 n, .string s] w fun e w' => e = .returned (.tuple #[.string ⟨#[]⟩, .bool false]) ∧ Below w.heap.size w w' := by
  have HI : Hid (∀ w, Calls Tryd.prog 7 #[.int .i64 n, .int .i64 0, .int .i64 1000000000000] w fun e w' => e = .returned (.bool true) ∧ w' = w) := fun w => in_yes n 0 _ w hn.1 hn.2
  have HA : Hid (∀ w, Calls Tryd.prog 6 #[.string m] w fun e w' => e = .returned (.tuple #[.string (ciphK m), .string (tagK m), .bool true]) ∧ Below w.heap.size w w') := fun w => okeys_yes m w hm
  have H8 : Hid (∀ w, Calls Tryd.prog 9 #[.int .u64 n, .int .i64 8] w fun e w' => e = .returned (.string (bigB n 8)) ∧ Below w.heap.size w w') := fun w => big_u n 8 hn (by omega) (by omega) w
  have hz8 := bigB_size n 8
  have hzb := bodyOf_size h32
  have HT : Hid (∀ w, Calls Tryd.prog 8 #[.string (tagK m), .string (bigB n 8 ++ s.extract 0 (s.size - 32))] w fun e w' => e = .returned (.string (tagB (tagK m) n (bodyOf s))) ∧ Below w.heap.size w w') := fun w => shmac_any _ _ w (by have := tagK_size m; omega) (by rw [ByteArray.size_append]; unfold bodyOf at hzb; omega)
  have hne := toList_ne ht
  have hne2 : ((tagB (tagK m) n (bodyOf s)).toList == (tailOf s).toList) = false := beq_eq_false_iff_ne.2 hne
  unfold tailOf at hne hne2
  have hsub : (s.size : Int) - 32 = ((s.size - 32 : Nat) : Int) := by omega
  have h1 : ¬ (s.size : Int) < 32 := by omega
  have h2 : ¬ 60032 < (s.size : Int) := by omega
  have h3 : n < 18446744073709551616 := by omega
  have h4 : 0 ≤ n := hn.1
  unfold bodyOf at hzb
  have hz9 : (bigB n 8 ++ s.extract 0 (s.size - 32)).size ≤ 60032 := by rw [ByteArray.size_append]; omega
  generalize tagB (tagK m) n (bodyOf s) = tg at HT hne hne2
  generalize ciphK m = ck at HA
  generalize tagK m = tk at HA HT
  generalize bigB n 8 = n8 at H8 HT hz8 hz9
  have hq : s.size - 32 ≤ s.size := by omega
  have hqq : ((s.size - 32 : Nat) : Int) ≤ (s.size : Int) := by omega
  generalize s.size - 32 = q at *
  clear ht hm hn
  go_enter Tryd.func4, Tryd.ntmps4
  go_wp2_with fail
  refine (HA.out _).mono ?_
  rintro e w1 ⟨rfl, hb1⟩
  go_wp2_with fail
  refine (HI.out _).mono ?_
  rintro e w' ⟨rfl, hw⟩
  subst w'
  obtain ⟨S, hS⟩ : ∃ S : World → Prop, S = fun w' => Below w1.heap.size w1 w' := ⟨_, rfl⟩
  have hSd : S w1.drew := by rw [hS]; exact (Below.refl _ _).drew
  have HS : Hid _ := hS
  have HB1 : Hid (Below w.heap.size w w1) := hb1
  clear hS hb1 HA HI
  go_wp2_with fail
  refine wp_region_held (S := S) (by kernel_rfl) ?_
  change wpAnyH _ _ _ _ _ _ _ _ (World.drew _)
  refine wpAnyH_take (i := 0) (v := .string tk) rfl (by kernel_rfl) (by kernel_rfl) (by kernel_rfl) (fun _ _ _ h => h) (Or.inl ⟨by rfl, by intro w' hS'; go_simp <;> (first | omega | (rw [IntKind.wrap_i64]; omega) | (rw [IntKind.wrap_u64]; omega) | (rw [IntKind.wrap_u32]; omega) | (rw [Int.tmod_eq_emod_of_nonneg (by omega)]))⟩) hSd ?_
  (try simp only [List.getElem_toArray, List.getElem_cons_succ, List.getElem_cons_zero, Act.put, List.setIfInBounds_toArray, List.set_cons_zero, List.set_cons_succ])
  refine wpAnyH_take (i := 1) (v := .int .i64 n) rfl (by kernel_rfl) (by kernel_rfl) (by kernel_rfl) (fun _ _ _ h => h) (Or.inl ⟨by rfl, by intro w' hS'; go_simp <;> (first | omega | (rw [IntKind.wrap_i64]; omega) | (rw [IntKind.wrap_u64]; omega) | (rw [IntKind.wrap_u32]; omega) | (rw [Int.tmod_eq_emod_of_nonneg (by omega)]))⟩) hSd ?_
  (try simp only [List.getElem_toArray, List.getElem_cons_succ, List.getElem_cons_zero, Act.put, List.setIfInBounds_toArray, List.set_cons_zero, List.set_cons_succ])
  refine wpAnyH_take (i := 2) (v := .int .u64 n) rfl (by kernel_rfl) (by kernel_rfl) (by kernel_rfl) (fun _ _ _ h => h) (Or.inl ⟨by rfl, by intro w' hS'; go_simp <;> (first | omega | (rw [IntKind.wrap_i64]; omega) | (rw [IntKind.wrap_u64]; omega) | (rw [IntKind.wrap_u32]; omega) | (rw [Int.tmod_eq_emod_of_nonneg (by omega)]))⟩) hSd ?_
  (try simp only [List.getElem_toArray, List.getElem_cons_succ, List.getElem_cons_zero, Act.put, List.setIfInBounds_toArray, List.set_cons_zero, List.set_cons_succ])
  refine wpAnyH_take (i := 4) (v := .string s) rfl (by kernel_rfl) (by kernel_rfl) (by kernel_rfl) (fun _ _ _ h => h) (Or.inl ⟨by rfl, by intro w' hS'; go_simp <;> (first | omega | (rw [IntKind.wrap_i64]; omega) | (rw [IntKind.wrap_u64]; omega) | (rw [IntKind.wrap_u32]; omega) | (rw [Int.tmod_eq_emod_of_nonneg (by omega)]))⟩) hSd ?_
  (try simp only [List.getElem_toArray, List.getElem_cons_succ, List.getElem_cons_zero, Act.put, List.setIfInBounds_toArray, List.set_cons_zero, List.set_cons_succ])
  refine wpAnyH_take (i := 5) (v := .int .i64 (q : Int)) rfl (by kernel_rfl) (by kernel_rfl) (by kernel_rfl) (fun _ _ _ h => h) (Or.inl ⟨by rfl, by intro w' hS'; go_simp <;> (first | omega | (rw [IntKind.wrap_i64]; omega) | (rw [IntKind.wrap_u64]; omega) | (rw [IntKind.wrap_u32]; omega) | (rw [Int.tmod_eq_emod_of_nonneg (by omega)]))⟩) hSd ?_
  (try simp only [List.getElem_toArray, List.getElem_cons_succ, List.getElem_cons_zero, Act.put, List.setIfInBounds_toArray, List.set_cons_zero, List.set_cons_succ])
  refine wpAnyH_take (i := 6) (v := .string (s.extract 0 q)) rfl (by kernel_rfl) (by kernel_rfl) (by kernel_rfl) (fun _ _ _ h => h) (Or.inl ⟨by rfl, by intro w' hS'; go_simp <;> (first | omega | (rw [IntKind.wrap_i64]; omega) | (rw [IntKind.wrap_u64]; omega) | (rw [IntKind.wrap_u32]; omega) | (rw [Int.tmod_eq_emod_of_nonneg (by omega)]))⟩) hSd ?_
  (try simp only [List.getElem_toArray, List.getElem_cons_succ, List.getElem_cons_zero, Act.put, List.setIfInBounds_toArray, List.set_cons_zero, List.set_cons_succ])
  refine wpAnyH_take (i := 9) (v := .string s) rfl (by kernel_rfl) (by kernel_rfl) (by kernel_rfl) (fun _ _ _ h => h) (Or.inl ⟨by rfl, by intro w' hS'; go_simp <;> (first | omega | (rw [IntKind.wrap_i64]; omega) | (rw [IntKind.wrap_u64]; omega) | (rw [IntKind.wrap_u32]; omega) | (rw [Int.tmod_eq_emod_of_nonneg (by omega)]))⟩) hSd ?_
  (try simp only [List.getElem_toArray, List.getElem_cons_succ, List.getElem_cons_zero, Act.put, List.setIfInBounds_toArray, List.set_cons_zero, List.set_cons_succ])
  refine wpAnyH_take (i := 10) (v := .int .i64 (q : Int)) rfl (by kernel_rfl) (by kernel_rfl) (by kernel_rfl) (fun _ _ _ h => h) (Or.inl ⟨by rfl, by intro w' hS'; go_simp <;> (first | omega | (rw [IntKind.wrap_i64]; omega) | (rw [IntKind.wrap_u64]; omega) | (rw [IntKind.wrap_u32]; omega) | (rw [Int.tmod_eq_emod_of_nonneg (by omega)]))⟩) hSd ?_
  (try simp only [List.getElem_toArray, List.getElem_cons_succ, List.getElem_cons_zero, Act.put, List.setIfInBounds_toArray, List.set_cons_zero, List.set_cons_succ])
  refine wpAnyH_take (i := 11) (v := .string (s.extract q s.size)) rfl (by kernel_rfl) (by kernel_rfl) (by kernel_rfl) (fun _ _ _ h => h) (Or.inl ⟨by rfl, by intro w' hS'; go_simp <;> (first | omega | (rw [IntKind.wrap_i64]; omega) | (rw [IntKind.wrap_u64]; omega) | (rw [IntKind.wrap_u32]; omega) | (rw [Int.tmod_eq_emod_of_nonneg (by omega)]))⟩) hSd ?_
  (try simp only [List.getElem_toArray, List.getElem_cons_succ, List.getElem_cons_zero, Act.put, List.setIfInBounds_toArray, List.set_cons_zero, List.set_cons_succ])
  refine held_step (i := 3) (by kernel_rfl) rfl (by rfl) ?_
  go_simp
  refine (H8.out _).mono ?_
  rintro e w2 ⟨rfl, hb2⟩
  have hS2 : S w2 := by rw [HS.out] at hSd ⊢; exact bl_trans hSd hb2 hSd.size
  clear hb2 hSd
  refine ⟨hS2, ?_⟩
  (try simp only [List.getElem_toArray, List.getElem_cons_succ, List.getElem_cons_zero, Act.put, List.setIfInBounds_toArray, List.set_cons_zero, List.set_cons_succ])
  refine wpAnyH_take (i := 7) (v := .string (n8 ++ s.extract 0 q)) rfl (by kernel_rfl) (by kernel_rfl) (by kernel_rfl) (fun _ _ _ h => h) (Or.inl ⟨by rfl, by intro w' hS'; go_simp <;> (first | omega | (rw [IntKind.wrap_i64]; omega) | (rw [IntKind.wrap_u64]; omega) | (rw [IntKind.wrap_u32]; omega) | (rw [Int.tmod_eq_emod_of_nonneg (by omega)]))⟩) hS2 ?_
  (try simp only [List.getElem_toArray, List.getElem_cons_succ, List.getElem_cons_zero, Act.put, List.setIfInBounds_toArray, List.set_cons_zero, List.set_cons_succ])
  refine held_step (i := 8) (by kernel_rfl) rfl (by rfl) ?_
  go_simp
  refine (HT.out _).mono ?_
  rintro e w3 ⟨rfl, hb3⟩
  have hS3 : S w3 := by rw [HS.out] at hS2 ⊢; exact bl_trans hS2 hb3 hS2.size
  clear hb3 hS2
  refine ⟨hS3, ?_⟩
  (try simp only [List.getElem_toArray, List.getElem_cons_succ, List.getElem_cons_zero, Act.put, List.setIfInBounds_toArray, List.set_cons_zero, List.set_cons_succ])
  refine wpAnyH_take (i := 12) (v := .bool true) rfl (by kernel_rfl) (by kernel_rfl) (by kernel_rfl) (fun _ _ _ h => h) (Or.inl ⟨by rfl, by intro w' hS'; go_simp <;> (first | omega | (rw [IntKind.wrap_i64]; omega) | (rw [IntKind.wrap_u64]; omega) | (rw [IntKind.wrap_u32]; omega) | (rw [Int.tmod_eq_emod_of_nonneg (by omega)]) | rfl)⟩) hS3 ?_
  (try simp only [List.getElem_toArray, List.getElem_cons_succ, List.getElem_cons_zero, Act.put, List.setIfInBounds_toArray, List.set_cons_zero, List.set_cons_succ])
  refine wpAnyH_done (by kernel_rfl) ?_ _
  go_wp2_with fail
  go_ret2
  exact ⟨rfl, by have h := hS3; rw [HS.out] at h; exact bl_trans HB1.out h HB1.out.size⟩
set_option linter.unusedSimpArgs false in
set_option maxRecDepth 100000 in
set_option maxHeartbeats 1000000 in
theorem sopen_yes (m s : ByteArray) (n : Int) (w : World) (hm : m.size = 32) (hn : 0 ≤ n ∧ n ≤ 1000000000000) (h32 : 32 ≤ s.size) (hs : s.size ≤ 60032) (ht : tagB (tagK m) n (bodyOf s) = tailOf s) :
    Calls Tryd.prog 4 #[.string m, .int .i64 n, .string s] w fun e w' => e = .returned (.tuple #[.string (openB m n s), .bool true]) ∧ Below w.heap.size w w' := by
  have HI : Hid (∀ w, Calls Tryd.prog 7 #[.int .i64 n, .int .i64 0, .int .i64 1000000000000] w fun e w' => e = .returned (.bool true) ∧ w' = w) := fun w => in_yes n 0 _ w hn.1 hn.2
  have HA : Hid (∀ w, Calls Tryd.prog 6 #[.string m] w fun e w' => e = .returned (.tuple #[.string (ciphK m), .string (tagK m), .bool true]) ∧ Below w.heap.size w w') := fun w => okeys_yes m w hm
  have H8 : Hid (∀ w, Calls Tryd.prog 9 #[.int .u64 n, .int .i64 8] w fun e w' => e = .returned (.string (bigB n 8)) ∧ Below w.heap.size w w') := fun w => big_u n 8 hn (by omega) (by omega) w
  have hz8 := bigB_size n 8
  have hzb := bodyOf_size h32
  have HT : Hid (∀ w, Calls Tryd.prog 8 #[.string (tagK m), .string (bigB n 8 ++ s.extract 0 (s.size - 32))] w fun e w' => e = .returned (.string (s.extract (s.size - 32) s.size)) ∧ Below w.heap.size w w') := fun w => by
    have := shmac_any (tagK m) (bigB n 8 ++ bodyOf s) w (by have := tagK_size m; omega) (by rw [ByteArray.size_append]; omega)
    rw [show hmacB (tagK m) (bigB n 8 ++ bodyOf s) = tailOf s from ht] at this
    exact this
  have H12 : Hid (∀ w, Calls Tryd.prog 9 #[.int .u64 n, .int .i64 12] w fun e w' => e = .returned (.string (bigB n 12)) ∧ Below w.heap.size w w') := fun w => big_u n 12 hn (by omega) (by omega) w
  have HC : Hid (∀ w, Calls Tryd.prog 10 #[.string (ciphK m), .string (bigB n 12), .string (s.extract 0 (s.size - 32))] w fun e w' => e = .returned (.tuple #[.string (openB m n s), .bool true]) ∧ Below w.heap.size w w') := fun w => scount_any _ _ (bodyOf s) w (ciphK_size m) (bigB_size n 12) (by omega)
  have hsub : (s.size : Int) - 32 = ((s.size - 32 : Nat) : Int) := by omega
  have h1 : ¬ (s.size : Int) < 32 := by omega
  have h2 : ¬ 60032 < (s.size : Int) := by omega
  have h3 : n < 18446744073709551616 := by omega
  have h4 : 0 ≤ n := hn.1
  unfold bodyOf at hzb
  have hz9 : (bigB n 8 ++ s.extract 0 (s.size - 32)).size ≤ 60032 := by rw [ByteArray.size_append]; omega
  generalize openB m n s = R at HC ⊢
  generalize ciphK m = ck at HA HC
  generalize tagK m = tk at HA HT
  generalize bigB n 12 = n12 at H12 HC
  generalize bigB n 8 = n8 at H8 HT hz8 hz9
  have hq : s.size - 32 ≤ s.size := by omega
  have hqq : ((s.size - 32 : Nat) : Int) ≤ (s.size : Int) := by omega
  generalize s.size - 32 = q at *
  clear ht hm hn
  go_enter Tryd.func4, Tryd.ntmps4
  go_wp2_with fail
  refine (HA.out _).mono ?_
  rintro e w1 ⟨rfl, hb1⟩
  go_wp2_with fail
  refine (HI.out _).mono ?_
  rintro e w' ⟨rfl, hw⟩
  subst w'
  obtain ⟨S, hS⟩ : ∃ S : World → Prop, S = fun w' => Below w1.heap.size w1 w' := ⟨_, rfl⟩
  have hSd : S w1.drew := by rw [hS]; exact (Below.refl _ _).drew
  have HS : Hid _ := hS
  have HB1 : Hid (Below w.heap.size w w1) := hb1
  clear hS hb1 HA HI
  go_wp2_with fail
  refine wp_region_held (S := S) (by kernel_rfl) ?_
  change wpAnyH _ _ _ _ _ _ _ _ (World.drew _)
  refine wpAnyH_take (i := 0) (v := .string tk) rfl (by kernel_rfl) (by kernel_rfl) (by kernel_rfl) (fun _ _ _ h => h) (Or.inl ⟨by rfl, by intro w' hS'; go_simp <;> (first | omega | (rw [IntKind.wrap_i64]; omega) | (rw [IntKind.wrap_u64]; omega) | (rw [IntKind.wrap_u32]; omega) | (rw [Int.tmod_eq_emod_of_nonneg (by omega)]))⟩) hSd ?_
  (try simp only [List.getElem_toArray, List.getElem_cons_succ, List.getElem_cons_zero, Act.put, List.setIfInBounds_toArray, List.set_cons_zero, List.set_cons_succ])
  refine wpAnyH_take (i := 1) (v := .int .i64 n) rfl (by kernel_rfl) (by kernel_rfl) (by kernel_rfl) (fun _ _ _ h => h) (Or.inl ⟨by rfl, by intro w' hS'; go_simp <;> (first | omega | (rw [IntKind.wrap_i64]; omega) | (rw [IntKind.wrap_u64]; omega) | (rw [IntKind.wrap_u32]; omega) | (rw [Int.tmod_eq_emod_of_nonneg (by omega)]))⟩) hSd ?_
  (try simp only [List.getElem_toArray, List.getElem_cons_succ, List.getElem_cons_zero, Act.put, List.setIfInBounds_toArray, List.set_cons_zero, List.set_cons_succ])
  refine wpAnyH_take (i := 2) (v := .int .u64 n) rfl (by kernel_rfl) (by kernel_rfl) (by kernel_rfl) (fun _ _ _ h => h) (Or.inl ⟨by rfl, by intro w' hS'; go_simp <;> (first | omega | (rw [IntKind.wrap_i64]; omega) | (rw [IntKind.wrap_u64]; omega) | (rw [IntKind.wrap_u32]; omega) | (rw [Int.tmod_eq_emod_of_nonneg (by omega)]))⟩) hSd ?_
  (try simp only [List.getElem_toArray, List.getElem_cons_succ, List.getElem_cons_zero, Act.put, List.setIfInBounds_toArray, List.set_cons_zero, List.set_cons_succ])
  refine wpAnyH_take (i := 4) (v := .string s) rfl (by kernel_rfl) (by kernel_rfl) (by kernel_rfl) (fun _ _ _ h => h) (Or.inl ⟨by rfl, by intro w' hS'; go_simp <;> (first | omega | (rw [IntKind.wrap_i64]; omega) | (rw [IntKind.wrap_u64]; omega) | (rw [IntKind.wrap_u32]; omega) | (rw [Int.tmod_eq_emod_of_nonneg (by omega)]))⟩) hSd ?_
  (try simp only [List.getElem_toArray, List.getElem_cons_succ, List.getElem_cons_zero, Act.put, List.setIfInBounds_toArray, List.set_cons_zero, List.set_cons_succ])
  refine wpAnyH_take (i := 5) (v := .int .i64 (q : Int)) rfl (by kernel_rfl) (by kernel_rfl) (by kernel_rfl) (fun _ _ _ h => h) (Or.inl ⟨by rfl, by intro w' hS'; go_simp <;> (first | omega | (rw [IntKind.wrap_i64]; omega) | (rw [IntKind.wrap_u64]; omega) | (rw [IntKind.wrap_u32]; omega) | (rw [Int.tmod_eq_emod_of_nonneg (by omega)]))⟩) hSd ?_
  (try simp only [List.getElem_toArray, List.getElem_cons_succ, List.getElem_cons_zero, Act.put, List.setIfInBounds_toArray, List.set_cons_zero, List.set_cons_succ])
  refine wpAnyH_take (i := 6) (v := .string (s.extract 0 q)) rfl (by kernel_rfl) (by kernel_rfl) (by kernel_rfl) (fun _ _ _ h => h) (Or.inl ⟨by rfl, by intro w' hS'; go_simp <;> (first | omega | (rw [IntKind.wrap_i64]; omega) | (rw [IntKind.wrap_u64]; omega) | (rw [IntKind.wrap_u32]; omega) | (rw [Int.tmod_eq_emod_of_nonneg (by omega)]))⟩) hSd ?_
  (try simp only [List.getElem_toArray, List.getElem_cons_succ, List.getElem_cons_zero, Act.put, List.setIfInBounds_toArray, List.set_cons_zero, List.set_cons_succ])
  refine wpAnyH_take (i := 9) (v := .string s) rfl (by kernel_rfl) (by kernel_rfl) (by kernel_rfl) (fun _ _ _ h => h) (Or.inl ⟨by rfl, by intro w' hS'; go_simp <;> (first | omega | (rw [IntKind.wrap_i64]; omega) | (rw [IntKind.wrap_u64]; omega) | (rw [IntKind.wrap_u32]; omega) | (rw [Int.tmod_eq_emod_of_nonneg (by omega)]))⟩) hSd ?_
  (try simp only [List.getElem_toArray, List.getElem_cons_succ, List.getElem_cons_zero, Act.put, List.setIfInBounds_toArray, List.set_cons_zero, List.set_cons_succ])
  refine wpAnyH_take (i := 10) (v := .int .i64 (q : Int)) rfl (by kernel_rfl) (by kernel_rfl) (by kernel_rfl) (fun _ _ _ h => h) (Or.inl ⟨by rfl, by intro w' hS'; go_simp <;> (first | omega | (rw [IntKind.wrap_i64]; omega) | (rw [IntKind.wrap_u64]; omega) | (rw [IntKind.wrap_u32]; omega) | (rw [Int.tmod_eq_emod_of_nonneg (by omega)]))⟩) hSd ?_
  (try simp only [List.getElem_toArray, List.getElem_cons_succ, List.getElem_cons_zero, Act.put, List.setIfInBounds_toArray, List.set_cons_zero, List.set_cons_succ])
  refine wpAnyH_take (i := 11) (v := .string (s.extract q s.size)) rfl (by kernel_rfl) (by kernel_rfl) (by kernel_rfl) (fun _ _ _ h => h) (Or.inl ⟨by rfl, by intro w' hS'; go_simp <;> (first | omega | (rw [IntKind.wrap_i64]; omega) | (rw [IntKind.wrap_u64]; omega) | (rw [IntKind.wrap_u32]; omega) | (rw [Int.tmod_eq_emod_of_nonneg (by omega)]))⟩) hSd ?_
  (try simp only [List.getElem_toArray, List.getElem_cons_succ, List.getElem_cons_zero, Act.put, List.setIfInBounds_toArray, List.set_cons_zero, List.set_cons_succ])
  refine held_step (i := 3) (by kernel_rfl) rfl (by rfl) ?_
  go_simp
  refine (H8.out _).mono ?_
  rintro e w2 ⟨rfl, hb2⟩
  have hS2 : S w2 := by rw [HS.out] at hSd ⊢; exact bl_trans hSd hb2 hSd.size
  clear hb2 hSd
  refine ⟨hS2, ?_⟩
  (try simp only [List.getElem_toArray, List.getElem_cons_succ, List.getElem_cons_zero, Act.put, List.setIfInBounds_toArray, List.set_cons_zero, List.set_cons_succ])
  refine wpAnyH_take (i := 7) (v := .string (n8 ++ s.extract 0 q)) rfl (by kernel_rfl) (by kernel_rfl) (by kernel_rfl) (fun _ _ _ h => h) (Or.inl ⟨by rfl, by intro w' hS'; go_simp <;> (first | omega | (rw [IntKind.wrap_i64]; omega) | (rw [IntKind.wrap_u64]; omega) | (rw [IntKind.wrap_u32]; omega) | (rw [Int.tmod_eq_emod_of_nonneg (by omega)]))⟩) hS2 ?_
  (try simp only [List.getElem_toArray, List.getElem_cons_succ, List.getElem_cons_zero, Act.put, List.setIfInBounds_toArray, List.set_cons_zero, List.set_cons_succ])
  refine held_step (i := 8) (by kernel_rfl) rfl (by rfl) ?_
  go_simp
  refine (HT.out _).mono ?_
  rintro e w3 ⟨rfl, hb3⟩
  have hS3 : S w3 := by rw [HS.out] at hS2 ⊢; exact bl_trans hS2 hb3 hS2.size
  clear hb3 hS2
  refine ⟨hS3, ?_⟩
  (try simp only [List.getElem_toArray, List.getElem_cons_succ, List.getElem_cons_zero, Act.put, List.setIfInBounds_toArray, List.set_cons_zero, List.set_cons_succ])
  refine wpAnyH_take (i := 12) (v := .bool false) rfl (by kernel_rfl) (by kernel_rfl) (by kernel_rfl) (fun _ _ _ h => h) (Or.inl ⟨by rfl, by intro w' hS'; go_simp <;> (first | omega | (rw [IntKind.wrap_i64]; omega) | (rw [IntKind.wrap_u64]; omega) | (rw [IntKind.wrap_u32]; omega) | (rw [Int.tmod_eq_emod_of_nonneg (by omega)]) | rfl)⟩) hS3 ?_
  (try simp only [List.getElem_toArray, List.getElem_cons_succ, List.getElem_cons_zero, Act.put, List.setIfInBounds_toArray, List.set_cons_zero, List.set_cons_succ])
  refine wpAnyH_done (by kernel_rfl) ?_ _
  go_wp2_with fail
  replace hSd : S w3.drew := by rw [HS.out] at hS3 ⊢; exact hS3.drew
  clear hS3
  refine wp_region_held (S := S) (by kernel_rfl) ?_
  change wpAnyH _ _ _ _ _ _ _ _ (World.drew _)
  refine wpAnyH_take (i := 0) (v := .string ck) rfl (by kernel_rfl) (by kernel_rfl) (by kernel_rfl) (fun _ _ _ h => h) (Or.inl ⟨by rfl, by intro w' hS'; go_simp <;> (first | omega | (rw [IntKind.wrap_i64]; omega) | (rw [IntKind.wrap_u64]; omega) | (rw [IntKind.wrap_u32]; omega) | (rw [Int.tmod_eq_emod_of_nonneg (by omega)]))⟩) hSd ?_
  (try simp only [List.getElem_toArray, List.getElem_cons_succ, List.getElem_cons_zero, Act.put, List.setIfInBounds_toArray, List.set_cons_zero, List.set_cons_succ])
  refine wpAnyH_take (i := 1) (v := .int .i64 n) rfl (by kernel_rfl) (by kernel_rfl) (by kernel_rfl) (fun _ _ _ h => h) (Or.inl ⟨by rfl, by intro w' hS'; go_simp <;> (first | omega | (rw [IntKind.wrap_i64]; omega) | (rw [IntKind.wrap_u64]; omega) | (rw [IntKind.wrap_u32]; omega) | (rw [Int.tmod_eq_emod_of_nonneg (by omega)]))⟩) hSd ?_
  (try simp only [List.getElem_toArray, List.getElem_cons_succ, List.getElem_cons_zero, Act.put, List.setIfInBounds_toArray, List.set_cons_zero, List.set_cons_succ])
  refine wpAnyH_take (i := 2) (v := .int .u64 n) rfl (by kernel_rfl) (by kernel_rfl) (by kernel_rfl) (fun _ _ _ h => h) (Or.inl ⟨by rfl, by intro w' hS'; go_simp <;> (first | omega | (rw [IntKind.wrap_i64]; omega) | (rw [IntKind.wrap_u64]; omega) | (rw [IntKind.wrap_u32]; omega) | (rw [Int.tmod_eq_emod_of_nonneg (by omega)]))⟩) hSd ?_
  (try simp only [List.getElem_toArray, List.getElem_cons_succ, List.getElem_cons_zero, Act.put, List.setIfInBounds_toArray, List.set_cons_zero, List.set_cons_succ])
  refine wpAnyH_take (i := 4) (v := .string s) rfl (by kernel_rfl) (by kernel_rfl) (by kernel_rfl) (fun _ _ _ h => h) (Or.inl ⟨by rfl, by intro w' hS'; go_simp <;> (first | omega | (rw [IntKind.wrap_i64]; omega) | (rw [IntKind.wrap_u64]; omega) | (rw [IntKind.wrap_u32]; omega) | (rw [Int.tmod_eq_emod_of_nonneg (by omega)]))⟩) hSd ?_
  (try simp only [List.getElem_toArray, List.getElem_cons_succ, List.getElem_cons_zero, Act.put, List.setIfInBounds_toArray, List.set_cons_zero, List.set_cons_succ])
  refine wpAnyH_take (i := 5) (v := .int .i64 (q : Int)) rfl (by kernel_rfl) (by kernel_rfl) (by kernel_rfl) (fun _ _ _ h => h) (Or.inl ⟨by rfl, by intro w' hS'; go_simp <;> (first | omega | (rw [IntKind.wrap_i64]; omega) | (rw [IntKind.wrap_u64]; omega) | (rw [IntKind.wrap_u32]; omega) | (rw [Int.tmod_eq_emod_of_nonneg (by omega)]))⟩) hSd ?_
  (try simp only [List.getElem_toArray, List.getElem_cons_succ, List.getElem_cons_zero, Act.put, List.setIfInBounds_toArray, List.set_cons_zero, List.set_cons_succ])
  refine wpAnyH_take (i := 6) (v := .string (s.extract 0 q)) rfl (by kernel_rfl) (by kernel_rfl) (by kernel_rfl) (fun _ _ _ h => h) (Or.inl ⟨by rfl, by intro w' hS'; go_simp <;> (first | omega | (rw [IntKind.wrap_i64]; omega) | (rw [IntKind.wrap_u64]; omega) | (rw [IntKind.wrap_u32]; omega) | (rw [Int.tmod_eq_emod_of_nonneg (by omega)]))⟩) hSd ?_
  (try simp only [List.getElem_toArray, List.getElem_cons_succ, List.getElem_cons_zero, Act.put, List.setIfInBounds_toArray, List.set_cons_zero, List.set_cons_succ])
  refine held_step (i := 3) (by kernel_rfl) rfl (by rfl) ?_
  go_simp
  refine (H12.out _).mono ?_
  rintro e w5 ⟨rfl, hb5⟩
  have hS5 : S w5 := by rw [HS.out] at hSd ⊢; exact bl_trans hSd hb5 hSd.size
  clear hb5 hSd
  refine ⟨hS5, ?_⟩
  (try simp only [List.getElem_toArray, List.getElem_cons_succ, List.getElem_cons_zero, Act.put, List.setIfInBounds_toArray, List.set_cons_zero, List.set_cons_succ])
  refine held_step (i := 7) (by kernel_rfl) rfl (by rfl) ?_
  go_simp
  refine (HC.out _).mono ?_
  rintro e w6 ⟨rfl, hb6⟩
  have hS6 : S w6 := by rw [HS.out] at hS5 ⊢; exact bl_trans hS5 hb6 hS5.size
  clear hb6 hS5
  refine ⟨hS6, ?_⟩
  (try simp only [List.getElem_toArray, List.getElem_cons_succ, List.getElem_cons_zero, Act.put, List.setIfInBounds_toArray, List.set_cons_zero, List.set_cons_succ])
  refine wpAnyH_take (i := 8) (v := .string R) rfl (by kernel_rfl) (by kernel_rfl) (by kernel_rfl) (fun _ _ _ h => h) (Or.inl ⟨by rfl, by intro w' hS'; go_simp <;> (first | omega | (rw [IntKind.wrap_i64]; omega) | (rw [IntKind.wrap_u64]; omega) | (rw [IntKind.wrap_u32]; omega) | (rw [Int.tmod_eq_emod_of_nonneg (by omega)]))⟩) hS6 ?_
  (try simp only [List.getElem_toArray, List.getElem_cons_succ, List.getElem_cons_zero, Act.put, List.setIfInBounds_toArray, List.set_cons_zero, List.set_cons_succ])
  refine wpAnyH_take (i := 9) (v := .bool true) rfl (by kernel_rfl) (by kernel_rfl) (by kernel_rfl) (fun _ _ _ h => h) (Or.inl ⟨by rfl, by intro w' hS'; go_simp <;> (first | omega | (rw [IntKind.wrap_i64]; omega) | (rw [IntKind.wrap_u64]; omega) | (rw [IntKind.wrap_u32]; omega) | (rw [Int.tmod_eq_emod_of_nonneg (by omega)]))⟩) hS6 ?_
  (try simp only [List.getElem_toArray, List.getElem_cons_succ, List.getElem_cons_zero, Act.put, List.setIfInBounds_toArray, List.set_cons_zero, List.set_cons_succ])
  refine wpAnyH_take (i := 10) (v := .string R) rfl (by kernel_rfl) (by kernel_rfl) (by kernel_rfl) (fun _ _ _ h => h) (Or.inl ⟨by rfl, by intro w' hS'; go_simp <;> (first | omega | (rw [IntKind.wrap_i64]; omega) | (rw [IntKind.wrap_u64]; omega) | (rw [IntKind.wrap_u32]; omega) | (rw [Int.tmod_eq_emod_of_nonneg (by omega)]))⟩) hS6 ?_
  (try simp only [List.getElem_toArray, List.getElem_cons_succ, List.getElem_cons_zero, Act.put, List.setIfInBounds_toArray, List.set_cons_zero, List.set_cons_succ])
  refine wpAnyH_take (i := 11) (v := .bool true) rfl (by kernel_rfl) (by kernel_rfl) (by kernel_rfl) (fun _ _ _ h => h) (Or.inl ⟨by rfl, by intro w' hS'; go_simp <;> (first | omega | (rw [IntKind.wrap_i64]; omega) | (rw [IntKind.wrap_u64]; omega) | (rw [IntKind.wrap_u32]; omega) | (rw [Int.tmod_eq_emod_of_nonneg (by omega)]))⟩) hS6 ?_
  (try simp only [List.getElem_toArray, List.getElem_cons_succ, List.getElem_cons_zero, Act.put, List.setIfInBounds_toArray, List.set_cons_zero, List.set_cons_succ])
  refine wpAnyH_done (by kernel_rfl) ?_ _
  go_wp2_with fail
  go_ret2
  exact ⟨rfl, by have h := hS6; rw [HS.out] at h; exact bl_trans HB1.out h HB1.out.size⟩
set_option maxRecDepth 100000 in
theorem sopen_no (m s : ByteArray) (n : Int) (w : World) (hx : ¬ (m.size = 32 ∧ (0 ≤ n ∧ n ≤ 1000000000000) ∧ 32 ≤ s.size ∧ s.size ≤ 60032)) :
    Calls Tryd.prog 4 #[.string m, .int .i64 n, .string s] w fun e w' => e = .returned (.tuple #[.string ⟨#[]⟩, .bool false]) ∧ Below w.heap.size w w' := by
  by_cases hm : m.size = 32
  · have HA : Hid (∀ w, Calls Tryd.prog 6 #[.string m] w fun e w' => e = .returned (.tuple #[.string (ciphK m), .string (tagK m), .bool true]) ∧ Below w.heap.size w w') := fun w => okeys_yes m w hm
    generalize ciphK m = ck at HA
    generalize tagK m = tk at HA
    by_cases hn : 0 ≤ n ∧ n ≤ 1000000000000
    · have HI : Hid (∀ w, Calls Tryd.prog 7 #[.int .i64 n, .int .i64 0, .int .i64 1000000000000] w fun e w' => e = .returned (.bool true) ∧ w' = w) := fun w => in_yes n 0 _ w hn.1 hn.2
      by_cases h32 : 32 ≤ s.size
      · have h1 : ¬ (s.size : Int) < 32 := by omega
        have h2 : 60032 < (s.size : Int) := by
          have : ¬ s.size ≤ 60032 := fun c => hx ⟨hm, hn, h32, c⟩
          omega
        clear hx hm hn
        go_enter Tryd.func4, Tryd.ntmps4
        go_wp2_with fail
        refine (HA.out _).mono ?_
        rintro e w1 ⟨rfl, hb1⟩
        go_wp2_with fail
        refine (HI.out _).mono ?_
        rintro e w' ⟨rfl, hw⟩
        subst w'
        go_wp2_with fail
        go_ret2
        exact ⟨rfl, hb1⟩
      · have h1 : (s.size : Int) < 32 := by omega
        clear hx hm hn
        go_enter Tryd.func4, Tryd.ntmps4
        go_wp2_with fail
        refine (HA.out _).mono ?_
        rintro e w1 ⟨rfl, hb1⟩
        go_wp2_with fail
        refine (HI.out _).mono ?_
        rintro e w' ⟨rfl, hw⟩
        subst w'
        go_wp2_with fail
        go_ret2
        exact ⟨rfl, hb1⟩
    · have HI : Hid (∀ w, Calls Tryd.prog 7 #[.int .i64 n, .int .i64 0, .int .i64 1000000000000] w fun e w' => e = .returned (.bool false) ∧ w' = w) := fun w => in_no n 0 _ w hn
      clear hx hm hn
      go_enter Tryd.func4, Tryd.ntmps4
      go_wp2_with fail
      refine (HA.out _).mono ?_
      rintro e w1 ⟨rfl, hb1⟩
      go_wp2_with fail
      refine (HI.out _).mono ?_
      rintro e w' ⟨rfl, hw⟩
      subst w'
      go_wp2_with fail
      go_ret2
      exact ⟨rfl, hb1⟩
  · have HA : Hid (∀ w, Calls Tryd.prog 6 #[.string m] w fun e w' => e = .returned (.tuple #[.string ⟨#[]⟩, .string ⟨#[]⟩, .bool false]) ∧ w' = w) := fun w => okeys_no m w hm
    clear hx hm
    go_enter Tryd.func4, Tryd.ntmps4
    go_wp2_with fail
    refine (HA.out _).mono ?_
    rintro e w' ⟨rfl, hw⟩
    subst w'
    go_wp2_with fail
    go_ret2
    exact ⟨rfl, Below.refl _ _⟩
theorem sopenOk_yes (m s : ByteArray) (n : Int) (w : World) (h : openOk m n s) :
    Calls Tryd.prog 4 #[.string m, .int .i64 n, .string s] w fun e w' => e = .returned (.tuple #[.string (openB m n s), .bool true]) ∧ Below w.heap.size w w' :=
  sopen_yes m s n w h.1 h.2.1 h.2.2.1 h.2.2.2.1 h.2.2.2.2
theorem sopenOk_no (m s : ByteArray) (n : Int) (w : World) (h : ¬ openOk m n s) :
    Calls Tryd.prog 4 #[.string m, .int .i64 n, .string s] w fun e w' => e = .returned (.tuple #[.string ⟨#[]⟩, .bool false]) ∧ Below w.heap.size w w' := by
  by_cases hx : m.size = 32 ∧ (0 ≤ n ∧ n ≤ 1000000000000) ∧ 32 ≤ s.size ∧ s.size ≤ 60032
  · exact sopen_tag m s n w hx.1 hx.2.1 hx.2.2.1 hx.2.2.2 (fun ht => h ⟨hx.1, hx.2.1, hx.2.2.1, hx.2.2.2, ht⟩)
  · exact sopen_no m s n w hx
end Go.Proofs.YtnkahdidelhdaamDoor
