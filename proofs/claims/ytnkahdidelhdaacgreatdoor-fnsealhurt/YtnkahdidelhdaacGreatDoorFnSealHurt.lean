/-
  With one bit turned over, or under another number, nothing is opened, unless two unlike texts have one tag: at every code that is drawn from.
-/
import Derived.Test.YtnkahdidelhdaacGreatDoorRows
import Derived.Test.YtnkahdidelhdaacGreatDoorTie
import Derived.Test.YtnkahdidelhdaacGreatDoorCards
import Derived.Test.YtnkahdidelhdaacGreatDoorCardKit2
import Derived.SevenTiedAt
import Derived.Stop.Joined
import Derived.Test.YtnkahdidelhdaacGreatDoorOpenC
import Derived.Test.YtnkahdidelhdaacGreatDoorSealS
import Derived.Test.YtnkahdidelhdaacGreatDoorDrwSeal
import Derived.Test.YtnkahdidelhdaacGreatDoorHurtMath
import Derived.Test.YtnkahdidelhdaacGreatDoorTurned
import Derived.Test.YtnkahdidelhdaacGreatDoorBig
import Derived.OrdersHeld
import Derived.WalkKit
import Derived.ProofKit
import Derived.OpenShut
import Derived.ShutString
import Derived.ChangeOld
import Derived.Below
namespace Go.Proofs.YtnkahdidelhdaacGreatDoor.fnSealHurt
open Go.ChangeShapes Go.WideShapes Go.ChangeAt Go.RowKit
open Go.ChangeMaps (open_string shut_string)
set_option linter.unusedVariables false

theorem own : ownKnob Tryz.prog.godebug = none := by kernel_rfl
theorem laidOut : laidOutB Tryz.prog = true := by kernel_rfl

/-- what the walk is told of a slice of integers that came in -/
def IsRow (k : IntKind) (w : World) (a : Option Addr) (len cap : Nat) (zs : List Int) : Prop :=
  (a = none ∧ len = 0 ∧ cap = 0 ∧ zs = []) ∨
  ∃ x, a = some x ∧ len ≤ cap ∧ cap ≤ maxLen ∧ zs.length = cap ∧ (∀ i, i < zs.length → w.cell? (x.add i) = some (.int k (zs.getD i 0))) ∧ ∀ n ∈ zs, (Lit.int k n).wf = true

set_option linter.unusedSimpArgs false

set_option maxRecDepth 100000 in
set_option maxHeartbeats 4000000 in
theorem walk (a0 : Option Addr) (len0 cap0 : Nat) (z0 : List Int) (w : World) (w0 : IsRow .u8 w a0 len0 cap0 z0) (a : Addr) (hF : SF w a) :
    Calls Tryz.prog 3 #[.slice a0 len0 cap0] w fun e w' => e = .returned (.bool true) ∧ Below w.heap.size w w' := by
  by_cases hbig : 1048576 < len0
  · go_enter Tryz.func3, Tryz.ntmps3
    go_wp2_with fail
    refine (big_yes a0 len0 cap0 _ hbig).mono ?_
    rintro e w1 ⟨rfl, rfl⟩
    go_wp2_with fail
    go_ret
    exact ⟨rfl, Below.refl _ _⟩
  · have hS := src_of w0 (by omega)
    have HF : Hid (SF w a) := hF
    clear w0 hF
    go_enter Tryz.func3, Tryz.ntmps3
    go_wp2_with fail
    refine (big_no a0 len0 cap0 _ hbig).mono ?_
    rintro e w1 ⟨rfl, hw1⟩
    subst w1
    go_wp2_with fail
    refine (drawSeal hS (Below.refl _ _)).mono ?_
    rintro e w2 ⟨⟨k, n, s, hk, hn1, hn2, hs, rfl⟩, hb2⟩
    by_cases h : sealOk k n s
    · have hn0 := h.2.1.1
      have hn12 := h.2.1.2
      obtain ⟨N, rfl⟩ := Int.eq_ofNat_of_zero_le hn0
      have HA : Hid (∀ w, SF w a → Calls Tryz.prog 6 #[.string k, .int .i64 (N : Int), .string s] w fun e w' => e = .returned (.tuple #[.string (sealB k N s), .bool true]) ∧ Below w.heap.size w w') := fun w hF => seal_yes k s N a w hF h
      have HB : Hid (∀ w, Calls Tryz.prog 7 #[.string k, .int .i64 (N : Int), .string s] w fun e w' => e = .returned (.tuple #[.string (sealB k N s), .bool true]) ∧ Below w.heap.size w w') := fun w => sseal_yes k s N w h
      have HK : Hid (∀ w, SF w a → Calls Tryz.prog 8 #[.string k] w fun e w' => e = .returned (.tuple #[.string (ciphK k), .string (tagK k), .bool true]) ∧ Below w.heap.size w w') := fun w hF => keys_yes k a w hF h.1
      have hz := sealB_size k N s
      have hz2 : ((sealB k N s).size : Int) = (s.size : Int) + 32 := by omega
      obtain ⟨m, hm⟩ : ∃ m : Nat, (len0 : Int) * 7 % (8 * ((sealB k N s).size : Int)) = (m : Int) := ⟨len0 * 7 % (8 * (sealB k N s).size), by push_cast; rfl⟩
      have hm2 : m < 8 * (sealB k N s).size := by
        have := Int.emod_lt_of_pos ((len0 : Int) * 7) (b := 8 * ((sealB k N s).size : Int)) (by omega)
        omega
      have hm8 : m / 8 < (sealB k N s).size := by omega
      -- what each opening answers
      have HT : Hid (∀ w, Calls Tryz.prog 9 #[.string (sealB k N s), .int .i64 (m : Int)] w fun e w' => (∃ (t : ByteArray), t.size = (sealB k N s).size ∧ (openOk k N t → m / 8 < (sealB k N s).size - 32 ∧ tagB (tagK k) N (bodyOf (sealB k N s)) = tagB (tagK k) N (bodyOf t)) ∧ e = .returned (.string t)) ∧ Below w.heap.size w w') := fun w => by
        refine (turned_any (sealB k N s) m w hm2 (by omega)).mono ?_
        rintro e w' ⟨⟨t, b, ht, htb, rfl⟩, hb⟩
        exact ⟨⟨t, hurt_size ht, fun hop => hurt_open h ht hm8 (htb hm8) hop, rfl⟩, hb⟩
      obtain ⟨n9, hn9⟩ : ∃ n9 : Nat, ((N : Int) + 1) % 9 = (n9 : Int) := ⟨(N + 1) % 9, by push_cast; rfl⟩
      have hn9l : n9 < 9 := by omega
      have HO : Hid (∀ (n : Int) (t : ByteArray), -9223372036854775808 ≤ n → n ≤ 9223372036854775807 → t.size ≤ 1073741824 → ∃ x b, (b = true → openOk k n t) ∧ ∀ w, SF w a → Calls Tryz.prog 10 #[.string k, .int .i64 n, .string t] w fun e w' => e = .returned (.tuple #[.string x, .bool b]) ∧ Below w.heap.size w w') := fun n t h1 h2 h3 => by
        by_cases ho : openOk k n t
        · exact ⟨_, true, fun _ => ho, fun w hF => open_yes k t n a w hF ho⟩
        · exact ⟨_, false, fun c => by simp at c, fun w hF => open_no k t n a w hF h1 h2 h3 ho⟩
      have hother : openOk k (n9 : Int) (sealB k N s) → tagB (tagK k) N (bodyOf (sealB k N s)) = tagB (tagK k) n9 (bodyOf (sealB k N s)) := fun ho => other_open h ho
      have HTK : Hid ((tagK k).size = 32) := tagK_size k
      have HZ : Hid (∀ x, x < 256 → ∀ body, hmacB (tagK k) (nz 7 ++ byteB x ++ body) = tagB (tagK k) (x : Int) body) := fun x hx body => by unfold tagB; rw [bigB_byte x hx]
      generalize sealB k N s = R at *
      generalize ciphK k = ck at *
      generalize tagK k = tk at *
      have hR1 : 32 ≤ R.size := by omega
      have hR2 : R.size ≤ 632 := by omega
      clear h hk hn1 hn2 hz hz2
      go_wp2_with fail
      refine (HA.out _ (HF.out.below hb2)).mono ?_
      rintro e w3 ⟨rfl, hb3⟩
      replace hb3 := bl_trans hb2 hb3 hb2.size
      clear hb2
      go_wp2_with fail
      refine (HB.out _).mono ?_
      rintro e w4 ⟨rfl, hb4⟩
      replace hb4 := bl_trans hb3 hb4 hb3.size
      clear hb3
      go_wp2_with fail
      refine (HK.out _ (HF.out.below hb4)).mono ?_
      rintro e w5 ⟨rfl, hb5⟩
      replace hb5 := bl_trans hb4 hb5 hb4.size
      clear hb4
      have hne : ¬ 8 * (R.size : Int) = 0 := by omega
      have hw1 : (len0 : Int) * 7 < 9223372036854775808 := by omega
      have hw2 : 8 * (R.size : Int) < 9223372036854775808 := by omega
      go_wp2_with fail
      refine (HT.out _).mono ?_
      rintro e w6 ⟨⟨t, ht, hopen, rfl⟩, hb6⟩
      replace hb6 := bl_trans hb5 hb6 hb5.size
      clear hb5
      obtain ⟨x1, b1, hp1, HO1⟩ := HO.out N t (by omega) (by omega) (by omega)
      obtain ⟨x2, b2, hp2, HO2⟩ := HO.out n9 R (by omega) (by omega) (by omega)
      replace hp1 : Hid (b1 = true → _) := fun c => hopen (hp1 c)
      replace hp2 : Hid (b2 = true → _) := fun c => hother (hp2 c)
      replace HO1 : Hid (∀ w, SF w a → _) := HO1
      replace HO2 : Hid (∀ w, SF w a → _) := HO2
      clear HO hopen hother HT HA HB HK
      go_wp2_with fail
      refine (HO1.out _ (HF.out.below hb6)).mono ?_
      rintro e w7 ⟨rfl, hb7⟩
      replace hb7 := bl_trans hb6 hb7 hb6.size
      clear hb6
      go_wp2_with fail
      refine (HO2.out _ (HF.out.below hb7)).mono ?_
      rintro e w8 ⟨rfl, hb8⟩
      replace hb8 := bl_trans hb7 hb8 hb7.size
      clear hb7 HO1 HO2
      have hmk : ∀ W : World, (Instr.makeSlice 22 (.int .i64 7) (.int .i64 7)).run Tryz.prog W = .ok (.slice (some ⟨W.heap.size, 0, none⟩) 7 7) (W.alloc (.cells (nzM 7) 5)) := fun W => nz_made 7 (by omega) W
      have hcz7 := fun W : World => nz_conv 7 W.heap.size (W.alloc (.cells (nzM 7) 5)) (heap_alloc_new W _)
      have hA7 := nz_size 7
      generalize hA : nz 7 = A7 at *
      generalize nzM 7 = M7 at *
      obtain ⟨q, hqd⟩ : ∃ q, q = R.size - 32 := ⟨_, rfl⟩
      have hsub : (R.size : Int) - 32 = (q : Int) := by omega
      have hqR : (q : Int) ≤ (R.size : Int) := by omega
      have hqt : (q : Int) ≤ (t.size : Int) := by omega
      have hqR' : q ≤ R.size := by omega
      have hqt' : q ≤ t.size := by omega
      obtain ⟨nb, hnb⟩ : ∃ nb : Nat, (N : Int) % 256 = (nb : Int) := ⟨N % 256, by omega⟩
      have hnbl : nb < 256 := by omega
      obtain ⟨S, hSS⟩ : ∃ S : World → Prop, S = fun w' => Below w.heap.size w w' := ⟨_, rfl⟩
      have hSA : ∀ wr, S wr → S wr.drew := fun wr h => by rw [hSS] at h ⊢; exact h.drew
      have hzr : (R.extract 0 q).size = q := by simp; omega
      have hzt : (t.extract 0 q).size = q := by simp; omega
      have HMM : ∀ body, body.size ≤ 2000 → ∀ w1, S w1 → Calls Tryz.prog 11 #[.string tk, .string body] w1 fun e w' => e = .returned (.string (hmacB tk body)) ∧ S w' := fun body hbd w1 hw1 => by
        rw [hSS] at hw1
        have hf := HF.out.below hw1
        refine (hmac_any tk body w1 (by have := HTK.out; omega) (by omega) hf.hK hf.h0).mono ?_
        rintro e w' ⟨he, hb⟩
        exact ⟨he, by rw [hSS]; exact bl_trans hw1 hb hw1.size⟩
      have HM1 : Hid (∀ w1, S w1 → Calls Tryz.prog 11 #[.string tk, .string (A7 ++ byteB nb ++ R.extract 0 q)] w1 fun e w' => e = .returned (.string (hmacB tk (A7 ++ byteB nb ++ R.extract 0 q))) ∧ S w') := HMM _ (by rw [ByteArray.size_append, ByteArray.size_append, byteB_size]; omega)
      have HM2 : Hid (∀ w1, S w1 → Calls Tryz.prog 11 #[.string tk, .string (A7 ++ byteB nb ++ t.extract 0 q)] w1 fun e w' => e = .returned (.string (hmacB tk (A7 ++ byteB nb ++ t.extract 0 q))) ∧ S w') := HMM _ (by rw [ByteArray.size_append, ByteArray.size_append, byteB_size]; omega)
      have HM3 : Hid (∀ w1, S w1 → Calls Tryz.prog 11 #[.string tk, .string (A7 ++ byteB n9 ++ R.extract 0 q)] w1 fun e w' => e = .returned (.string (hmacB tk (A7 ++ byteB n9 ++ R.extract 0 q))) ∧ S w') := HMM _ (by rw [ByteArray.size_append, ByteArray.size_append, byteB_size]; omega)
      have hP1 : Hid (b1 = true → N ≤ 200 → m / 8 < q ∧ hmacB tk (A7 ++ byteB nb ++ R.extract 0 q) = hmacB tk (A7 ++ byteB nb ++ t.extract 0 q)) := fun c hN => by
        have hnn : nb = N := by omega
        obtain ⟨c1, c2⟩ := hp1.out c
        refine ⟨by omega, ?_⟩
        rw [hnn, HZ.out N (by omega), HZ.out N (by omega)]
        unfold bodyOf at c2
        rw [ht, ← hqd] at c2
        exact c2
      have hP2 : Hid (b2 = true → N ≤ 200 → hmacB tk (A7 ++ byteB nb ++ R.extract 0 q) = hmacB tk (A7 ++ byteB n9 ++ R.extract 0 q)) := fun c hN => by
        have hnn : nb = N := by omega
        have c2 := hp2.out c
        rw [hnn, HZ.out N (by omega), HZ.out n9 (by omega)]
        unfold bodyOf at c2
        rw [← hqd] at c2
        exact c2
      have HMS := HMM
      clear HMM HMS HZ HTK
      have hz1 : (A7 ++ byteB nb).size ≤ 100 := by rw [ByteArray.size_append, byteB_size]; omega
      have hz3 : (A7 ++ byteB n9).size ≤ 100 := by rw [ByteArray.size_append, byteB_size]; omega
      have hz4 : (byteB nb).size = 1 := rfl
      have hz5 : (byteB n9).size = 1 := rfl
      generalize hmacB tk (A7 ++ byteB nb ++ R.extract 0 q) = one at HM1 hP1 hP2
      generalize hmacB tk (A7 ++ byteB nb ++ t.extract 0 q) = two at HM2 hP1
      generalize hmacB tk (A7 ++ byteB n9 ++ R.extract 0 q) = three at HM3 hP2
      have HS : Hid _ := hSS
      have HSA : Hid _ := hSA
      have hS8 : S w8 := by rw [hSS]; exact hb8
      clear hSS hSA hb8 hqd hp1 hp2 HF
      go_wp2_with fail
      have hSd := HSA.out _ (show S (w8.alloc (.cells M7 5)) by rw [HS.out] at hS8 ⊢; exact hS8.alloc hS8.size _)
      clear hS8
      generalize w8.alloc (.cells M7 5) = wr at hSd ⊢
      refine wp_region_held (S := S) (by kernel_rfl) ?_
      change wpAnyH _ _ _ _ _ _ _ _ (World.drew _)
      refine wpAnyH_take (i := 0) (v := .string tk) rfl (by kernel_rfl) (by kernel_rfl) (by kernel_rfl) (fun _ _ _ h => h) (Or.inl ⟨by rfl, by intro w' hS'; go_simp <;> (first | omega | (rw [IntKind.wrap_i64]; omega) | (rw [IntKind.wrap_u64]; omega) | (rw [IntKind.wrap_u32]; omega) | (rw [Int.tmod_eq_emod_of_nonneg (by omega)]))⟩) hSd ?_
      (try simp only [List.getElem_toArray, List.getElem_cons_succ, List.getElem_cons_zero, Act.put, List.setIfInBounds_toArray, List.set_cons_zero, List.set_cons_succ])
      refine wpAnyH_take (i := 1) (v := .string A7) rfl (by kernel_rfl) (by kernel_rfl) (by kernel_rfl) (fun _ _ _ h => h) (Or.inl ⟨by rfl, by intro w' hS'; go_simp <;> (first | omega | (rw [IntKind.wrap_i64]; omega) | (rw [IntKind.wrap_u64]; omega) | (rw [IntKind.wrap_u32]; omega) | (rw [Int.tmod_eq_emod_of_nonneg (by omega)]))⟩) hSd ?_
      (try simp only [List.getElem_toArray, List.getElem_cons_succ, List.getElem_cons_zero, Act.put, List.setIfInBounds_toArray, List.set_cons_zero, List.set_cons_succ])
      refine wpAnyH_take (i := 2) (v := .int .i64 (N : Int)) rfl (by kernel_rfl) (by kernel_rfl) (by kernel_rfl) (fun _ _ _ h => h) (Or.inl ⟨by rfl, by intro w' hS'; go_simp <;> (first | omega | (rw [IntKind.wrap_i64]; omega) | (rw [IntKind.wrap_u64]; omega) | (rw [IntKind.wrap_u32]; omega) | (rw [Int.tmod_eq_emod_of_nonneg (by omega)]))⟩) hSd ?_
      (try simp only [List.getElem_toArray, List.getElem_cons_succ, List.getElem_cons_zero, Act.put, List.setIfInBounds_toArray, List.set_cons_zero, List.set_cons_succ])
      refine wpAnyH_take (i := 3) (v := .int .u8 (nb : Int)) rfl (by kernel_rfl) (by kernel_rfl) (by kernel_rfl) (fun _ _ _ h => h) (Or.inl ⟨by rfl, by intro w' hS'; go_simp <;> (first | omega | exact hnb | (rw [IntKind.wrap_u8]; omega))⟩) hSd ?_
      (try simp only [List.getElem_toArray, List.getElem_cons_succ, List.getElem_cons_zero, Act.put, List.setIfInBounds_toArray, List.set_cons_zero, List.set_cons_succ])
      refine wpAnyH_take (i := 7) (v := .string R) rfl (by kernel_rfl) (by kernel_rfl) (by kernel_rfl) (fun _ _ _ h => h) (Or.inl ⟨by rfl, by intro w' hS'; go_simp <;> (first | omega | (rw [IntKind.wrap_i64]; omega) | (rw [IntKind.wrap_u64]; omega) | (rw [IntKind.wrap_u32]; omega) | (rw [Int.tmod_eq_emod_of_nonneg (by omega)]))⟩) hSd ?_
      (try simp only [List.getElem_toArray, List.getElem_cons_succ, List.getElem_cons_zero, Act.put, List.setIfInBounds_toArray, List.set_cons_zero, List.set_cons_succ])
      refine wpAnyH_take (i := 8) (v := .int .i64 (q : Int)) rfl (by kernel_rfl) (by kernel_rfl) (by kernel_rfl) (fun _ _ _ h => h) (Or.inl ⟨by rfl, by intro w' hS'; go_simp <;> (first | omega | (rw [IntKind.wrap_i64]; omega) | (rw [IntKind.wrap_u64]; omega) | (rw [IntKind.wrap_u32]; omega) | (rw [Int.tmod_eq_emod_of_nonneg (by omega)]))⟩) hSd ?_
      (try simp only [List.getElem_toArray, List.getElem_cons_succ, List.getElem_cons_zero, Act.put, List.setIfInBounds_toArray, List.set_cons_zero, List.set_cons_succ])
      refine wpAnyH_take (i := 9) (v := .string (R.extract 0 q)) rfl (by kernel_rfl) (by kernel_rfl) (by kernel_rfl) (fun _ _ _ h => h) (Or.inl ⟨by rfl, by intro w' hS'; go_simp <;> (first | omega | (rw [IntKind.wrap_i64]; omega) | (rw [IntKind.wrap_u64]; omega) | (rw [IntKind.wrap_u32]; omega) | (rw [Int.tmod_eq_emod_of_nonneg (by omega)]))⟩) hSd ?_
      (try simp only [List.getElem_toArray, List.getElem_cons_succ, List.getElem_cons_zero, Act.put, List.setIfInBounds_toArray, List.set_cons_zero, List.set_cons_succ])
      refine held_step (i := 4) (by kernel_rfl) rfl (by rfl) ?_
      go_simp
      have hcz := conv_byte_new wr nb (by omega)
      have hSa : S (World.drew (wr.alloc (.cells #[.int .u8 (nb : Int)] 5))) := by rw [HS.out] at hSd ⊢; exact hSd.alloc hSd.size _
      refine ⟨hSa, ?_⟩
      (try simp only [List.getElem_toArray, List.getElem_cons_succ, List.getElem_cons_zero, Act.put, List.setIfInBounds_toArray, List.set_cons_zero, List.set_cons_succ])
      refine held_step (i := 5) (by kernel_rfl) rfl (by rfl) ?_
      go_simp
      refine ⟨hSa, ?_⟩
      (try simp only [List.getElem_toArray, List.getElem_cons_succ, List.getElem_cons_zero, Act.put, List.setIfInBounds_toArray, List.set_cons_zero, List.set_cons_succ])
      refine wpAnyH_take (i := 6) (v := .string (A7 ++ byteB nb)) rfl (by kernel_rfl) (by kernel_rfl) (by kernel_rfl) (fun _ _ _ h => h) (Or.inl ⟨by rfl, by intro w' hS'; go_simp <;> (first | omega | (rw [IntKind.wrap_i64]; omega) | (rw [IntKind.wrap_u64]; omega) | (rw [IntKind.wrap_u32]; omega) | (rw [Int.tmod_eq_emod_of_nonneg (by omega)]))⟩) hSa ?_
      (try simp only [List.getElem_toArray, List.getElem_cons_succ, List.getElem_cons_zero, Act.put, List.setIfInBounds_toArray, List.set_cons_zero, List.set_cons_succ])
      refine wpAnyH_take (i := 10) (v := .string (A7 ++ byteB nb ++ R.extract 0 q)) rfl (by kernel_rfl) (by kernel_rfl) (by kernel_rfl) (fun _ _ _ h => h) (Or.inl ⟨by rfl, by intro w' hS'; go_simp <;> (first | omega | (rw [IntKind.wrap_i64]; omega) | (rw [IntKind.wrap_u64]; omega) | (rw [IntKind.wrap_u32]; omega) | (rw [Int.tmod_eq_emod_of_nonneg (by omega)]))⟩) hSa ?_
      (try simp only [List.getElem_toArray, List.getElem_cons_succ, List.getElem_cons_zero, Act.put, List.setIfInBounds_toArray, List.set_cons_zero, List.set_cons_succ])
      refine held_step (i := 11) (by kernel_rfl) rfl (by rfl) ?_
      go_simp
      refine (HM1.out _ hSa).mono ?_
      rintro e wr2 ⟨rfl, hSy⟩
      refine ⟨hSy, ?_⟩
      (try simp only [List.getElem_toArray, List.getElem_cons_succ, List.getElem_cons_zero, Act.put, List.setIfInBounds_toArray, List.set_cons_zero, List.set_cons_succ])
      refine wpAnyH_take (i := 12) (v := .string one) rfl (by kernel_rfl) (by kernel_rfl) (by kernel_rfl) (fun _ _ _ h => h) (Or.inl ⟨by rfl, by intro w' hS'; go_simp <;> (first | omega | (rw [IntKind.wrap_i64]; omega) | (rw [IntKind.wrap_u64]; omega) | (rw [IntKind.wrap_u32]; omega) | (rw [Int.tmod_eq_emod_of_nonneg (by omega)]))⟩) hSy ?_
      (try simp only [List.getElem_toArray, List.getElem_cons_succ, List.getElem_cons_zero, Act.put, List.setIfInBounds_toArray, List.set_cons_zero, List.set_cons_succ])
      refine wpAnyH_done (by kernel_rfl) ?_ _
      clear hSd hSa hcz HM1
      have hSd := HSA.out _ hSy
      clear hSy
      go_wp2_with fail
      refine wp_region_held (S := S) (by kernel_rfl) ?_
      change wpAnyH _ _ _ _ _ _ _ _ (World.drew _)
      refine wpAnyH_take (i := 0) (v := .string tk) rfl (by kernel_rfl) (by kernel_rfl) (by kernel_rfl) (fun _ _ _ h => h) (Or.inl ⟨by rfl, by intro w' hS'; go_simp <;> (first | omega | (rw [IntKind.wrap_i64]; omega) | (rw [IntKind.wrap_u64]; omega) | (rw [IntKind.wrap_u32]; omega) | (rw [Int.tmod_eq_emod_of_nonneg (by omega)]))⟩) hSd ?_
      (try simp only [List.getElem_toArray, List.getElem_cons_succ, List.getElem_cons_zero, Act.put, List.setIfInBounds_toArray, List.set_cons_zero, List.set_cons_succ])
      refine wpAnyH_take (i := 1) (v := .string A7) rfl (by kernel_rfl) (by kernel_rfl) (by kernel_rfl) (fun _ _ _ h => h) (Or.inl ⟨by rfl, by intro w' hS'; go_simp <;> (first | omega | (rw [IntKind.wrap_i64]; omega) | (rw [IntKind.wrap_u64]; omega) | (rw [IntKind.wrap_u32]; omega) | (rw [Int.tmod_eq_emod_of_nonneg (by omega)]))⟩) hSd ?_
      (try simp only [List.getElem_toArray, List.getElem_cons_succ, List.getElem_cons_zero, Act.put, List.setIfInBounds_toArray, List.set_cons_zero, List.set_cons_succ])
      refine wpAnyH_take (i := 2) (v := .int .i64 (N : Int)) rfl (by kernel_rfl) (by kernel_rfl) (by kernel_rfl) (fun _ _ _ h => h) (Or.inl ⟨by rfl, by intro w' hS'; go_simp <;> (first | omega | (rw [IntKind.wrap_i64]; omega) | (rw [IntKind.wrap_u64]; omega) | (rw [IntKind.wrap_u32]; omega) | (rw [Int.tmod_eq_emod_of_nonneg (by omega)]))⟩) hSd ?_
      (try simp only [List.getElem_toArray, List.getElem_cons_succ, List.getElem_cons_zero, Act.put, List.setIfInBounds_toArray, List.set_cons_zero, List.set_cons_succ])
      refine wpAnyH_take (i := 3) (v := .int .u8 (nb : Int)) rfl (by kernel_rfl) (by kernel_rfl) (by kernel_rfl) (fun _ _ _ h => h) (Or.inl ⟨by rfl, by intro w' hS'; go_simp <;> (first | omega | exact hnb | (rw [IntKind.wrap_u8]; omega))⟩) hSd ?_
      (try simp only [List.getElem_toArray, List.getElem_cons_succ, List.getElem_cons_zero, Act.put, List.setIfInBounds_toArray, List.set_cons_zero, List.set_cons_succ])
      refine wpAnyH_take (i := 7) (v := .string t) rfl (by kernel_rfl) (by kernel_rfl) (by kernel_rfl) (fun _ _ _ h => h) (Or.inl ⟨by rfl, by intro w' hS'; go_simp <;> (first | omega | (rw [IntKind.wrap_i64]; omega) | (rw [IntKind.wrap_u64]; omega) | (rw [IntKind.wrap_u32]; omega) | (rw [Int.tmod_eq_emod_of_nonneg (by omega)]))⟩) hSd ?_
      (try simp only [List.getElem_toArray, List.getElem_cons_succ, List.getElem_cons_zero, Act.put, List.setIfInBounds_toArray, List.set_cons_zero, List.set_cons_succ])
      refine wpAnyH_take (i := 8) (v := .int .i64 (q : Int)) rfl (by kernel_rfl) (by kernel_rfl) (by kernel_rfl) (fun _ _ _ h => h) (Or.inl ⟨by rfl, by intro w' hS'; go_simp <;> (first | omega | (rw [IntKind.wrap_i64]; omega) | (rw [IntKind.wrap_u64]; omega) | (rw [IntKind.wrap_u32]; omega) | (rw [Int.tmod_eq_emod_of_nonneg (by omega)]))⟩) hSd ?_
      (try simp only [List.getElem_toArray, List.getElem_cons_succ, List.getElem_cons_zero, Act.put, List.setIfInBounds_toArray, List.set_cons_zero, List.set_cons_succ])
      refine wpAnyH_take (i := 9) (v := .string (t.extract 0 q)) rfl (by kernel_rfl) (by kernel_rfl) (by kernel_rfl) (fun _ _ _ h => h) (Or.inl ⟨by rfl, by intro w' hS'; go_simp <;> (first | omega | (rw [IntKind.wrap_i64]; omega) | (rw [IntKind.wrap_u64]; omega) | (rw [IntKind.wrap_u32]; omega) | (rw [Int.tmod_eq_emod_of_nonneg (by omega)]))⟩) hSd ?_
      (try simp only [List.getElem_toArray, List.getElem_cons_succ, List.getElem_cons_zero, Act.put, List.setIfInBounds_toArray, List.set_cons_zero, List.set_cons_succ])
      refine held_step (i := 4) (by kernel_rfl) rfl (by rfl) ?_
      go_simp
      have hcz := conv_byte_new wr2 nb (by omega)
      have hSa : S (World.drew (wr2.alloc (.cells #[.int .u8 (nb : Int)] 5))) := by rw [HS.out] at hSd ⊢; exact hSd.alloc hSd.size _
      refine ⟨hSa, ?_⟩
      (try simp only [List.getElem_toArray, List.getElem_cons_succ, List.getElem_cons_zero, Act.put, List.setIfInBounds_toArray, List.set_cons_zero, List.set_cons_succ])
      refine held_step (i := 5) (by kernel_rfl) rfl (by rfl) ?_
      go_simp
      refine ⟨hSa, ?_⟩
      (try simp only [List.getElem_toArray, List.getElem_cons_succ, List.getElem_cons_zero, Act.put, List.setIfInBounds_toArray, List.set_cons_zero, List.set_cons_succ])
      refine wpAnyH_take (i := 6) (v := .string (A7 ++ byteB nb)) rfl (by kernel_rfl) (by kernel_rfl) (by kernel_rfl) (fun _ _ _ h => h) (Or.inl ⟨by rfl, by intro w' hS'; go_simp <;> (first | omega | (rw [IntKind.wrap_i64]; omega) | (rw [IntKind.wrap_u64]; omega) | (rw [IntKind.wrap_u32]; omega) | (rw [Int.tmod_eq_emod_of_nonneg (by omega)]))⟩) hSa ?_
      (try simp only [List.getElem_toArray, List.getElem_cons_succ, List.getElem_cons_zero, Act.put, List.setIfInBounds_toArray, List.set_cons_zero, List.set_cons_succ])
      refine wpAnyH_take (i := 10) (v := .string (A7 ++ byteB nb ++ t.extract 0 q)) rfl (by kernel_rfl) (by kernel_rfl) (by kernel_rfl) (fun _ _ _ h => h) (Or.inl ⟨by rfl, by intro w' hS'; go_simp <;> (first | omega | (rw [IntKind.wrap_i64]; omega) | (rw [IntKind.wrap_u64]; omega) | (rw [IntKind.wrap_u32]; omega) | (rw [Int.tmod_eq_emod_of_nonneg (by omega)]))⟩) hSa ?_
      (try simp only [List.getElem_toArray, List.getElem_cons_succ, List.getElem_cons_zero, Act.put, List.setIfInBounds_toArray, List.set_cons_zero, List.set_cons_succ])
      refine held_step (i := 11) (by kernel_rfl) rfl (by rfl) ?_
      go_simp
      refine (HM2.out _ hSa).mono ?_
      rintro e wr3 ⟨rfl, hSy⟩
      refine ⟨hSy, ?_⟩
      (try simp only [List.getElem_toArray, List.getElem_cons_succ, List.getElem_cons_zero, Act.put, List.setIfInBounds_toArray, List.set_cons_zero, List.set_cons_succ])
      refine wpAnyH_take (i := 12) (v := .string two) rfl (by kernel_rfl) (by kernel_rfl) (by kernel_rfl) (fun _ _ _ h => h) (Or.inl ⟨by rfl, by intro w' hS'; go_simp <;> (first | omega | (rw [IntKind.wrap_i64]; omega) | (rw [IntKind.wrap_u64]; omega) | (rw [IntKind.wrap_u32]; omega) | (rw [Int.tmod_eq_emod_of_nonneg (by omega)]))⟩) hSy ?_
      (try simp only [List.getElem_toArray, List.getElem_cons_succ, List.getElem_cons_zero, Act.put, List.setIfInBounds_toArray, List.set_cons_zero, List.set_cons_succ])
      refine wpAnyH_done (by kernel_rfl) ?_ _
      clear hSd hSa hcz HM2
      have hSd := HSA.out _ hSy
      clear hSy
      go_wp2_with fail
      refine wp_region_held (S := S) (by kernel_rfl) ?_
      change wpAnyH _ _ _ _ _ _ _ _ (World.drew _)
      refine wpAnyH_take (i := 0) (v := .string tk) rfl (by kernel_rfl) (by kernel_rfl) (by kernel_rfl) (fun _ _ _ h => h) (Or.inl ⟨by rfl, by intro w' hS'; go_simp <;> (first | omega | (rw [IntKind.wrap_i64]; omega) | (rw [IntKind.wrap_u64]; omega) | (rw [IntKind.wrap_u32]; omega) | (rw [Int.tmod_eq_emod_of_nonneg (by omega)]))⟩) hSd ?_
      (try simp only [List.getElem_toArray, List.getElem_cons_succ, List.getElem_cons_zero, Act.put, List.setIfInBounds_toArray, List.set_cons_zero, List.set_cons_succ])
      refine wpAnyH_take (i := 1) (v := .string A7) rfl (by kernel_rfl) (by kernel_rfl) (by kernel_rfl) (fun _ _ _ h => h) (Or.inl ⟨by rfl, by intro w' hS'; go_simp <;> (first | omega | (rw [IntKind.wrap_i64]; omega) | (rw [IntKind.wrap_u64]; omega) | (rw [IntKind.wrap_u32]; omega) | (rw [Int.tmod_eq_emod_of_nonneg (by omega)]))⟩) hSd ?_
      (try simp only [List.getElem_toArray, List.getElem_cons_succ, List.getElem_cons_zero, Act.put, List.setIfInBounds_toArray, List.set_cons_zero, List.set_cons_succ])
      refine wpAnyH_take (i := 2) (v := .int .i64 (N : Int)) rfl (by kernel_rfl) (by kernel_rfl) (by kernel_rfl) (fun _ _ _ h => h) (Or.inl ⟨by rfl, by intro w' hS'; go_simp <;> (first | omega | (rw [IntKind.wrap_i64]; omega) | (rw [IntKind.wrap_u64]; omega) | (rw [IntKind.wrap_u32]; omega) | (rw [Int.tmod_eq_emod_of_nonneg (by omega)]))⟩) hSd ?_
      (try simp only [List.getElem_toArray, List.getElem_cons_succ, List.getElem_cons_zero, Act.put, List.setIfInBounds_toArray, List.set_cons_zero, List.set_cons_succ])
      refine wpAnyH_take (i := 3) (v := .int .i64 ((N : Int) + 1)) rfl (by kernel_rfl) (by kernel_rfl) (by kernel_rfl) (fun _ _ _ h => h) (Or.inl ⟨by rfl, by intro w' hS'; go_simp <;> (first | omega | (rw [IntKind.wrap_i64]; omega) | (rw [IntKind.wrap_u64]; omega) | (rw [IntKind.wrap_u32]; omega) | (rw [Int.tmod_eq_emod_of_nonneg (by omega)]))⟩) hSd ?_
      (try simp only [List.getElem_toArray, List.getElem_cons_succ, List.getElem_cons_zero, Act.put, List.setIfInBounds_toArray, List.set_cons_zero, List.set_cons_succ])
      refine wpAnyH_take (i := 4) (v := .int .i64 (n9 : Int)) rfl (by kernel_rfl) (by kernel_rfl) (by kernel_rfl) (fun _ _ _ h => h) (Or.inl ⟨by rfl, by intro w' hS'; go_simp <;> (first | omega | exact hn9 | (rw [Int.tmod_eq_emod_of_nonneg (by omega)]; omega))⟩) hSd ?_
      (try simp only [List.getElem_toArray, List.getElem_cons_succ, List.getElem_cons_zero, Act.put, List.setIfInBounds_toArray, List.set_cons_zero, List.set_cons_succ])
      refine wpAnyH_take (i := 5) (v := .int .u8 (n9 : Int)) rfl (by kernel_rfl) (by kernel_rfl) (by kernel_rfl) (fun _ _ _ h => h) (Or.inl ⟨by rfl, by intro w' hS'; go_simp <;> (first | omega | exact hnb | (rw [IntKind.wrap_u8]; omega))⟩) hSd ?_
      (try simp only [List.getElem_toArray, List.getElem_cons_succ, List.getElem_cons_zero, Act.put, List.setIfInBounds_toArray, List.set_cons_zero, List.set_cons_succ])
      refine wpAnyH_take (i := 9) (v := .string R) rfl (by kernel_rfl) (by kernel_rfl) (by kernel_rfl) (fun _ _ _ h => h) (Or.inl ⟨by rfl, by intro w' hS'; go_simp <;> (first | omega | (rw [IntKind.wrap_i64]; omega) | (rw [IntKind.wrap_u64]; omega) | (rw [IntKind.wrap_u32]; omega) | (rw [Int.tmod_eq_emod_of_nonneg (by omega)]))⟩) hSd ?_
      (try simp only [List.getElem_toArray, List.getElem_cons_succ, List.getElem_cons_zero, Act.put, List.setIfInBounds_toArray, List.set_cons_zero, List.set_cons_succ])
      refine wpAnyH_take (i := 10) (v := .int .i64 (q : Int)) rfl (by kernel_rfl) (by kernel_rfl) (by kernel_rfl) (fun _ _ _ h => h) (Or.inl ⟨by rfl, by intro w' hS'; go_simp <;> (first | omega | (rw [IntKind.wrap_i64]; omega) | (rw [IntKind.wrap_u64]; omega) | (rw [IntKind.wrap_u32]; omega) | (rw [Int.tmod_eq_emod_of_nonneg (by omega)]))⟩) hSd ?_
      (try simp only [List.getElem_toArray, List.getElem_cons_succ, List.getElem_cons_zero, Act.put, List.setIfInBounds_toArray, List.set_cons_zero, List.set_cons_succ])
      refine wpAnyH_take (i := 11) (v := .string (R.extract 0 q)) rfl (by kernel_rfl) (by kernel_rfl) (by kernel_rfl) (fun _ _ _ h => h) (Or.inl ⟨by rfl, by intro w' hS'; go_simp <;> (first | omega | (rw [IntKind.wrap_i64]; omega) | (rw [IntKind.wrap_u64]; omega) | (rw [IntKind.wrap_u32]; omega) | (rw [Int.tmod_eq_emod_of_nonneg (by omega)]))⟩) hSd ?_
      (try simp only [List.getElem_toArray, List.getElem_cons_succ, List.getElem_cons_zero, Act.put, List.setIfInBounds_toArray, List.set_cons_zero, List.set_cons_succ])
      refine held_step (i := 6) (by kernel_rfl) rfl (by rfl) ?_
      go_simp
      have hcz := conv_byte_new wr3 n9 (by omega)
      have hSa : S (World.drew (wr3.alloc (.cells #[.int .u8 (n9 : Int)] 5))) := by rw [HS.out] at hSd ⊢; exact hSd.alloc hSd.size _
      refine ⟨hSa, ?_⟩
      (try simp only [List.getElem_toArray, List.getElem_cons_succ, List.getElem_cons_zero, Act.put, List.setIfInBounds_toArray, List.set_cons_zero, List.set_cons_succ])
      refine held_step (i := 7) (by kernel_rfl) rfl (by rfl) ?_
      go_simp
      refine ⟨hSa, ?_⟩
      (try simp only [List.getElem_toArray, List.getElem_cons_succ, List.getElem_cons_zero, Act.put, List.setIfInBounds_toArray, List.set_cons_zero, List.set_cons_succ])
      refine wpAnyH_take (i := 8) (v := .string (A7 ++ byteB n9)) rfl (by kernel_rfl) (by kernel_rfl) (by kernel_rfl) (fun _ _ _ h => h) (Or.inl ⟨by rfl, by intro w' hS'; go_simp <;> (first | omega | (rw [IntKind.wrap_i64]; omega) | (rw [IntKind.wrap_u64]; omega) | (rw [IntKind.wrap_u32]; omega) | (rw [Int.tmod_eq_emod_of_nonneg (by omega)]))⟩) hSa ?_
      (try simp only [List.getElem_toArray, List.getElem_cons_succ, List.getElem_cons_zero, Act.put, List.setIfInBounds_toArray, List.set_cons_zero, List.set_cons_succ])
      refine wpAnyH_take (i := 12) (v := .string (A7 ++ byteB n9 ++ R.extract 0 q)) rfl (by kernel_rfl) (by kernel_rfl) (by kernel_rfl) (fun _ _ _ h => h) (Or.inl ⟨by rfl, by intro w' hS'; go_simp <;> (first | omega | (rw [IntKind.wrap_i64]; omega) | (rw [IntKind.wrap_u64]; omega) | (rw [IntKind.wrap_u32]; omega) | (rw [Int.tmod_eq_emod_of_nonneg (by omega)]))⟩) hSa ?_
      (try simp only [List.getElem_toArray, List.getElem_cons_succ, List.getElem_cons_zero, Act.put, List.setIfInBounds_toArray, List.set_cons_zero, List.set_cons_succ])
      refine held_step (i := 13) (by kernel_rfl) rfl (by rfl) ?_
      go_simp
      refine (HM3.out _ hSa).mono ?_
      rintro e wr4 ⟨rfl, hSy⟩
      refine ⟨hSy, ?_⟩
      (try simp only [List.getElem_toArray, List.getElem_cons_succ, List.getElem_cons_zero, Act.put, List.setIfInBounds_toArray, List.set_cons_zero, List.set_cons_succ])
      refine wpAnyH_take (i := 14) (v := .string three) rfl (by kernel_rfl) (by kernel_rfl) (by kernel_rfl) (fun _ _ _ h => h) (Or.inl ⟨by rfl, by intro w' hS'; go_simp <;> (first | omega | (rw [IntKind.wrap_i64]; omega) | (rw [IntKind.wrap_u64]; omega) | (rw [IntKind.wrap_u32]; omega) | (rw [Int.tmod_eq_emod_of_nonneg (by omega)]))⟩) hSy ?_
      (try simp only [List.getElem_toArray, List.getElem_cons_succ, List.getElem_cons_zero, Act.put, List.setIfInBounds_toArray, List.set_cons_zero, List.set_cons_succ])
      refine wpAnyH_done (by kernel_rfl) ?_ _
      clear hSd hSa hcz HM3
      have hfin : Below w.heap.size w wr4 := by have h := hSy; rw [HS.out] at h; exact h
      by_cases h200 : 200 < N
      · have h200' : (200 : Int) < (N : Int) := by omega
        go_wp2_with fail
        go_ret
        exact ⟨rfl, hfin⟩
      · have h200' : ¬ (200 : Int) < (N : Int) := by omega
        cases b1 with
        | true =>
          obtain ⟨hmq, e1⟩ := hP1.out rfl (by omega)
          have hmq' : (m : Int) / 8 < (q : Int) := by omega
          subst e1
          cases b2 with
          | true =>
            have e2 := hP2.out rfl (by omega)
            subst e2
            clear hP1 hP2
            go_wp2_with fail
            go_ret
            exact ⟨rfl, hfin⟩
          | false =>
            clear hP1 hP2
            go_wp2_with fail
            go_ret
            exact ⟨rfl, hfin⟩
        | false =>
          cases b2 with
          | true =>
            have e2 := hP2.out rfl (by omega)
            subst e2
            clear hP1 hP2
            go_wp2_with fail
            go_ret
            exact ⟨rfl, hfin⟩
          | false =>
            clear hP1 hP2
            go_wp2_with fail
            go_ret
            exact ⟨rfl, hfin⟩
    · have HA : Hid (∀ w, SF w a → Calls Tryz.prog 6 #[.string k, .int .i64 n, .string s] w fun e w' => e = .returned (.tuple #[.string ⟨#[]⟩, .bool false]) ∧ Below w.heap.size w w') := fun w hF => seal_no k s n a w hF h
      have HB : Hid (∀ w, Calls Tryz.prog 7 #[.string k, .int .i64 n, .string s] w fun e w' => e = .returned (.tuple #[.string ⟨#[]⟩, .bool false]) ∧ Below w.heap.size w w') := fun w => sseal_no k s n w h
      clear h hk hn1 hn2
      go_wp2_with fail
      refine (HA.out _ (HF.out.below hb2)).mono ?_
      rintro e w3 ⟨rfl, hb3⟩
      replace hb3 := bl_trans hb2 hb3 hb2.size
      clear hb2
      go_wp2_with fail
      refine (HB.out _).mono ?_
      rintro e w4 ⟨rfl, hb4⟩
      replace hb4 := bl_trans hb3 hb4 hb3.size
      clear hb3
      go_wp2_with fail
      go_ret
      exact ⟨rfl, hb4⟩

set_option maxRecDepth 100000 in
theorem lifted (os : Os) (started : os.Started) (H : Type) (enc : TypeId × Value → H) :
    ReturnsInHanded {} Tryz.checked os 3 .any (fun w args => (Rows.fnSealHurtSpec.pre enc Tryz.prog Tryz.f3 [] false w args ∧ laidMetH Tryz.prog [("loop.example/g00228/impl.roundWords", Rows.laid_loop_example_g00228_impl_roundWords), ("loop.example/g00228/impl.errRefused", Rows.laid_loop_example_g00228_impl_errRefused)] w) ∧ sizedMet enc Tryz.prog Tryz.f3 (OpenSpec.ofChange Rows.fnSealHurtSpec) false w args) (Rows.fnSealHurtSpec.post enc Tryz.prog Tryz.f3 false true false false) := by
  refine returnsInHanded_of_change_and (C := Tryz.checked) (X := fun w _ => laidMetH Tryz.prog [("loop.example/g00228/impl.roundWords", Rows.laid_loop_example_g00228_impl_roundWords), ("loop.example/g00228/impl.errRefused", Rows.laid_loop_example_g00228_impl_errRefused)] w) (fun _ _ _ hh h => h.of_heap hh) own started (by kernel_rfl) Tryz.func3
    (ChangeSpec.witness_shaped (enc := enc) (C := Tryz.checked) (os := os) (X := fun w _ => laidMetH Tryz.prog [("loop.example/g00228/impl.roundWords", Rows.laid_loop_example_g00228_impl_roundWords), ("loop.example/g00228/impl.errRefused", Rows.laid_loop_example_g00228_impl_errRefused)] w) false (World.doorLaid Tryz.prog 400 os) #[.slice none 0 0] 8 rfl (World.shaped_of_RefB (by kernel_rfl) (by kernel_rfl)) (by kernel_rfl) (by kernel_rfl) (by kernel_rfl) (door_met os _)) ?_
  intro W base args ds gs before hval0 hW _ _ hL _
  have hval : ∀ (j : Nat) t v, Tryz.f3.params[j]? = some t → args[j]? = some v → Value.okWide Tryz.prog W .any base t v := hval0
  have hW' := hW
  obtain ⟨p, q, hA0, hV, rfl, hfz, hnd⟩ := hW
  have hA : DataW.TrodAll enc Tryz.prog W 0 (fun _ => true) true Tryz.f3.params.toList args.toList ds p := hA0
  rw [Tryz.params3] at hA hval
  obtain ⟨v0, vs0, d0, ds0, p0, q0, hargs, rfl, rfl, h0, r0⟩ := trodAll_cons hA
  obtain ⟨rfl, rfl, rfl⟩ := trodAll_nil r0
  obtain rfl : args = #[v0] := by cases args; simp_all
  have hV1 : DataW.TrodVars enc Tryz.prog W (fun _ => true) ["loop.example/g00228/impl.errRefused", "loop.example/g00228/impl.roundWords"] gs q := hV
  have hV2 := hV1
  obtain ⟨_, _, _, _, dV0, _, _, _, _, _, dV1, _, hgs, _⟩ := trodVars_two hV2
  subst hgs
  obtain ⟨aE, hSF⟩ := of_laid hL
  obtain ⟨a0, len0, cap0, rfl⟩ := okWide_slice Tryz.underlying22 (hval 0 22 v0 rfl rfl)
  have k0 := h0
  have lt0 : ∀ x ∈ p0, x.block < W.heap.size := by obtain ⟨m, hm⟩ := k0; exact DataW.trod_lt m _ _ _ hm
  obtain ⟨z0, w0⟩ : ∃ zs, IsRow .u8 W a0 len0 cap0 zs := by
    obtain ⟨fuel, hf⟩ := h0
    rcases open_ints Tryz.underlying22 Tryz.underlying5 (by kernel_rfl) hf with ⟨hcs, _⟩ | ⟨x, l, c, zs, hcs, _, hl, hm, hz, _, hcell, hwz⟩
    · simp [Value.cells] at hcs
      obtain ⟨rfl, rfl, rfl⟩ := hcs
      exact ⟨[], .inl ⟨rfl, rfl, rfl, rfl⟩⟩
    · simp [Value.cells] at hcs
      obtain ⟨rfl, rfl, rfl⟩ := hcs
      exact ⟨zs, .inr ⟨_, rfl, hl, hm, by simpa using hz, hcell, hwz⟩⟩
  clear hA0 hval0
  refine (walk a0 len0 cap0 z0 W w0 aE hSF).mono fun e W' ⟨he, bel⟩ => ?_
  subst he
  exact ⟨_, rfl, _, _, _, [], _, _, hW', trodAll_mk1 (shut_bool Tryz.underlying4 _), (trodAll_cons_mk (Below.trod laidOut (by kernel_rfl) (of_decide_eq_true (by kernel_rfl)) k0 bel lt0) trodAll_mk0), Below.trodVars cLaidOut bel (by kernel_rfl) hV1, bel.frame _, fun h => by cases h⟩

theorem over : Rows.fnSealHurtRow.holds Tryz.pinned (OpenSpec.ofChange Rows.fnSealHurtSpec) :=
  OpenClaim.holds_of_wide 3 Tryz.f3 rfl rfl rfl rfl rfl rfl rfl ⟨rfl, rfl, rfl, rfl, rfl⟩ rfl rfl rfl rfl rfl (by kernel_rfl) Tryz.func3 (by kernel_rfl)
    (of_decide_eq_true (by kernel_rfl)) (by unfold Func.isWrapper; first | (rw [if_pos (by decide +kernel)]; kernel_rfl) | (rw [if_neg (by decide +kernel)]; exact ⟨rfl, rfl⟩))
    (fun os started H enc _ => lifted os started H enc)

theorem proved : Rows.FnSealHurtCardSaid :=
  Claim7.holds_tied_plain_at .later [] [.data, .sentinel] true (true, "f02d440dc211a8525643501c45bff44b186bd75b833b9c5c93e8e62ea4d8959c") true
    over (fun _ h => by cases h) (by kernel_rfl) (fun _ h => by cases h) fnSealHurt_row_tie rfl ⟨rfl, rfl⟩ (by kernel_rfl) rfl
    (fun f fn hf hfn => by
      obtain rfl : f = 3 := Option.some.inj ((show Tryz.prog.funcNamed "loop.example/g00228/laws.FnSealHurt" = some 3 by kernel_rfl).symm.trans hf) |>.symm
      obtain rfl : fn = Tryz.f3 := (Option.some.inj (Tryz.func3.symm.trans hfn)).symm
      exact ⟨by kernel_rfl, fun j t ht => by
        have hall : Tryz.f3.params.all (fun t => Tryz.prog.wantsStandIn t == false) = true := by kernel_rfl
        obtain ⟨hj, rfl⟩ := Array.getElem?_eq_some_iff.1 ht
        exact beq_iff_eq.1 (Array.all_eq_true.1 hall j hj)⟩)
    (by kernel_rfl)
#print axioms proved
end Go.Proofs.YtnkahdidelhdaacGreatDoor.fnSealHurt
