/-
  The block of members: the specification's.
-/
import Derived.Test.YtbkjcngehhdchaaPk21
import Derived.Test.YtbkjcngehhdchaaPk04
namespace Go.Proofs.Ytbkjcngehhdchaa
open Go.RowKit
set_option linter.unusedVariables false
set_option linter.unusedSimpArgs false
set_option maxRecDepth 100000 in
set_option maxHeartbeats 4000000 in
theorem sso_yes (a : Option Addr) (c n : Nat) (F : Nat → MbI) (w : World) (hF : MbLe F n) (hok : mbR F n) (hr : 0 < n → ∃ g, a = some ⟨g, 0, none⟩ ∧ MbRow w g n F) :
    Calls Try.prog 9 #[.slice a n c] w fun e w' => e = .returned (.tuple #[.string (soV F n), .bool true]) ∧ Below w.heap.size w w' := by
  have hnI : (n : Int) ≤ 60 := by have := hok.1; omega
  have HK : Hid (∀ w, MbArg w (.slice a n c) n F → Calls Try.prog 25 #[.slice a n c] w fun e w' => e = .returned (.bool true) ∧ Below w.heap.size w w') := fun w h => by
    have h2 := smbs_any (.slice a n c) n F w hF h
    rw [mbB_yes hok] at h2
    exact h2
  have HP : Hid (∀ (m : Nat) w, m < 9223372036854775808 → Calls Try.prog 26 #[.int .i64 (m : Int)] w fun e w' => e = .returned (.string (pmB m)) ∧ Below w.heap.size w w') := fun m w h => smPut_any m w h
  have HPT : Hid (∀ (s : ByteArray) w, s.size ≤ 1100000 → Calls Try.prog 27 #[.string s] w fun e w' => e = .returned (.string (putTextOut s)) ∧ Below w.heap.size w w') := fun s w h => sputText_any s w (by omega)
  have HPK : Hid (∀ (s : ByteArray) w, s.size ≤ 4000 → Calls Try.prog 28 #[.string s] w fun e w' => e = .returned (.tuple #[.string (pckB s), .bool true]) ∧ Below w.heap.size w w') := fun s w h => spack_yes s w h
  have HC : Hid (∀ (s : ByteArray) w, s.size ≤ 4000 → Calls Try.prog 30 #[.string s] w fun e w' => e = .returned (.int .u32 ((crc32 s : Nat) : Int)) ∧ w' = w) := fun s w h => scrc32_any s w (by unfold maxLen; omega)
  have HBG : Hid (∀ (s : ByteArray) w, Calls Try.prog 29 #[.int .u64 ((crc32 s : Nat) : Int), .int .i64 4] w fun e w' => e = .returned (.string (sumB s)) ∧ Below w.heap.size w w') := fun s w => sbig_any (crc32 s) 4 w (by have := crc_lt s; omega) (by decide) (by decide)
  have HR : Hid (∀ w', Below w.heap.size w w' → 0 < n → ∃ g, a = some ⟨g, 0, none⟩ ∧ MbRow w' g n F ∧ g < w.heap.size) := fun w' hb h0 => by
    obtain ⟨g, h1, h2⟩ := hr h0
    exact ⟨g, h1, h2.below hb h2.lt, h2.lt⟩
  have HA : Hid (MbArg w (.slice a n c) n F) := ⟨a, c, rfl, hr⟩
  have HO : Hid (mbR F n ∧ ∀ i, i < n → (F i).d.size ≤ 1100000) := ⟨hok, fun i hi => (hF.n hi).2⟩
  have hpn := pmB_size (n := n) (by omega)
  clear hr hok hF
  go_enter Try.func9, Try.ntmps9
  go_wp2_with fail
  refine (HK.out _ HA.out).mono ?_
  rintro e w1 ⟨rfl, hb1⟩
  have HB1 : Hid (Below w.heap.size w w1) := hb1
  clear hb1 HA HK
  go_wp2_with fail
  refine (HP.out n _ (by omega)).mono ?_
  rintro e w2 ⟨rfl, hb2⟩
  have HB3 : Hid (Below w.heap.size w w2) := blMb HB1.out hb2 HB1.out.size
  clear hb2 HB1
  go_wp2_with fail
  go_loopw [4, 5, 6] (fun u x v wr => ∃ (i : Nat), i ≤ n ∧ v = .int .i64 (i : Int) ∧ u = .string (soB F n i) ∧ x = .string (alB F i) ∧ Hid (Below w.heap.size w wr)) (fun _ _ v _ => n - (intMb v).toNat)
  case atStart => exact ⟨0, by omega, rfl, rfl, rfl, HB3⟩
  case round =>
    clear HB3
    obtain ⟨i, hi, rfl, rfl, rfl, HB⟩ := hrel
    by_cases hlt : i < n
    · have hltI : (i : Int) < (n : Int) := by omega
      obtain ⟨g, rfl, hrow, hgl⟩ := HR.out _ HB.out (by omega)
      have HGL : Hid (g < w.heap.size) := hgl
      obtain ⟨q, hq⟩ : ∃ q, q = 2 * i := ⟨_, rfl⟩
      have x0 := hrow.c0 i hlt
      have x1 := hrow.c1 i hlt
      rw [← hq] at x0 x1
      have hiq : i * 2 = q := by omega
      have hp := HO.out.1.2.1 i hlt
      have hdi := HO.out.2 i hlt
      have hle := soB_size (F := F) (n := n) (by omega) HO.out.1.2.1 HO.out.2 i (by omega)
      have hle2 : (soB F n i).size ≤ 1000000 := by omega
      have hal : (alB F i).size ≤ 4000 := by rw [alB_size]; have h1 := mbSum_mono F (i := i) (n := n) (by omega); have h2 := HO.out.1.2.2.1; omega
      have HN : Hid (soB F n (i + 1) = (soB F n i ++ putTextOut (F i).a) ++ pmB (F i).d.size) := rfl
      have HL : Hid (alB F (i + 1) = alB F i ++ (F i).d) := rfl
      clear hrow hq hle hgl
      generalize F i = p at x0 x1 hp HN HL hdi
      generalize soB F n i = acc at hle2 HN ⊢
      generalize alB F i = al at hal HL ⊢
      obtain ⟨pa, d⟩ := p
      simp only at x0 x1 hdi HN HL
      have hpa : pa.size ≤ 120 := hp.2
      have htx := pmT_size (s := pa) (by omega)
      have hpd := pmB_size (n := d.size) (by omega)
      have hs1 := ByteArray.size_append (a := acc) (b := putTextOut pa)
      have hs2 := ByteArray.size_append (a := acc ++ putTextOut pa) (b := pmB d.size)
      have hs3 := ByteArray.size_append (a := al) (b := d)
      obtain ⟨S, hSS⟩ : ∃ S : World → Prop, S = fun w' => Below w.heap.size w w' := ⟨_, rfl⟩
      have HS : Hid _ := hSS
      have hSd : S wr.drew := by rw [hSS]; exact HB.out.drew
      have HX : Hid (∀ w', S w' → w'.cell? ⟨g, q, none⟩ = some (.string pa) ∧ w'.cell? ⟨g, q + 1, none⟩ = some (.string d)) := fun w' hw' => by
        rw [hSS] at hw'
        exact ⟨(hw'.cell (p := ⟨g, q, none⟩) HGL.out).trans ((HB.out.cell (p := ⟨g, q, none⟩) HGL.out).symm.trans x0), (hw'.cell (p := ⟨g, q + 1, none⟩) HGL.out).trans ((HB.out.cell (p := ⟨g, q + 1, none⟩) HGL.out).symm.trans x1)⟩
      clear hp hSS x0 x1
      go_wp2_with fail
      refine wp_region_held (S := S) (by kernel_rfl) ?_
      change wpAnyH _ _ _ _ _ _ _ _ (World.drew _)
      refine wpAnyH_take (i := 0) (v := .string acc) rfl (by kernel_rfl) (by kernel_rfl) (by kernel_rfl) (fun _ _ _ h => h) (Or.inl ⟨by rfl, by intro w' hS'; go_simp <;> (first | omega | (rw [IntKind.wrap_i64]; omega) | (rw [IntKind.wrap_u64]; omega) | (rw [IntKind.wrap_u32]; omega) | (rw [Int.tmod_eq_emod_of_nonneg (by omega)]) | rfl)⟩) hSd ?_
      (try simp only [List.getElem_toArray, List.getElem_cons_succ, List.getElem_cons_zero, Act.put, List.setIfInBounds_toArray, List.set_cons_zero, List.set_cons_succ])
      refine wpAnyH_take (i := 1) (v := .slice (some ⟨g, 0, none⟩) n c) rfl (by kernel_rfl) (by kernel_rfl) (by kernel_rfl) (fun _ _ _ h => h) (Or.inl ⟨by rfl, by intro w' hS'; go_simp <;> (first | omega | (rw [IntKind.wrap_i64]; omega) | (rw [IntKind.wrap_u64]; omega) | (rw [IntKind.wrap_u32]; omega) | (rw [Int.tmod_eq_emod_of_nonneg (by omega)]) | rfl)⟩) hSd ?_
      (try simp only [List.getElem_toArray, List.getElem_cons_succ, List.getElem_cons_zero, Act.put, List.setIfInBounds_toArray, List.set_cons_zero, List.set_cons_succ])
      refine wpAnyH_take (i := 2) (v := .int .i64 (i : Int)) rfl (by kernel_rfl) (by kernel_rfl) (by kernel_rfl) (fun _ _ _ h => h) (Or.inl ⟨by rfl, by intro w' hS'; go_simp <;> (first | omega | (rw [IntKind.wrap_i64]; omega) | (rw [IntKind.wrap_u64]; omega) | (rw [IntKind.wrap_u32]; omega) | (rw [Int.tmod_eq_emod_of_nonneg (by omega)]) | rfl)⟩) hSd ?_
      (try simp only [List.getElem_toArray, List.getElem_cons_succ, List.getElem_cons_zero, Act.put, List.setIfInBounds_toArray, List.set_cons_zero, List.set_cons_succ])
      refine wpAnyH_take (i := 3) (v := .pointer (some ⟨g, q, none⟩)) rfl (by kernel_rfl) (by kernel_rfl) (by kernel_rfl) (fun _ _ _ h => h) (Or.inl ⟨by rfl, by intro w' hS'; go_simp <;> (first | omega | (rw [IntKind.wrap_i64]; omega) | (rw [IntKind.wrap_u64]; omega) | (rw [IntKind.wrap_u32]; omega) | (rw [Int.tmod_eq_emod_of_nonneg (by omega)]) | rfl)⟩) hSd ?_
      (try simp only [List.getElem_toArray, List.getElem_cons_succ, List.getElem_cons_zero, Act.put, List.setIfInBounds_toArray, List.set_cons_zero, List.set_cons_succ])
      refine wpAnyH_take (i := 4) (v := .pointer (some ⟨g, q, none⟩)) rfl (by kernel_rfl) (by kernel_rfl) (by kernel_rfl) (fun _ _ _ h => h) (Or.inl ⟨by rfl, by intro w' hS'; go_simp <;> (first | omega | (rw [IntKind.wrap_i64]; omega) | (rw [IntKind.wrap_u64]; omega) | (rw [IntKind.wrap_u32]; omega) | (rw [Int.tmod_eq_emod_of_nonneg (by omega)]) | rfl)⟩) hSd ?_
      (try simp only [List.getElem_toArray, List.getElem_cons_succ, List.getElem_cons_zero, Act.put, List.setIfInBounds_toArray, List.set_cons_zero, List.set_cons_succ])
      refine wpAnyH_take (i := 5) (v := .string pa) rfl (by kernel_rfl) (by kernel_rfl) (by kernel_rfl) (fun _ _ _ h => h) (Or.inl ⟨by rfl, by intro w' hS'; obtain ⟨k5, k6⟩ := HX.out w' hS'; go_simp <;> (first | omega | (rw [IntKind.wrap_i64]; omega) | (rw [IntKind.wrap_u64]; omega) | (rw [IntKind.wrap_u32]; omega) | (rw [Int.tmod_eq_emod_of_nonneg (by omega)]) | rfl)⟩) hSd ?_
      (try simp only [List.getElem_toArray, List.getElem_cons_succ, List.getElem_cons_zero, Act.put, List.setIfInBounds_toArray, List.set_cons_zero, List.set_cons_succ])
      refine wpAnyH_take (i := 8) (v := .slice (some ⟨g, 0, none⟩) n c) rfl (by kernel_rfl) (by kernel_rfl) (by kernel_rfl) (fun _ _ _ h => h) (Or.inl ⟨by rfl, by intro w' hS'; go_simp <;> (first | omega | (rw [IntKind.wrap_i64]; omega) | (rw [IntKind.wrap_u64]; omega) | (rw [IntKind.wrap_u32]; omega) | (rw [Int.tmod_eq_emod_of_nonneg (by omega)]) | rfl)⟩) hSd ?_
      (try simp only [List.getElem_toArray, List.getElem_cons_succ, List.getElem_cons_zero, Act.put, List.setIfInBounds_toArray, List.set_cons_zero, List.set_cons_succ])
      refine wpAnyH_take (i := 9) (v := .int .i64 (i : Int)) rfl (by kernel_rfl) (by kernel_rfl) (by kernel_rfl) (fun _ _ _ h => h) (Or.inl ⟨by rfl, by intro w' hS'; go_simp <;> (first | omega | (rw [IntKind.wrap_i64]; omega) | (rw [IntKind.wrap_u64]; omega) | (rw [IntKind.wrap_u32]; omega) | (rw [Int.tmod_eq_emod_of_nonneg (by omega)]) | rfl)⟩) hSd ?_
      (try simp only [List.getElem_toArray, List.getElem_cons_succ, List.getElem_cons_zero, Act.put, List.setIfInBounds_toArray, List.set_cons_zero, List.set_cons_succ])
      refine wpAnyH_take (i := 10) (v := .pointer (some ⟨g, q, none⟩)) rfl (by kernel_rfl) (by kernel_rfl) (by kernel_rfl) (fun _ _ _ h => h) (Or.inl ⟨by rfl, by intro w' hS'; go_simp <;> (first | omega | (rw [IntKind.wrap_i64]; omega) | (rw [IntKind.wrap_u64]; omega) | (rw [IntKind.wrap_u32]; omega) | (rw [Int.tmod_eq_emod_of_nonneg (by omega)]) | rfl)⟩) hSd ?_
      (try simp only [List.getElem_toArray, List.getElem_cons_succ, List.getElem_cons_zero, Act.put, List.setIfInBounds_toArray, List.set_cons_zero, List.set_cons_succ])
      refine wpAnyH_take (i := 11) (v := .pointer (some ⟨g, q + 1, none⟩)) rfl (by kernel_rfl) (by kernel_rfl) (by kernel_rfl) (fun _ _ _ h => h) (Or.inl ⟨by rfl, by intro w' hS'; go_simp <;> (first | omega | (rw [IntKind.wrap_i64]; omega) | (rw [IntKind.wrap_u64]; omega) | (rw [IntKind.wrap_u32]; omega) | (rw [Int.tmod_eq_emod_of_nonneg (by omega)]) | rfl)⟩) hSd ?_
      (try simp only [List.getElem_toArray, List.getElem_cons_succ, List.getElem_cons_zero, Act.put, List.setIfInBounds_toArray, List.set_cons_zero, List.set_cons_succ])
      refine wpAnyH_take (i := 12) (v := .string d) rfl (by kernel_rfl) (by kernel_rfl) (by kernel_rfl) (fun _ _ _ h => h) (Or.inl ⟨by rfl, by intro w' hS'; obtain ⟨k5, k6⟩ := HX.out w' hS'; go_simp <;> (first | omega | (rw [IntKind.wrap_i64]; omega) | (rw [IntKind.wrap_u64]; omega) | (rw [IntKind.wrap_u32]; omega) | (rw [Int.tmod_eq_emod_of_nonneg (by omega)]) | rfl)⟩) hSd ?_
      (try simp only [List.getElem_toArray, List.getElem_cons_succ, List.getElem_cons_zero, Act.put, List.setIfInBounds_toArray, List.set_cons_zero, List.set_cons_succ])
      refine wpAnyH_take (i := 13) (v := .int .i64 (d.size : Int)) rfl (by kernel_rfl) (by kernel_rfl) (by kernel_rfl) (fun _ _ _ h => h) (Or.inl ⟨by rfl, by intro w' hS'; go_simp <;> (first | omega | (rw [IntKind.wrap_i64]; omega) | (rw [IntKind.wrap_u64]; omega) | (rw [IntKind.wrap_u32]; omega) | (rw [Int.tmod_eq_emod_of_nonneg (by omega)]) | rfl)⟩) hSd ?_
      (try simp only [List.getElem_toArray, List.getElem_cons_succ, List.getElem_cons_zero, Act.put, List.setIfInBounds_toArray, List.set_cons_zero, List.set_cons_succ])
      refine held_stepS (i := 6) (by kernel_rfl) rfl (by rfl) ?_
      go_simp
      refine (HPT.out pa _ (by omega)).mono ?_
      rintro e w5 ⟨rfl, hb⟩
      have hSw5 : S w5 := by rw [HS.out]; have hx := hSd; rw [HS.out] at hx; exact blMb hx hb hx.size
      clear hb
      refine ⟨hSw5, ?_⟩
      (try simp only [List.getElem_toArray, List.getElem_cons_succ, List.getElem_cons_zero, Act.put, List.setIfInBounds_toArray, List.set_cons_zero, List.set_cons_succ])
      refine wpAnyH_take (i := 7) (v := .string (acc ++ putTextOut pa)) rfl (by kernel_rfl) (by kernel_rfl) (by kernel_rfl) (fun _ _ _ h => h) (Or.inl ⟨by rfl, by intro w' hS'; go_simp <;> (first | omega | (rw [IntKind.wrap_i64]; omega) | (rw [IntKind.wrap_u64]; omega) | (rw [IntKind.wrap_u32]; omega) | (rw [Int.tmod_eq_emod_of_nonneg (by omega)]) | rfl)⟩) hSw5 ?_
      (try simp only [List.getElem_toArray, List.getElem_cons_succ, List.getElem_cons_zero, Act.put, List.setIfInBounds_toArray, List.set_cons_zero, List.set_cons_succ])
      refine held_stepS (i := 14) (by kernel_rfl) rfl (by rfl) ?_
      go_simp
      refine (HP.out d.size _ (by omega)).mono ?_
      rintro e w6 ⟨rfl, hb⟩
      have hSw6 : S w6 := by rw [HS.out]; have hx := hSw5; rw [HS.out] at hx; exact blMb hx hb hx.size
      clear hb
      refine ⟨hSw6, ?_⟩
      (try simp only [List.getElem_toArray, List.getElem_cons_succ, List.getElem_cons_zero, Act.put, List.setIfInBounds_toArray, List.set_cons_zero, List.set_cons_succ])
      refine wpAnyH_take (i := 15) (v := .string ((acc ++ putTextOut pa) ++ pmB d.size)) rfl (by kernel_rfl) (by kernel_rfl) (by kernel_rfl) (fun _ _ _ h => h) (Or.inl ⟨by rfl, by intro w' hS'; go_simp <;> (first | omega | (rw [IntKind.wrap_i64]; omega) | (rw [IntKind.wrap_u64]; omega) | (rw [IntKind.wrap_u32]; omega) | (rw [Int.tmod_eq_emod_of_nonneg (by omega)]) | rfl)⟩) hSw6 ?_
      (try simp only [List.getElem_toArray, List.getElem_cons_succ, List.getElem_cons_zero, Act.put, List.setIfInBounds_toArray, List.set_cons_zero, List.set_cons_succ])
      refine wpAnyH_take (i := 16) (v := .string ((acc ++ putTextOut pa) ++ pmB d.size)) rfl (by kernel_rfl) (by kernel_rfl) (by kernel_rfl) (fun _ _ _ h => h) (Or.inl ⟨by rfl, by intro w' hS'; go_simp <;> (first | omega | (rw [IntKind.wrap_i64]; omega) | (rw [IntKind.wrap_u64]; omega) | (rw [IntKind.wrap_u32]; omega) | (rw [Int.tmod_eq_emod_of_nonneg (by omega)]) | rfl)⟩) hSw6 ?_
      (try simp only [List.getElem_toArray, List.getElem_cons_succ, List.getElem_cons_zero, Act.put, List.setIfInBounds_toArray, List.set_cons_zero, List.set_cons_succ])
      refine wpAnyH_done (by kernel_rfl) ?_ _
      have HBE : Hid (Below w.heap.size w w6) := by have hx := hSw6; rw [HS.out] at hx; exact hx
      have y1 : w6.cell? ⟨g, q + 1, none⟩ = some (.string d) := (HX.out w6 hSw6).2
      clear hSd hSw5 hSw6
      go_wp2_with fail
      go_roundw
      case rel => exact ⟨i + 1, by omega, by go_num, by rw [HN.out]; try rfl, by rw [HL.out]; try rfl, HBE⟩
      case measure => simp [intMb]; omega
    · obtain rfl : i = n := by omega
      have HX : Hid (soV F i = (soB F i i ++ putTextOut (pckB (alB F i))) ++ sumB (alB F i)) := rfl
      have hal : (alB F i).size ≤ 4000 := by rw [alB_size]; exact HO.out.1.2.2.1
      have hle := soB_size (F := F) (n := i) (by omega) HO.out.1.2.1 HO.out.2 i (by omega)
      have hpk := pck_size hal
      have hpt := pmT_size (s := pckB (alB F i)) (by omega)
      have hsm := sumB_size (alB F i)
      have hcl := crc_lt (alB F i)
      clear HO
      have hs1 := ByteArray.size_append (a := soB F i i) (b := putTextOut (pckB (alB F i)))
      have hw : IntKind.u64.wrap ((crc32 (alB F i) : Nat) : Int) = ((crc32 (alB F i) : Nat) : Int) := by rw [IntKind.wrap_u64]; omega
      have HBG2 : Hid (∀ w, Calls Try.prog 29 #[.int .u64 ((crc32 (alB F i) : Nat) : Int), .int .i64 4] w fun e w' => e = .returned (.string (sumB (alB F i))) ∧ Below w.heap.size w w') := HBG.out (alB F i)
      have HC2 : Hid (∀ w, Calls Try.prog 30 #[.string (alB F i)] w fun e w' => e = .returned (.int .u32 ((crc32 (alB F i) : Nat) : Int)) ∧ w' = w) := fun w => HC.out (alB F i) w hal
      clear HBG HC
      generalize soB F i i = S0 at *
      generalize crc32 (alB F i) = X0 at *
      generalize alB F i = A0 at *
      go_wp2_with fail
      refine (HPK.out A0 _ hal).mono ?_
      rintro e w4 ⟨rfl, hb4⟩
      have HB4 : Hid (Below w.heap.size w w4) := blMb HB.out hb4 HB.out.size
      clear hb4 HB
      go_wp2_with fail
      refine (HPT.out (pckB A0) _ (by omega)).mono ?_
      rintro e w5 ⟨rfl, hb5⟩
      have HB5 : Hid (Below w.heap.size w w5) := blMb HB4.out hb5 HB4.out.size
      clear hb5 HB4
      go_wp2_with fail
      refine (HC2.out _).mono ?_
      rintro e w6 ⟨rfl, hw6⟩
      subst hw6
      go_wp2_with fail
      refine (HBG2.out _).mono ?_
      rintro e w7 ⟨rfl, hb7⟩
      have HB7 : Hid (Below w.heap.size w w7) := blMb HB5.out hb7 HB5.out.size
      clear hb7 HB5
      go_wp2_with fail
      go_ret2
      exact ⟨by rw [HX.out]; try rfl, HB7.out⟩
set_option maxRecDepth 100000 in
theorem sso_no (v : Value) (n : Nat) (F : Nat → MbI) (w : World) (hF : MbLe F n) (hok : ¬ mbR F n) (hr : MbArg w v n F) :
    Calls Try.prog 9 #[v] w fun e w' => e = .returned (.tuple #[.string ⟨#[]⟩, .bool false]) ∧ Below w.heap.size w w' := by
  have HK : Hid (Calls Try.prog 25 #[v] w fun e w' => e = .returned (.bool false) ∧ Below w.heap.size w w') := by
    have h2 := smbs_any v n F w hF hr
    rw [mbB_no hok] at h2
    exact h2
  obtain ⟨a, c, rfl, _⟩ := hr
  clear hok hF
  go_enter Try.func9, Try.ntmps9
  go_wp2_with fail
  refine HK.out.mono ?_
  rintro e w1 ⟨rfl, hb1⟩
  go_wp2_with fail
  go_ret2
  exact ⟨rfl, hb1⟩
theorem sso_any (v : Value) (n : Nat) (F : Nat → MbI) (w : World) (hF : MbLe F n) (hr : MbArg w v n F) :
    Calls Try.prog 9 #[v] w fun e w' => e = .returned (.tuple #[.string (soT F n), .bool (mbB F n)]) ∧ Below w.heap.size w w' := by
  by_cases h : mbR F n
  · rw [soT_yes h, mbB_yes h]
    obtain ⟨a, c, rfl, hr⟩ := hr
    exact sso_yes a c n F w hF h hr
  · rw [soT_no h, mbB_no h]
    exact sso_no v n F w hF h hr
end Go.Proofs.Ytbkjcngehhdchaa
