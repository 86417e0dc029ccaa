/-
  Another text, drawn of a longer one, and all beside the reader kept.
-/
import Derived.Test.YtpeddaljgmkomaaPk26
import Derived.Test.YtpeddaljgmkomaaPk19
import Derived.Test.YtpeddaljgmkomaaPk03
namespace Go.Proofs.Ytpeddaljgmkomaa
open Go.RowKit
set_option linter.unusedVariables false
set_option linter.unusedSimpArgs false
set_option maxRecDepth 100000 in
set_option maxHeartbeats 2000000 in
theorem other_big {w0 : World} {a : Option Addr} {len cap g : Nat} {W : World} (hS : Src w0 a len) (h : RD w0 a len cap g W) (s0 : ByteArray) (hs0 : s0.size ≤ 4000) :
    Calls Try.prog 62 #[.pointer (some ⟨g, 0, none⟩), .string s0] W fun e w' => (∃ s : ByteArray, s.size ≤ 4000 ∧ e = .returned (.string s)) ∧ Rd3 w0 a len cap g W w' := by
  have HS : Hid (Src w0 a len) := hS
  go_enter Try.func62, Try.ntmps62
  go_wp2_with fail
  refine (below_any HS.out h 4 (by omega) (by omega)).mono ?_
  rintro e w1 ⟨⟨x0, hx1, hx2, rfl⟩, hr1⟩
  have HR : Hid (Rd3 w0 a len cap g W w1) := hr1
  obtain ⟨k0, rfl⟩ := Int.eq_ofNat_of_zero_le hx1
  clear hr1 h hx1 hS
  go_wp2_with fail
  go_loopw [1, 5] (fun y c wr => ∃ (s : ByteArray) (k : Nat), s.size ≤ 4000 ∧ y = .string s ∧ c = .int .i64 (k : Int) ∧ k ≤ 4 ∧ Hid (Rd3 w0 a len cap g W wr)) (fun _ c _ => (lonIntOf c).toNat)
  case atStart => exact ⟨s0, k0, hs0, rfl, rfl, by omega, HR⟩
  case round =>
    clear HR hx2
    obtain ⟨s, k, hs, rfl, rfl, hk, HR⟩ := hrel
    by_cases hk0 : 0 < k
    · have hkI : (0 : Int) < (k : Int) := by omega
      have hsI : (s.size : Int) ≤ 4000 := by omega
      go_wp2_with fail
      refine (below_any HS.out HR.out.rd ((s.size : Int) + 1) (by omega) (by omega)).mono ?_
      rintro e w2 ⟨⟨x, hx1, hx2, rfl⟩, hr2⟩
      obtain ⟨x, rfl⟩ := Int.eq_ofNat_of_zero_le hx1
      have HR2 : Hid (Rd3 w0 a len cap g W w2) := HR.out.trans hr2
      have hxs : (x : Int) ≤ (s.size : Int) := by omega
      have hxN : x ≤ s.size := by omega
      clear hr2 HR hx1 hx2
      go_wp2_with fail
      refine (below_any HS.out HR2.out.rd ((s.size : Int) - (x : Int) + 1) (by omega) (by omega)).mono ?_
      rintro e w3 ⟨⟨y, hy1, hy2, rfl⟩, hr3⟩
      obtain ⟨y, rfl⟩ := Int.eq_ofNat_of_zero_le hy1
      have HR3 : Hid (Rd3 w0 a len cap g W w3) := HR2.out.trans hr3
      obtain ⟨z, hz⟩ : ∃ z, z = x + y := ⟨_, rfl⟩
      have hwz : IntKind.i64.wrap ((x : Int) + (y : Int)) = (z : Int) := by rw [IntKind.wrap_i64]; omega
      have hzs : (z : Int) ≤ (s.size : Int) := by omega
      have hzN : z ≤ s.size := by omega
      clear hr3 HR2 hy1 hy2 hz
      go_wp2_with fail
      try rw [hwz]
      refine (below_any HS.out HR3.out.rd 4 (by omega) (by omega)).mono ?_
      rintro e w4 ⟨⟨q, hq1, hq2, rfl⟩, hr4⟩
      have HRN : Hid (Rd3 w0 a len cap g W w4) := HR3.out.trans hr4
      have HRD : Hid (Rd3 w0 a len cap g W w4.drew) := (HR3.out.trans hr4).drew
      clear hr4 HR3 hwz
      have z1 : (s.extract 0 x).size ≤ 4000 := by rw [ByteArray.size_extract]; omega
      have z2 : (s.extract z s.size).size ≤ 4000 := by rw [ByteArray.size_extract]; omega
      have z3 : (s.extract x s.size).size ≤ 4000 := by rw [ByteArray.size_extract]; omega
      have zz1 : (s.extract 0 x).size + (s.extract z s.size).size ≤ 9223372036854775807 := by omega
      have zz2 : (s.extract z s.size).size + (s.extract 0 x).size ≤ 9223372036854775807 := by omega
      by_cases h0 : q = 0
      · subst h0
        go_wp2_with fail
        go_region
        have HRN := HRD
        obtain ⟨Q, hQ⟩ : ∃ Q, Q = s.extract 0 x ++ s.extract z s.size := ⟨_, rfl⟩
        have hQs : Q.size ≤ 8020 := by rw [hQ]; (repeat rw [ByteArray.size_append]); omega
        rw [← hQ]
        clear hQ
        by_cases hq : 600 < Q.size
        · have hqI : (600 : Int) < (Q.size : Int) := by omega
          have hqJ : (600 : Int) ≤ (Q.size : Int) := by omega
          have hqz : (Q.extract 0 600).size ≤ 4000 := by rw [ByteArray.size_extract]; omega
          go_wp2_with fail
          go_roundw
          case rel => exact ⟨Q.extract 0 600, k - 1, hqz, rfl, by first | rfl | (show Value.int .i64 _ = Value.int .i64 _; congr 1; omega), by omega, HRN⟩
          case measure => first | (simp [lonIntOf]; omega) | (simp [lonIntOf]; done)
        · have hqI : ¬ (600 : Int) < (Q.size : Int) := by omega
          go_wp2_with fail
          go_roundw
          case rel => exact ⟨Q, k - 1, by omega, rfl, by first | rfl | (show Value.int .i64 _ = Value.int .i64 _; congr 1; omega), by omega, HRN⟩
          case measure => first | (simp [lonIntOf]; omega) | (simp [lonIntOf]; done)
      · have h0b : (q == 0) = false := beq_eq_false_iff_ne.2 h0
        by_cases h1 : q = 1
        · subst h1
          go_wp2_with fail
          go_region
          have HRN := HRD
          obtain ⟨Q, hQ⟩ : ∃ Q, Q = s.extract z s.size ++ s.extract 0 x := ⟨_, rfl⟩
          have hQs : Q.size ≤ 8020 := by rw [hQ]; (repeat rw [ByteArray.size_append]); omega
          rw [← hQ]
          clear hQ
          by_cases hq : 600 < Q.size
          · have hqI : (600 : Int) < (Q.size : Int) := by omega
            have hqJ : (600 : Int) ≤ (Q.size : Int) := by omega
            have hqz : (Q.extract 0 600).size ≤ 4000 := by rw [ByteArray.size_extract]; omega
            go_wp2_with fail
            go_roundw
            case rel => exact ⟨Q.extract 0 600, k - 1, hqz, rfl, by first | rfl | (show Value.int .i64 _ = Value.int .i64 _; congr 1; omega), by omega, HRN⟩
            case measure => first | (simp [lonIntOf]; omega) | (simp [lonIntOf]; done)
          · have hqI : ¬ (600 : Int) < (Q.size : Int) := by omega
            go_wp2_with fail
            go_roundw
            case rel => exact ⟨Q, k - 1, by omega, rfl, by first | rfl | (show Value.int .i64 _ = Value.int .i64 _; congr 1; omega), by omega, HRN⟩
            case measure => first | (simp [lonIntOf]; omega) | (simp [lonIntOf]; done)
        · have h1b : (q == 1) = false := beq_eq_false_iff_ne.2 h1
          obtain ⟨S, hSS⟩ : ∃ S : World → Prop, S = fun _ => True := ⟨_, rfl⟩
          have hSall : ∀ w', S w' := fun w' => by rw [hSS]; trivial
          have hSd := hSall w4.drew
          obtain ⟨A, hA⟩ : ∃ A, A = s.extract 0 x := ⟨_, rfl⟩
          obtain ⟨C, hC⟩ : ∃ C, C = s.extract x s.size := ⟨_, rfl⟩
          have hAs : A.size ≤ 4000 := by rw [hA]; exact z1
          have hCs : C.size ≤ 4000 := by rw [hC]; exact z3
          clear hSS z1 z2 z3 zz1 zz2
          go_wp2_with fail
          refine wp_region_held (S := S) (by kernel_rfl) ?_
          change wpAnyH _ _ _ _ _ _ _ _ (World.drew _)
          refine wpAnyH_take (i := 0) (v := .string s) rfl (by kernel_rfl) (by kernel_rfl) (by kernel_rfl) (fun _ _ _ h => h) (Or.inl ⟨by rfl, by intro w' hS'; go_simp <;> (first | omega | (rw [IntKind.wrap_i64]; omega) | (rw [IntKind.wrap_u64]; omega) | (rw [IntKind.wrap_u32]; omega) | (rw [Int.tmod_eq_emod_of_nonneg (by omega)]) | rfl)⟩) hSd ?_
          (try simp only [List.getElem_toArray, List.getElem_cons_succ, List.getElem_cons_zero, Act.put, List.setIfInBounds_toArray, List.set_cons_zero, List.set_cons_succ])
          refine wpAnyH_take (i := 1) (v := .int .i64 (x : Int)) rfl (by kernel_rfl) (by kernel_rfl) (by kernel_rfl) (fun _ _ _ h => h) (Or.inl ⟨by rfl, by intro w' hS'; go_simp <;> (first | omega | (rw [IntKind.wrap_i64]; omega) | (rw [IntKind.wrap_u64]; omega) | (rw [IntKind.wrap_u32]; omega) | (rw [Int.tmod_eq_emod_of_nonneg (by omega)]) | rfl)⟩) hSd ?_
          (try simp only [List.getElem_toArray, List.getElem_cons_succ, List.getElem_cons_zero, Act.put, List.setIfInBounds_toArray, List.set_cons_zero, List.set_cons_succ])
          refine wpAnyH_take (i := 2) (v := .string A) rfl (by kernel_rfl) (by kernel_rfl) (by kernel_rfl) (fun _ _ _ h => h) (Or.inl ⟨by rfl, by intro w' hS'; go_simp <;> (first | omega | (rw [IntKind.wrap_i64]; omega) | (rw [IntKind.wrap_u64]; omega) | (rw [IntKind.wrap_u32]; omega) | (rw [Int.tmod_eq_emod_of_nonneg (by omega)]) | rfl)⟩) hSd ?_
          (try simp only [List.getElem_toArray, List.getElem_cons_succ, List.getElem_cons_zero, Act.put, List.setIfInBounds_toArray, List.set_cons_zero, List.set_cons_succ])
          refine wpAnyH_take (i := 3) (v := .pointer (some ⟨g, 0, none⟩)) rfl (by kernel_rfl) (by kernel_rfl) (by kernel_rfl) (fun _ _ _ h => h) (Or.inl ⟨by rfl, by intro w' hS'; go_simp <;> (first | omega | (rw [IntKind.wrap_i64]; omega) | (rw [IntKind.wrap_u64]; omega) | (rw [IntKind.wrap_u32]; omega) | (rw [Int.tmod_eq_emod_of_nonneg (by omega)]) | rfl)⟩) hSd ?_
          (try simp only [List.getElem_toArray, List.getElem_cons_succ, List.getElem_cons_zero, Act.put, List.setIfInBounds_toArray, List.set_cons_zero, List.set_cons_succ])
          refine wpAnyH_take (i := 6) (v := .string s) rfl (by kernel_rfl) (by kernel_rfl) (by kernel_rfl) (fun _ _ _ h => h) (Or.inl ⟨by rfl, by intro w' hS'; go_simp <;> (first | omega | (rw [IntKind.wrap_i64]; omega) | (rw [IntKind.wrap_u64]; omega) | (rw [IntKind.wrap_u32]; omega) | (rw [Int.tmod_eq_emod_of_nonneg (by omega)]) | rfl)⟩) hSd ?_
          (try simp only [List.getElem_toArray, List.getElem_cons_succ, List.getElem_cons_zero, Act.put, List.setIfInBounds_toArray, List.set_cons_zero, List.set_cons_succ])
          refine wpAnyH_take (i := 7) (v := .int .i64 (x : Int)) rfl (by kernel_rfl) (by kernel_rfl) (by kernel_rfl) (fun _ _ _ h => h) (Or.inl ⟨by rfl, by intro w' hS'; go_simp <;> (first | omega | (rw [IntKind.wrap_i64]; omega) | (rw [IntKind.wrap_u64]; omega) | (rw [IntKind.wrap_u32]; omega) | (rw [Int.tmod_eq_emod_of_nonneg (by omega)]) | rfl)⟩) hSd ?_
          (try simp only [List.getElem_toArray, List.getElem_cons_succ, List.getElem_cons_zero, Act.put, List.setIfInBounds_toArray, List.set_cons_zero, List.set_cons_succ])
          refine wpAnyH_take (i := 8) (v := .string C) rfl (by kernel_rfl) (by kernel_rfl) (by kernel_rfl) (fun _ _ _ h => h) (Or.inl ⟨by rfl, by intro w' hS'; go_simp <;> (first | omega | (rw [IntKind.wrap_i64]; omega) | (rw [IntKind.wrap_u64]; omega) | (rw [IntKind.wrap_u32]; omega) | (rw [Int.tmod_eq_emod_of_nonneg (by omega)]) | rfl)⟩) hSd ?_
          (try simp only [List.getElem_toArray, List.getElem_cons_succ, List.getElem_cons_zero, Act.put, List.setIfInBounds_toArray, List.set_cons_zero, List.set_cons_succ])
          refine held_stepS (i := 4) (by kernel_rfl) rfl (by rfl) ?_
          go_simp
          refine (text_any HS.out HRD.out.rd).mono ?_
          rintro e w5 ⟨⟨T, hT, rfl⟩, hr5⟩
          have hS5 := hSall w5
          have HRN : Hid (Rd3 w0 a len cap g W w5) := HRD.out.trans hr5
          have hat : (A ++ T).size ≤ 4020 := by rw [ByteArray.size_append]; omega
          have y1 : A.size + T.size ≤ 9223372036854775807 := by omega
          have y2 : (A ++ T).size + C.size ≤ 9223372036854775807 := by omega
          have y3 : A.size + T.size + C.size ≤ 9223372036854775807 := by omega
          clear hr5
          refine ⟨hS5, ?_⟩
          (try simp only [List.getElem_toArray, List.getElem_cons_succ, List.getElem_cons_zero, Act.put, List.setIfInBounds_toArray, List.set_cons_zero, List.set_cons_succ])
          refine wpAnyH_take (i := 5) (v := .string (A ++ T)) rfl (by kernel_rfl) (by kernel_rfl) (by kernel_rfl) (fun _ _ _ h => h) (Or.inl ⟨by rfl, by intro w' hS'; go_simp <;> (first | omega | (rw [IntKind.wrap_i64]; omega) | (rw [IntKind.wrap_u64]; omega) | (rw [IntKind.wrap_u32]; omega) | (rw [Int.tmod_eq_emod_of_nonneg (by omega)]) | rfl)⟩) hS5 ?_
          (try simp only [List.getElem_toArray, List.getElem_cons_succ, List.getElem_cons_zero, Act.put, List.setIfInBounds_toArray, List.set_cons_zero, List.set_cons_succ])
          refine wpAnyH_take (i := 9) (v := .string ((A ++ T) ++ C)) rfl (by kernel_rfl) (by kernel_rfl) (by kernel_rfl) (fun _ _ _ h => h) (Or.inl ⟨by rfl, by intro w' hS'; go_simp <;> (first | omega | (rw [IntKind.wrap_i64]; omega) | (rw [IntKind.wrap_u64]; omega) | (rw [IntKind.wrap_u32]; omega) | (rw [Int.tmod_eq_emod_of_nonneg (by omega)]) | rfl)⟩) hS5 ?_
          (try simp only [List.getElem_toArray, List.getElem_cons_succ, List.getElem_cons_zero, Act.put, List.setIfInBounds_toArray, List.set_cons_zero, List.set_cons_succ])
          refine wpAnyH_take (i := 10) (v := .string ((A ++ T) ++ C)) rfl (by kernel_rfl) (by kernel_rfl) (by kernel_rfl) (fun _ _ _ h => h) (Or.inl ⟨by rfl, by intro w' hS'; go_simp <;> (first | omega | (rw [IntKind.wrap_i64]; omega) | (rw [IntKind.wrap_u64]; omega) | (rw [IntKind.wrap_u32]; omega) | (rw [Int.tmod_eq_emod_of_nonneg (by omega)]) | rfl)⟩) hS5 ?_
          (try simp only [List.getElem_toArray, List.getElem_cons_succ, List.getElem_cons_zero, Act.put, List.setIfInBounds_toArray, List.set_cons_zero, List.set_cons_succ])
          refine wpAnyH_done (by kernel_rfl) ?_ _
          obtain ⟨Q, hQ⟩ : ∃ Q, Q = (A ++ T) ++ C := ⟨_, rfl⟩
          have hQs : Q.size ≤ 8020 := by rw [hQ]; (repeat rw [ByteArray.size_append]); omega
          rw [← hQ]
          clear hQ
          by_cases hq : 600 < Q.size
          · have hqI : (600 : Int) < (Q.size : Int) := by omega
            have hqJ : (600 : Int) ≤ (Q.size : Int) := by omega
            have hqz : (Q.extract 0 600).size ≤ 4000 := by rw [ByteArray.size_extract]; omega
            go_wp2_with fail
            go_roundw
            case rel => exact ⟨Q.extract 0 600, k - 1, hqz, rfl, by first | rfl | (show Value.int .i64 _ = Value.int .i64 _; congr 1; omega), by omega, HRN⟩
            case measure => first | (simp [lonIntOf]; omega) | (simp [lonIntOf]; done)
          · have hqI : ¬ (600 : Int) < (Q.size : Int) := by omega
            go_wp2_with fail
            go_roundw
            case rel => exact ⟨Q, k - 1, by omega, rfl, by first | rfl | (show Value.int .i64 _ = Value.int .i64 _; congr 1; omega), by omega, HRN⟩
            case measure => first | (simp [lonIntOf]; omega) | (simp [lonIntOf]; done)
    · obtain rfl : k = 0 := by omega
      go_wp2_with fail
      go_ret
      exact ⟨⟨s, hs, rfl⟩, HR.out⟩
end Go.Proofs.Ytpeddaljgmkomaa
