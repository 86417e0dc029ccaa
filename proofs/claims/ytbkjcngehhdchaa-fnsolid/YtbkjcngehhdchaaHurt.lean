/-
  The reader of drawn bytes: what 'hurt' answers: some text, a few bytes longer at most.
-/
import Derived.Test.YtbkjcngehhdchaaData
import Derived.Test.YtbkjcngehhdchaaPk04
namespace Go.Proofs.Ytbkjcngehhdchaa
open Go.RowKit
set_option linter.unusedVariables false
set_option linter.unusedSimpArgs false
theorem Rd3.drewL {w0 : World} {a : Option Addr} {len cap g : Nat} {W w1 : World} (h : Rd3 w0 a len cap g W.drew w1) : Rd3 w0 a len cap g W w1 :=
  ⟨h.rd, ⟨h.grown.os, h.grown.tape, h.grown.output, h.grown.size, h.grown.block⟩⟩
set_option maxRecDepth 100000 in
set_option maxHeartbeats 2000000 in
theorem hurt_any {w0 : World} {a : Option Addr} {len cap g : Nat} {W : World} (hS : Src w0 a len) (h : RD w0 a len cap g W) (s : ByteArray) (hs : s.size ≤ 1000000) :
    Calls Try.prog 50 #[.pointer (some ⟨g, 0, none⟩), .string s] W fun e w' => (∃ t : ByteArray, t.size ≤ s.size + 8 ∧ e = .returned (.string t)) ∧ Rd3 w0 a len cap g W w' := by
  go_enter Try.func50, Try.ntmps50
  go_wp2_with fail
  refine (below_any hS h 6 (by omega) (by omega)).mono ?_
  rintro e w1 ⟨⟨y, hy1, hy2, rfl⟩, hr1⟩
  clear h
  by_cases e0 : y = 0
  · subst e0
    go_wp2_with fail
    refine (bytes_any hS hr1.rd 2 (by omega) (by omega)).mono ?_
    rintro e w3 ⟨⟨l, hl, rfl⟩, hr3⟩
    have hm : ¬ 9223372036854775807 < s.size + l.length := by omega
    go_wp2_with fail
    go_ret
    exact ⟨⟨_, by rw [ByteArray.size_append, mk_size l]; omega, rfl⟩, hr1.trans hr3⟩
  · have e0' : (y == 0) = false := beq_eq_false_iff_ne.2 e0
    by_cases e1 : y = 1
    · subst e1
      have hw : IntKind.i64.wrap ((s.size : Int) + 1) = (s.size : Int) + 1 := by rw [IntKind.wrap_i64]; omega
      go_wp2_with fail
      refine (below_any hS hr1.rd ((s.size : Int) + 1) (by omega) (by omega)).mono ?_
      rintro e w3 ⟨⟨x, hx1, hx2, rfl⟩, hr3⟩
      obtain ⟨k, rfl⟩ := Int.eq_ofNat_of_zero_le hx1
      go_wp2_with fail
      go_ret
      exact ⟨⟨_, by rw [ByteArray.size_extract]; omega, rfl⟩, hr1.trans hr3⟩
    · have e1' : (y == 1) = false := beq_eq_false_iff_ne.2 e1
      by_cases e2 : y = 2
      · subst e2
        by_cases hz : 0 < s.size
        · go_wp2_with fail
          refine (below_any hS hr1.rd s.size (by omega) (by omega)).mono ?_
          rintro e w3 ⟨⟨x, hx1, hx2, rfl⟩, hr3⟩
          obtain ⟨k, rfl⟩ := Int.eq_ofNat_of_zero_le hx1
          have hr13 := hr1.trans hr3
          have hw : IntKind.i64.wrap ((k : Int) + 1) = ((k + 1 : Nat) : Int) := by rw [IntKind.wrap_i64]; omega
          have hS0 := hS
          clear hS
          obtain ⟨A, hA⟩ : ∃ A, A = s.extract 0 k := ⟨_, rfl⟩
          obtain ⟨B, hB⟩ : ∃ B, B = s.extract (k + 1) s.size := ⟨_, rfl⟩
          have hAs : A.size ≤ s.size := by rw [hA, ByteArray.size_extract]; omega
          have hBs : B.size ≤ s.size := by rw [hB, ByteArray.size_extract]; omega
          have hk1 : (k : Int) ≤ (s.size : Int) := by omega
          have hk2 : ((k + 1 : Nat) : Int) ≤ (s.size : Int) := by omega
          have HAB : Hid (A.size + B.size + 1 ≤ s.size + 1) := by
            have h1 : A.size = k := by rw [hA, ByteArray.size_extract]; omega
            have h2 : B.size = s.size - (k + 1) := by rw [hB, ByteArray.size_extract]; omega
            show _ ≤ _
            omega
          have HR := hr13
          clear hr13
          obtain ⟨S, hSS⟩ : ∃ S : World → Prop, S = fun _ => True := ⟨_, rfl⟩
          have hS : ∀ w', S w' := fun w' => by rw [hSS]; trivial
          have hSd := hS w3.drew
          clear hSS
          have HBY := bytes_any hS0 HR.rd.drew 1 (by omega) (by omega)
          go_wp2_with fail
          refine wp_region_held (S := S) (by kernel_rfl) ?_
          change wpAnyH _ _ _ _ _ _ _ _ (World.drew _)
          refine wpAnyH_take (i := 0) (v := .string s) rfl (by kernel_rfl) (by kernel_rfl) (by kernel_rfl) (fun _ _ _ h => h) (Or.inl ⟨by rfl, by intro w' hS'; go_simp <;> (first | omega | (rw [IntKind.wrap_i64]; omega) | (rw [IntKind.wrap_u64]; omega) | (rw [IntKind.wrap_u32]; omega) | (rw [Int.tmod_eq_emod_of_nonneg (by omega)]))⟩) hSd ?_
          (try simp only [List.getElem_toArray, List.getElem_cons_succ, List.getElem_cons_zero, Act.put, List.setIfInBounds_toArray, List.set_cons_zero, List.set_cons_succ])
          refine wpAnyH_take (i := 1) (v := .int .i64 (k : Int)) rfl (by kernel_rfl) (by kernel_rfl) (by kernel_rfl) (fun _ _ _ h => h) (Or.inl ⟨by rfl, by intro w' hS'; go_simp <;> (first | omega | (rw [IntKind.wrap_i64]; omega) | (rw [IntKind.wrap_u64]; omega) | (rw [IntKind.wrap_u32]; omega) | (rw [Int.tmod_eq_emod_of_nonneg (by omega)]))⟩) hSd ?_
          (try simp only [List.getElem_toArray, List.getElem_cons_succ, List.getElem_cons_zero, Act.put, List.setIfInBounds_toArray, List.set_cons_zero, List.set_cons_succ])
          refine wpAnyH_take (i := 2) (v := .string A) rfl (by kernel_rfl) (by kernel_rfl) (by kernel_rfl) (fun _ _ _ h => h) (Or.inl ⟨by rfl, by intro w' hS'; go_simp <;> (first | omega | (rw [IntKind.wrap_i64]; omega) | (rw [IntKind.wrap_u64]; omega) | (rw [IntKind.wrap_u32]; omega) | (rw [Int.tmod_eq_emod_of_nonneg (by omega)]) | (rw [hA]))⟩) hSd ?_
          (try simp only [List.getElem_toArray, List.getElem_cons_succ, List.getElem_cons_zero, Act.put, List.setIfInBounds_toArray, List.set_cons_zero, List.set_cons_succ])
          refine wpAnyH_take (i := 3) (v := .pointer (some ⟨g, 0, none⟩)) rfl (by kernel_rfl) (by kernel_rfl) (by kernel_rfl) (fun _ _ _ h => h) (Or.inl ⟨by rfl, by intro w' hS'; go_simp <;> (first | omega | (rw [IntKind.wrap_i64]; omega) | (rw [IntKind.wrap_u64]; omega) | (rw [IntKind.wrap_u32]; omega) | (rw [Int.tmod_eq_emod_of_nonneg (by omega)]))⟩) hSd ?_
          (try simp only [List.getElem_toArray, List.getElem_cons_succ, List.getElem_cons_zero, Act.put, List.setIfInBounds_toArray, List.set_cons_zero, List.set_cons_succ])
          refine wpAnyH_take (i := 6) (v := .string s) rfl (by kernel_rfl) (by kernel_rfl) (by kernel_rfl) (fun _ _ _ h => h) (Or.inl ⟨by rfl, by intro w' hS'; go_simp <;> (first | omega | (rw [IntKind.wrap_i64]; omega) | (rw [IntKind.wrap_u64]; omega) | (rw [IntKind.wrap_u32]; omega) | (rw [Int.tmod_eq_emod_of_nonneg (by omega)]))⟩) hSd ?_
          (try simp only [List.getElem_toArray, List.getElem_cons_succ, List.getElem_cons_zero, Act.put, List.setIfInBounds_toArray, List.set_cons_zero, List.set_cons_succ])
          refine wpAnyH_take (i := 7) (v := .int .i64 (k : Int)) rfl (by kernel_rfl) (by kernel_rfl) (by kernel_rfl) (fun _ _ _ h => h) (Or.inl ⟨by rfl, by intro w' hS'; go_simp <;> (first | omega | (rw [IntKind.wrap_i64]; omega) | (rw [IntKind.wrap_u64]; omega) | (rw [IntKind.wrap_u32]; omega) | (rw [Int.tmod_eq_emod_of_nonneg (by omega)]))⟩) hSd ?_
          (try simp only [List.getElem_toArray, List.getElem_cons_succ, List.getElem_cons_zero, Act.put, List.setIfInBounds_toArray, List.set_cons_zero, List.set_cons_succ])
          refine wpAnyH_take (i := 8) (v := .int .i64 ((k + 1 : Nat) : Int)) rfl (by kernel_rfl) (by kernel_rfl) (by kernel_rfl) (fun _ _ _ h => h) (Or.inl ⟨by rfl, by intro w' hS'; go_simp <;> (first | omega | (rw [IntKind.wrap_i64]; omega) | (rw [IntKind.wrap_u64]; omega) | (rw [IntKind.wrap_u32]; omega) | (rw [Int.tmod_eq_emod_of_nonneg (by omega)]))⟩) hSd ?_
          (try simp only [List.getElem_toArray, List.getElem_cons_succ, List.getElem_cons_zero, Act.put, List.setIfInBounds_toArray, List.set_cons_zero, List.set_cons_succ])
          refine wpAnyH_take (i := 9) (v := .string B) rfl (by kernel_rfl) (by kernel_rfl) (by kernel_rfl) (fun _ _ _ h => h) (Or.inl ⟨by rfl, by intro w' hS'; go_simp <;> (first | omega | (rw [IntKind.wrap_i64]; omega) | (rw [IntKind.wrap_u64]; omega) | (rw [IntKind.wrap_u32]; omega) | (rw [Int.tmod_eq_emod_of_nonneg (by omega)]) | (rw [hB]))⟩) hSd ?_
          (try simp only [List.getElem_toArray, List.getElem_cons_succ, List.getElem_cons_zero, Act.put, List.setIfInBounds_toArray, List.set_cons_zero, List.set_cons_succ])
          refine held_stepS (i := 4) (by kernel_rfl) rfl (by rfl) ?_
          go_simp
          refine HBY.mono ?_
          rintro e w4 ⟨⟨l, hl, rfl⟩, hr4⟩
          refine ⟨hS _, ?_⟩
          have hl1 : (⟨l.toArray⟩ : ByteArray).size ≤ 1 := by rw [mk_size l]; omega
          generalize (⟨l.toArray⟩ : ByteArray) = C at hl1 ⊢
          have hm1 : ¬ 9223372036854775807 < A.size + C.size := by omega
          have hm2 : ¬ 9223372036854775807 < A.size + C.size + B.size := by omega
          have hACs : (A ++ C).size = A.size + C.size := ByteArray.size_append
          have hS4 := hS w4
          (try simp only [List.getElem_toArray, List.getElem_cons_succ, List.getElem_cons_zero, Act.put, List.setIfInBounds_toArray, List.set_cons_zero, List.set_cons_succ])
          refine wpAnyH_take (i := 5) (v := .string (A ++ C)) rfl (by kernel_rfl) (by kernel_rfl) (by kernel_rfl) (fun _ _ _ h => h) (Or.inl ⟨by rfl, by intro w' hS'; go_simp <;> (first | omega | (rw [IntKind.wrap_i64]; omega) | (rw [IntKind.wrap_u64]; omega) | (rw [IntKind.wrap_u32]; omega) | (rw [Int.tmod_eq_emod_of_nonneg (by omega)]))⟩) hS4 ?_
          (try simp only [List.getElem_toArray, List.getElem_cons_succ, List.getElem_cons_zero, Act.put, List.setIfInBounds_toArray, List.set_cons_zero, List.set_cons_succ])
          refine wpAnyH_take (i := 10) (v := .string (A ++ C ++ B)) rfl (by kernel_rfl) (by kernel_rfl) (by kernel_rfl) (fun _ _ _ h => h) (Or.inl ⟨by rfl, by intro w' hS'; go_simp <;> (first | omega | (rw [IntKind.wrap_i64]; omega) | (rw [IntKind.wrap_u64]; omega) | (rw [IntKind.wrap_u32]; omega) | (rw [Int.tmod_eq_emod_of_nonneg (by omega)]))⟩) hS4 ?_
          (try simp only [List.getElem_toArray, List.getElem_cons_succ, List.getElem_cons_zero, Act.put, List.setIfInBounds_toArray, List.set_cons_zero, List.set_cons_succ])
          refine wpAnyH_take (i := 11) (v := .string (A ++ C ++ B)) rfl (by kernel_rfl) (by kernel_rfl) (by kernel_rfl) (fun _ _ _ h => h) (Or.inl ⟨by rfl, by intro w' hS'; go_simp <;> (first | omega | (rw [IntKind.wrap_i64]; omega) | (rw [IntKind.wrap_u64]; omega) | (rw [IntKind.wrap_u32]; omega) | (rw [Int.tmod_eq_emod_of_nonneg (by omega)]))⟩) hS4 ?_
          (try simp only [List.getElem_toArray, List.getElem_cons_succ, List.getElem_cons_zero, Act.put, List.setIfInBounds_toArray, List.set_cons_zero, List.set_cons_succ])
          refine wpAnyH_done (by kernel_rfl) ?_ _
          go_wp2_with fail
          go_ret
          exact ⟨⟨A ++ C ++ B, by rw [ByteArray.size_append, ByteArray.size_append]; have := HAB.out; omega, rfl⟩, hr1.trans (hr3.trans (Rd3.drewL hr4))⟩
        · go_wp2_with fail
          go_ret
          exact ⟨⟨s, by omega, rfl⟩, hr1⟩
      · have e2' : (y == 2) = false := beq_eq_false_iff_ne.2 e2
        go_wp2_with fail
        go_ret
        exact ⟨⟨s, by omega, rfl⟩, hr1⟩
end Go.Proofs.Ytbkjcngehhdchaa
