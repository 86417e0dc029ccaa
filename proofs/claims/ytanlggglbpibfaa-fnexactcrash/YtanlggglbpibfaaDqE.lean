/-
  Two lists made of the same structs DOp are alike: the law's own way to ask.
-/
import Derived.Test.YtanlggglbpibfaaDqA
import Derived.Test.YtanlggglbpibfaaLonH
namespace Go.Proofs.Ytanlggglbpibfaa
open Go.RowKit
set_option linter.unusedVariables false
set_option linter.unusedSimpArgs false
set_option maxRecDepth 100000 in
theorem eqDqS_zero (a b : Option Addr) (c d : Nat) (w : World) :
    Calls Try.prog 71 #[.slice a 0 c, .slice b 0 d] w fun e w' => e = .returned (.bool true) ∧ w' = w := by
  go_enter Try.func71, Try.ntmps71
  go_wp2_with fail
  refine wp_loop_rounds 1 ?_
  rw [rounds_succ]
  go_wp2_with fail
  go_ret
  exact ⟨rfl, rfl⟩
set_option maxRecDepth 100000 in
set_option maxHeartbeats 1000000 in
theorem eqDqS_rows (g h cc dc n : Nat) (xs : List Value) (w : World) (hn : n ≤ 1048576) (hx : ∀ i, i < n → ∃ (m : Int) (a : ByteArray) (p : ByteArray) (d : ByteArray), xs[4 * i]? = some (.int .i64 m) ∧ xs[4 * i + 1]? = some (.string a) ∧ xs[4 * i + 2]? = some (.string p) ∧ xs[4 * i + 3]? = some (.string d))
    (hg : ∀ j v, xs[j]? = some v → w.cell? ⟨g, j, none⟩ = some v) (hh : ∀ j v, xs[j]? = some v → w.cell? ⟨h, j, none⟩ = some v) (hgl : g < w.heap.size) (hhl : h < w.heap.size) :
    Calls Try.prog 71 #[.slice (some ⟨g, 0, none⟩) n cc, .slice (some ⟨h, 0, none⟩) n dc] w fun e w' => e = .returned (.bool true) ∧ Below w.heap.size w w' := by
  have HX : Hid _ := hx
  have HG : Hid _ := hg
  have HH : Hid _ := hh
  have HGL : Hid (g < w.heap.size ∧ h < w.heap.size) := ⟨hgl, hhl⟩
  have HE : Hid (∀ (m : Int) (a : ByteArray) (p : ByteArray) (d : ByteArray) w, _) := fun m a p d w => eqDq_same m a p d w
  clear hx hg hh hgl hhl
  go_enter Try.func71, Try.ntmps71
  go_wp2_with fail
  go_loopw [5] (fun v wr => ∃ i : Nat, i ≤ n ∧ v = .int .i64 (i : Int) ∧ Below w.heap.size w wr) (fun v _ => n - (intDq v).toNat)
  case atStart => exact ⟨0, by omega, rfl, Below.refl _ _⟩
  case round =>
    obtain ⟨i, hi, rfl, hb⟩ := hrel
    by_cases hlt : i < n
    · have hltI : (i : Int) < (n : Int) := by omega
      obtain ⟨m, a, p, d, x0, x1, x2, x3⟩ := HX.out i hlt
      obtain ⟨q, hq⟩ : ∃ q, q = 4 * i := ⟨_, rfl⟩
      rw [← hq] at x0 x1 x2 x3
      obtain ⟨S, hSS⟩ : ∃ S : World → Prop, S = fun w' => Below w.heap.size w w' := ⟨_, rfl⟩
      have hSd : S wr.drew := by rw [hSS]; exact hb.drew
      have hrow : ∀ (t : Nat), (∀ j v, xs[j]? = some v → w.cell? ⟨t, j, none⟩ = some v) → t < w.heap.size → ∀ w', S w' → w'.rangeAt t q [.int .i64 m, .string a, .string p, .string d] := fun t ht htl w' hw' j v hv => by
        rw [hSS] at hw'
        rw [Below.cell hw' (p := ⟨t, q + j, none⟩) htl]
        apply ht
        match j, hv with
        | 0, hv => simp at hv; subst hv; exact x0
        | 1, hv => simp at hv; subst hv; exact x1
        | 2, hv => simp at hv; subst hv; exact x2
        | 3, hv => simp at hv; subst hv; exact x3
      have HRG : Hid (∀ w', S w' → w'.rangeAt g q [.int .i64 m, .string a, .string p, .string d]) := hrow g HG.out HGL.out.1
      have HRH : Hid (∀ w', S w' → w'.rangeAt h q [.int .i64 m, .string a, .string p, .string d]) := hrow h HH.out HGL.out.2
      have HEE : Hid (∀ w, Calls Try.prog 96 #[dqV m a p d, dqV m a p d] w fun e w' => e = .returned (.bool true) ∧ Below w.heap.size w w') := fun w => HE.out m a p d w
      have HS : Hid _ := hSS
      have HQ : Hid (q = 4 * i) := hq
      have hiq : i * 4 = q := by omega
      unfold dqV at HEE
      clear hSS hrow x0 x1 x2 x3 hq
      go_wp2_with fail
      refine wp_region_held (S := S) (by kernel_rfl) ?_
      change wpAnyH _ _ _ _ _ _ _ _ (World.drew _)
      refine wpAnyH_take (i := 0) (v := .slice (some ⟨g, 0, none⟩) n cc) rfl (by kernel_rfl) (by kernel_rfl) (by kernel_rfl) (fun _ _ _ h => h) (Or.inl ⟨by rfl, by intro w' hS'; go_simp <;> (first | omega | (rw [IntKind.wrap_i64]; omega) | (rw [IntKind.wrap_u64]; omega) | (rw [IntKind.wrap_u32]; omega) | (rw [Int.tmod_eq_emod_of_nonneg (by omega)]))⟩) hSd ?_
      (try simp only [List.getElem_toArray, List.getElem_cons_succ, List.getElem_cons_zero, Act.put, List.setIfInBounds_toArray, List.set_cons_zero, List.set_cons_succ])
      refine wpAnyH_take (i := 1) (v := .int .i64 (i : Int)) rfl (by kernel_rfl) (by kernel_rfl) (by kernel_rfl) (fun _ _ _ h => h) (Or.inl ⟨by rfl, by intro w' hS'; go_simp <;> (first | omega | (rw [IntKind.wrap_i64]; omega) | (rw [IntKind.wrap_u64]; omega) | (rw [IntKind.wrap_u32]; omega) | (rw [Int.tmod_eq_emod_of_nonneg (by omega)]))⟩) hSd ?_
      (try simp only [List.getElem_toArray, List.getElem_cons_succ, List.getElem_cons_zero, Act.put, List.setIfInBounds_toArray, List.set_cons_zero, List.set_cons_succ])
      refine wpAnyH_take (i := 2) (v := .pointer (some ⟨g, q, none⟩)) rfl (by kernel_rfl) (by kernel_rfl) (by kernel_rfl) (fun _ _ _ h => h) (Or.inl ⟨by rfl, by intro w' hS'; go_simp <;> (first | omega | (rw [IntKind.wrap_i64]; omega) | (rw [IntKind.wrap_u64]; omega) | (rw [IntKind.wrap_u32]; omega) | (rw [Int.tmod_eq_emod_of_nonneg (by omega)]))⟩) hSd ?_
      (try simp only [List.getElem_toArray, List.getElem_cons_succ, List.getElem_cons_zero, Act.put, List.setIfInBounds_toArray, List.set_cons_zero, List.set_cons_succ])
      refine wpAnyH_take (i := 3) (v := .agg #[.int .i64 m, .string a, .string p, .string d]) rfl (by kernel_rfl) (by kernel_rfl) (by kernel_rfl) (fun _ _ _ h => h) (yieldsIf_load_mid (by rfl) 36 (.tmp 19) rfl g q rfl [.int .i64 m, .string a, .string p, .string d] _ HRG.out Try.underlying36 rfl (by kernel_rfl)) hSd ?_
      (try simp only [List.getElem_toArray, List.getElem_cons_succ, List.getElem_cons_zero, Act.put, List.setIfInBounds_toArray, List.set_cons_zero, List.set_cons_succ])
      refine wpAnyH_take (i := 4) (v := .slice (some ⟨h, 0, none⟩) n dc) rfl (by kernel_rfl) (by kernel_rfl) (by kernel_rfl) (fun _ _ _ h => h) (Or.inl ⟨by rfl, by intro w' hS'; go_simp <;> (first | omega | (rw [IntKind.wrap_i64]; omega) | (rw [IntKind.wrap_u64]; omega) | (rw [IntKind.wrap_u32]; omega) | (rw [Int.tmod_eq_emod_of_nonneg (by omega)]))⟩) hSd ?_
      (try simp only [List.getElem_toArray, List.getElem_cons_succ, List.getElem_cons_zero, Act.put, List.setIfInBounds_toArray, List.set_cons_zero, List.set_cons_succ])
      refine wpAnyH_take (i := 5) (v := .int .i64 (i : Int)) rfl (by kernel_rfl) (by kernel_rfl) (by kernel_rfl) (fun _ _ _ h => h) (Or.inl ⟨by rfl, by intro w' hS'; go_simp <;> (first | omega | (rw [IntKind.wrap_i64]; omega) | (rw [IntKind.wrap_u64]; omega) | (rw [IntKind.wrap_u32]; omega) | (rw [Int.tmod_eq_emod_of_nonneg (by omega)]))⟩) hSd ?_
      (try simp only [List.getElem_toArray, List.getElem_cons_succ, List.getElem_cons_zero, Act.put, List.setIfInBounds_toArray, List.set_cons_zero, List.set_cons_succ])
      refine wpAnyH_take (i := 6) (v := .pointer (some ⟨h, q, none⟩)) rfl (by kernel_rfl) (by kernel_rfl) (by kernel_rfl) (fun _ _ _ h => h) (Or.inl ⟨by rfl, by intro w' hS'; go_simp <;> (first | omega | (rw [IntKind.wrap_i64]; omega) | (rw [IntKind.wrap_u64]; omega) | (rw [IntKind.wrap_u32]; omega) | (rw [Int.tmod_eq_emod_of_nonneg (by omega)]))⟩) hSd ?_
      (try simp only [List.getElem_toArray, List.getElem_cons_succ, List.getElem_cons_zero, Act.put, List.setIfInBounds_toArray, List.set_cons_zero, List.set_cons_succ])
      refine wpAnyH_take (i := 7) (v := .agg #[.int .i64 m, .string a, .string p, .string d]) rfl (by kernel_rfl) (by kernel_rfl) (by kernel_rfl) (fun _ _ _ h => h) (yieldsIf_load_mid (by rfl) 36 (.tmp 23) rfl h q rfl [.int .i64 m, .string a, .string p, .string d] _ HRH.out Try.underlying36 rfl (by kernel_rfl)) hSd ?_
      (try simp only [List.getElem_toArray, List.getElem_cons_succ, List.getElem_cons_zero, Act.put, List.setIfInBounds_toArray, List.set_cons_zero, List.set_cons_succ])
      refine held_step (i := 8) (by kernel_rfl) rfl (by rfl) ?_
      go_simp
      refine (HEE.out _).mono ?_
      rintro e w3 ⟨rfl, hb3⟩
      have hb4 : Below w.heap.size w w3 := by have hx := hSd; rw [HS.out] at hx; exact blDq hx hb3 hx.size
      have hS3 : S w3 := by rw [HS.out]; exact hb4
      refine ⟨hS3, ?_⟩
      (try simp only [List.getElem_toArray, List.getElem_cons_succ, List.getElem_cons_zero, Act.put, List.setIfInBounds_toArray, List.set_cons_zero, List.set_cons_succ])
      refine wpAnyH_take (i := 9) (v := .bool false) rfl (by kernel_rfl) (by kernel_rfl) (by kernel_rfl) (fun _ _ _ h => h) (Or.inl ⟨by rfl, by intro w' hS'; go_simp <;> (first | omega | (rw [IntKind.wrap_i64]; omega) | (rw [IntKind.wrap_u64]; omega) | (rw [IntKind.wrap_u32]; omega) | (rw [Int.tmod_eq_emod_of_nonneg (by omega)]) | rfl)⟩) hS3 ?_
      (try simp only [List.getElem_toArray, List.getElem_cons_succ, List.getElem_cons_zero, Act.put, List.setIfInBounds_toArray, List.set_cons_zero, List.set_cons_succ])
      refine wpAnyH_done (by kernel_rfl) ?_ _
      go_wp2_with fail
      go_roundw
      case rel => exact ⟨i + 1, by omega, by go_num, hb4⟩
      case measure => simp [intDq]; omega
    · obtain rfl : i = n := by omega
      go_wp2_with fail
      go_ret
      exact ⟨rfl, hb⟩
def cellDq (F : Nat → DqI) (j : Nat) : Value := if j % 4 = 0 then .int .i64 (F (j / 4)).m else if j % 4 = 1 then .string (F (j / 4)).a else if j % 4 = 2 then .string (F (j / 4)).p else .string (F (j / 4)).d
theorem cellDq_0 (F : Nat → DqI) (i : Nat) : cellDq F (4 * i) = .int .i64 (F i).m := by unfold cellDq; rw [if_pos (by omega), show 4 * i / 4 = i by omega]
theorem cellDq_1 (F : Nat → DqI) (i : Nat) : cellDq F (4 * i + 1) = .string (F i).a := by unfold cellDq; rw [if_neg (by omega), if_pos (by omega), show (4 * i + 1) / 4 = i by omega]
theorem cellDq_2 (F : Nat → DqI) (i : Nat) : cellDq F (4 * i + 2) = .string (F i).p := by unfold cellDq; rw [if_neg (by omega), if_neg (by omega), if_pos (by omega), show (4 * i + 2) / 4 = i by omega]
theorem cellDq_3 (F : Nat → DqI) (i : Nat) : cellDq F (4 * i + 3) = .string (F i).d := by unfold cellDq; rw [if_neg (by omega), if_neg (by omega), if_neg (by omega), show (4 * i + 3) / 4 = i by omega]
def cellDqX (F : Nat → DqI) (n : Nat) : List Value := (List.range (4 * n)).map (cellDq F)
theorem cellDqX_at (F : Nat → DqI) (n j : Nat) (h : j < 4 * n) : (cellDqX F n)[j]? = some (cellDq F j) := by
  unfold cellDqX; rw [List.getElem?_map, List.getElem?_range h]; rfl
theorem cellDqX_lt {F : Nat → DqI} {n j : Nat} {v : Value} (h : (cellDqX F n)[j]? = some v) : j < 4 * n := by
  obtain ⟨hl, _⟩ := List.getElem?_eq_some_iff.1 h
  simpa [cellDqX] using hl
theorem DqRow.at {w : World} {g n : Nat} {F : Nat → DqI} (h : DqRow w g n F) (j : Nat) (v : Value) (hv : (cellDqX F n)[j]? = some v) : w.cell? ⟨g, j, none⟩ = some v := by
  have hj := cellDqX_lt hv
  rw [cellDqX_at _ _ _ hj] at hv
  injection hv with hv
  subst hv
  obtain ⟨i, h4⟩ : ∃ i, j = 4 * i ∨ j = 4 * i + 1 ∨ j = 4 * i + 2 ∨ j = 4 * i + 3 := ⟨j / 4, by omega⟩
  rcases h4 with rfl | rfl | rfl | rfl
  · rw [cellDq_0]; exact h.c0 i (by omega)
  · rw [cellDq_1]; exact h.c1 i (by omega)
  · rw [cellDq_2]; exact h.c2 i (by omega)
  · rw [cellDq_3]; exact h.c3 i (by omega)
theorem eqDqS_any (v1 v2 : Value) (n : Nat) (F : Nat → DqI) (w : World) (hn : n ≤ 1048576) (h1 : DqArg w v1 n F) (h2 : DqArg w v2 n F) :
    Calls Try.prog 71 #[v1, v2] w fun e w' => e = .returned (.bool true) ∧ Below w.heap.size w w' := by
  obtain ⟨a, c, rfl, ha⟩ := h1
  obtain ⟨b, d, rfl, hb⟩ := h2
  by_cases h0 : 0 < n
  · obtain ⟨g, rfl, hg⟩ := ha h0
    obtain ⟨h, rfl, hh⟩ := hb h0
    exact eqDqS_rows g h c d n (cellDqX F n) w hn (fun i hi => ⟨_, _, _, _, by rw [cellDqX_at _ _ _ (by omega), cellDq_0], by rw [cellDqX_at _ _ _ (by omega), cellDq_1], by rw [cellDqX_at _ _ _ (by omega), cellDq_2], by rw [cellDqX_at _ _ _ (by omega), cellDq_3]⟩) hg.at hh.at hg.lt hh.lt
  · obtain rfl : n = 0 := by omega
    refine (eqDqS_zero a b c d w).mono ?_
    rintro e w' ⟨rfl, rfl⟩
    exact ⟨rfl, Below.refl _ _⟩
end Go.Proofs.Ytanlggglbpibfaa
