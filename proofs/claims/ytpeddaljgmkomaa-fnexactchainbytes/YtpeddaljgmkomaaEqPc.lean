/-
  Two lists made of the same pieces are alike: the law's own way to ask.
-/
import Derived.Test.YtpeddaljgmkomaaToPc
import Derived.Test.YtpeddaljgmkomaaLonH
namespace Go.Proofs.Ytpeddaljgmkomaa
open Go.RowKit
set_option linter.unusedVariables false
set_option linter.unusedSimpArgs false
set_option maxRecDepth 100000 in
theorem eqPcS_zero (a b : Option Addr) (c d : Nat) (w : World) :
    Calls Try.prog 72 #[.slice a 0 c, .slice b 0 d] w fun e w' => e = .returned (.bool true) ∧ w' = w := by
  go_enter Try.func72, Try.ntmps72
  go_wp2_with fail
  refine wp_loop_rounds 1 ?_
  rw [rounds_succ]
  go_wp2_with fail
  go_ret
  exact ⟨rfl, rfl⟩
set_option maxRecDepth 100000 in
set_option maxHeartbeats 1000000 in
theorem eqPcS_rows (g h c d n : Nat) (xs : List Value) (w : World) (hn : n ≤ 1048576) (hx : ∀ i, i < n → ∃ (k b : Int) (d : ByteArray), xs[3 * i]? = some (.int .i64 k) ∧ xs[3 * i + 1]? = some (.int .i64 b) ∧ xs[3 * i + 2]? = some (.string d))
    (hg : ∀ j v, xs[j]? = some v → w.cell? ⟨g, j, none⟩ = some v) (hh : ∀ j v, xs[j]? = some v → w.cell? ⟨h, j, none⟩ = some v) (hgl : g < w.heap.size) (hhl : h < w.heap.size) :
    Calls Try.prog 72 #[.slice (some ⟨g, 0, none⟩) n c, .slice (some ⟨h, 0, none⟩) n d] w fun e w' => e = .returned (.bool true) ∧ Below w.heap.size w w' := by
  have HX : Hid _ := hx
  have HG : Hid _ := hg
  have HH : Hid _ := hh
  have HGL : Hid (g < w.heap.size ∧ h < w.heap.size) := ⟨hgl, hhl⟩
  have HE : Hid (∀ (k b : Int) (d : ByteArray) w, _) := fun k b d w => eqPc_same k b d w
  clear hx hg hh hgl hhl
  go_enter Try.func72, Try.ntmps72
  go_wp2_with fail
  go_loopw [5] (fun v wr => ∃ i : Nat, i ≤ n ∧ v = .int .i64 (i : Int) ∧ Below w.heap.size w wr) (fun v _ => n - (intN v).toNat)
  case atStart => exact ⟨0, by omega, rfl, Below.refl _ _⟩
  case round =>
    obtain ⟨i, hi, rfl, hb⟩ := hrel
    by_cases hlt : i < n
    · have hltI : (i : Int) < (n : Int) := by omega
      obtain ⟨k, b, dd, x0, x1, x2⟩ := HX.out i hlt
      obtain ⟨q, hq⟩ : ∃ q, q = 3 * i := ⟨_, rfl⟩
      rw [← hq] at x0 x1 x2
      obtain ⟨S, hSS⟩ : ∃ S : World → Prop, S = fun w' => Below w.heap.size w w' := ⟨_, rfl⟩
      have hSd : S wr.drew := by rw [hSS]; exact hb.drew
      have hrow : ∀ (t : Nat), (∀ j v, xs[j]? = some v → w.cell? ⟨t, j, none⟩ = some v) → t < w.heap.size → ∀ w', S w' → w'.rangeAt t q [.int .i64 k, .int .i64 b, .string dd] := fun t ht htl w' hw' j v hv => by
        rw [hSS] at hw'
        rw [Below.cell hw' (p := ⟨t, q + j, none⟩) htl]
        apply ht
        match j, hv with
        | 0, hv => simp at hv; subst hv; exact x0
        | 1, hv => simp at hv; subst hv; exact x1
        | 2, hv => simp at hv; subst hv; exact x2
      have HRG : Hid (∀ w', S w' → w'.rangeAt g q [.int .i64 k, .int .i64 b, .string dd]) := hrow g HG.out HGL.out.1
      have HRH : Hid (∀ w', S w' → w'.rangeAt h q [.int .i64 k, .int .i64 b, .string dd]) := hrow h HH.out HGL.out.2
      have HEE : Hid (∀ w, Calls Try.prog 96 #[pcV k b dd, pcV k b dd] w fun e w' => e = .returned (.bool true) ∧ Below w.heap.size w w') := fun w => HE.out k b dd w
      have HS : Hid _ := hSS
      have HQ : Hid (q = 3 * i) := hq
      have hiq : i * 3 = q := by omega
      unfold pcV at HEE
      clear hSS hrow x0 x1 x2 hq
      go_wp2_with fail
      refine wp_region_held (S := S) (by kernel_rfl) ?_
      change wpAnyH _ _ _ _ _ _ _ _ (World.drew _)
      refine wpAnyH_take (i := 0) (v := .slice (some ⟨g, 0, none⟩) n c) rfl (by kernel_rfl) (by kernel_rfl) (by kernel_rfl) (fun _ _ _ h => h) (Or.inl ⟨by rfl, by intro w' hS'; go_simp <;> (first | omega | (rw [IntKind.wrap_i64]; omega) | (rw [IntKind.wrap_u64]; omega) | (rw [IntKind.wrap_u32]; omega) | (rw [Int.tmod_eq_emod_of_nonneg (by omega)]))⟩) hSd ?_
      (try simp only [List.getElem_toArray, List.getElem_cons_succ, List.getElem_cons_zero, Act.put, List.setIfInBounds_toArray, List.set_cons_zero, List.set_cons_succ])
      refine wpAnyH_take (i := 1) (v := .int .i64 (i : Int)) rfl (by kernel_rfl) (by kernel_rfl) (by kernel_rfl) (fun _ _ _ h => h) (Or.inl ⟨by rfl, by intro w' hS'; go_simp <;> (first | omega | (rw [IntKind.wrap_i64]; omega) | (rw [IntKind.wrap_u64]; omega) | (rw [IntKind.wrap_u32]; omega) | (rw [Int.tmod_eq_emod_of_nonneg (by omega)]))⟩) hSd ?_
      (try simp only [List.getElem_toArray, List.getElem_cons_succ, List.getElem_cons_zero, Act.put, List.setIfInBounds_toArray, List.set_cons_zero, List.set_cons_succ])
      refine wpAnyH_take (i := 2) (v := .pointer (some ⟨g, q, none⟩)) rfl (by kernel_rfl) (by kernel_rfl) (by kernel_rfl) (fun _ _ _ h => h) (Or.inl ⟨by rfl, by intro w' hS'; go_simp <;> (first | omega | (rw [IntKind.wrap_i64]; omega) | (rw [IntKind.wrap_u64]; omega) | (rw [IntKind.wrap_u32]; omega) | (rw [Int.tmod_eq_emod_of_nonneg (by omega)]))⟩) hSd ?_
      (try simp only [List.getElem_toArray, List.getElem_cons_succ, List.getElem_cons_zero, Act.put, List.setIfInBounds_toArray, List.set_cons_zero, List.set_cons_succ])
      refine wpAnyH_take (i := 3) (v := .agg #[.int .i64 k, .int .i64 b, .string dd]) rfl (by kernel_rfl) (by kernel_rfl) (by kernel_rfl) (fun _ _ _ h => h) (yieldsIf_load_mid (by rfl) 89 (.tmp 19) rfl g q rfl [.int .i64 k, .int .i64 b, .string dd] _ HRG.out Try.underlying89 rfl (by kernel_rfl)) hSd ?_
      (try simp only [List.getElem_toArray, List.getElem_cons_succ, List.getElem_cons_zero, Act.put, List.setIfInBounds_toArray, List.set_cons_zero, List.set_cons_succ])
      refine wpAnyH_take (i := 4) (v := .slice (some ⟨h, 0, none⟩) n d) rfl (by kernel_rfl) (by kernel_rfl) (by kernel_rfl) (fun _ _ _ h => h) (Or.inl ⟨by rfl, by intro w' hS'; go_simp <;> (first | omega | (rw [IntKind.wrap_i64]; omega) | (rw [IntKind.wrap_u64]; omega) | (rw [IntKind.wrap_u32]; omega) | (rw [Int.tmod_eq_emod_of_nonneg (by omega)]))⟩) hSd ?_
      (try simp only [List.getElem_toArray, List.getElem_cons_succ, List.getElem_cons_zero, Act.put, List.setIfInBounds_toArray, List.set_cons_zero, List.set_cons_succ])
      refine wpAnyH_take (i := 5) (v := .int .i64 (i : Int)) rfl (by kernel_rfl) (by kernel_rfl) (by kernel_rfl) (fun _ _ _ h => h) (Or.inl ⟨by rfl, by intro w' hS'; go_simp <;> (first | omega | (rw [IntKind.wrap_i64]; omega) | (rw [IntKind.wrap_u64]; omega) | (rw [IntKind.wrap_u32]; omega) | (rw [Int.tmod_eq_emod_of_nonneg (by omega)]))⟩) hSd ?_
      (try simp only [List.getElem_toArray, List.getElem_cons_succ, List.getElem_cons_zero, Act.put, List.setIfInBounds_toArray, List.set_cons_zero, List.set_cons_succ])
      refine wpAnyH_take (i := 6) (v := .pointer (some ⟨h, q, none⟩)) rfl (by kernel_rfl) (by kernel_rfl) (by kernel_rfl) (fun _ _ _ h => h) (Or.inl ⟨by rfl, by intro w' hS'; go_simp <;> (first | omega | (rw [IntKind.wrap_i64]; omega) | (rw [IntKind.wrap_u64]; omega) | (rw [IntKind.wrap_u32]; omega) | (rw [Int.tmod_eq_emod_of_nonneg (by omega)]))⟩) hSd ?_
      (try simp only [List.getElem_toArray, List.getElem_cons_succ, List.getElem_cons_zero, Act.put, List.setIfInBounds_toArray, List.set_cons_zero, List.set_cons_succ])
      refine wpAnyH_take (i := 7) (v := .agg #[.int .i64 k, .int .i64 b, .string dd]) rfl (by kernel_rfl) (by kernel_rfl) (by kernel_rfl) (fun _ _ _ h => h) (yieldsIf_load_mid (by rfl) 89 (.tmp 23) rfl h q rfl [.int .i64 k, .int .i64 b, .string dd] _ HRH.out Try.underlying89 rfl (by kernel_rfl)) hSd ?_
      (try simp only [List.getElem_toArray, List.getElem_cons_succ, List.getElem_cons_zero, Act.put, List.setIfInBounds_toArray, List.set_cons_zero, List.set_cons_succ])
      refine held_step (i := 8) (by kernel_rfl) rfl (by rfl) ?_
      go_simp
      refine (HEE.out _).mono ?_
      rintro e w3 ⟨rfl, hb3⟩
      have hb4 : Below w.heap.size w w3 := by have hx := hSd; rw [HS.out] at hx; exact ⟨hb3.os.trans hx.os, hb3.tape.trans hx.tape, hb3.output.trans hx.output, Nat.le_trans hx.size hb3.size, fun i hi => (hb3.block i (Nat.lt_of_lt_of_le hi hx.size)).trans (hx.block i hi)⟩
      have hS3 : S w3 := by rw [HS.out]; exact hb4
      refine ⟨hS3, ?_⟩
      (try simp only [List.getElem_toArray, List.getElem_cons_succ, List.getElem_cons_zero, Act.put, List.setIfInBounds_toArray, List.set_cons_zero, List.set_cons_succ])
      refine wpAnyH_take (i := 9) (v := .bool false) rfl (by kernel_rfl) (by kernel_rfl) (by kernel_rfl) (fun _ _ _ h => h) (Or.inl ⟨by rfl, by intro w' hS'; go_simp <;> (first | omega | (rw [IntKind.wrap_i64]; omega) | (rw [IntKind.wrap_u64]; omega) | (rw [IntKind.wrap_u32]; omega) | (rw [Int.tmod_eq_emod_of_nonneg (by omega)]) | rfl)⟩) hS3 ?_
      (try simp only [List.getElem_toArray, List.getElem_cons_succ, List.getElem_cons_zero, Act.put, List.setIfInBounds_toArray, List.set_cons_zero, List.set_cons_succ])
      refine wpAnyH_done (by kernel_rfl) ?_ _
      go_wp2_with fail
      go_roundw
      case rel => exact ⟨i + 1, by omega, by go_num, hb4⟩
      case measure => simp [intN]; omega
    · obtain rfl : i = n := by omega
      go_wp2_with fail
      go_ret
      exact ⟨rfl, hb⟩
def cellP (F : Nat → PcI) (j : Nat) : Value := if j % 3 = 0 then .int .i64 (F (j / 3)).f else if j % 3 = 1 then .int .i64 (F (j / 3)).l else .string (F (j / 3)).d
theorem cellP_0 (F : Nat → PcI) (i : Nat) : cellP F (3 * i) = .int .i64 (F i).f := by unfold cellP; rw [if_pos (by omega), show 3 * i / 3 = i by omega]
theorem cellP_1 (F : Nat → PcI) (i : Nat) : cellP F (3 * i + 1) = .int .i64 (F i).l := by unfold cellP; rw [if_neg (by omega), if_pos (by omega), show (3 * i + 1) / 3 = i by omega]
theorem cellP_2 (F : Nat → PcI) (i : Nat) : cellP F (3 * i + 2) = .string (F i).d := by unfold cellP; rw [if_neg (by omega), if_neg (by omega), show (3 * i + 2) / 3 = i by omega]
def cellPX (F : Nat → PcI) (n : Nat) : List Value := (List.range (3 * n)).map (cellP F)
theorem cellPX_at (F : Nat → PcI) (n j : Nat) (h : j < 3 * n) : (cellPX F n)[j]? = some (cellP F j) := by
  unfold cellPX; rw [List.getElem?_map, List.getElem?_range h]; rfl
theorem cellPX_lt {F : Nat → PcI} {n j : Nat} {v : Value} (h : (cellPX F n)[j]? = some v) : j < 3 * n := by
  obtain ⟨hl, _⟩ := List.getElem?_eq_some_iff.1 h
  simpa [cellPX] using hl
theorem PcRow.at {w : World} {g n : Nat} {F : Nat → PcI} (h : PcRow w g n F) (j : Nat) (v : Value) (hv : (cellPX F n)[j]? = some v) : w.cell? ⟨g, j, none⟩ = some v := by
  have hj := cellPX_lt hv
  rw [cellPX_at _ _ _ hj] at hv
  injection hv with hv
  subst hv
  obtain ⟨i, h4⟩ : ∃ i, j = 3 * i ∨ j = 3 * i + 1 ∨ j = 3 * i + 2 := ⟨j / 3, by omega⟩
  rcases h4 with rfl | rfl | rfl
  · rw [cellP_0]; exact h.c0 i (by omega)
  · rw [cellP_1]; exact h.c1 i (by omega)
  · rw [cellP_2]; exact h.c2 i (by omega)
theorem eqPcS_any (v1 v2 : Value) (n : Nat) (F : Nat → PcI) (w : World) (hn : n ≤ 1048576) (h1 : PcArg w v1 n F) (h2 : PcArg w v2 n F) :
    Calls Try.prog 72 #[v1, v2] w fun e w' => e = .returned (.bool true) ∧ Below w.heap.size w w' := by
  obtain ⟨a, c, rfl, ha⟩ := h1
  obtain ⟨b, d, rfl, hb⟩ := h2
  by_cases h0 : 0 < n
  · obtain ⟨g, rfl, hg⟩ := ha h0
    obtain ⟨h, rfl, hh⟩ := hb h0
    exact eqPcS_rows g h c d n (cellPX F n) w hn (fun i hi => ⟨_, _, _, by rw [cellPX_at _ _ _ (by omega), cellP_0], by rw [cellPX_at _ _ _ (by omega), cellP_1], by rw [cellPX_at _ _ _ (by omega), cellP_2]⟩) hg.at hh.at hg.lt hh.lt
  · obtain rfl : n = 0 := by omega
    refine (eqPcS_zero a b c d w).mono ?_
    rintro e w' ⟨rfl, rfl⟩
    exact ⟨rfl, Below.refl _ _⟩
end Go.Proofs.Ytpeddaljgmkomaa
