/-
  Two lists made of the same links are alike: the law's own way to ask.
-/
import Derived.Test.YtpeddaljgmkomaaLkA
import Derived.Test.YtpeddaljgmkomaaLonH
namespace Go.Proofs.Ytpeddaljgmkomaa
open Go.RowKit
set_option linter.unusedVariables false
set_option linter.unusedSimpArgs false
set_option maxRecDepth 100000 in
set_option maxHeartbeats 1000000 in
theorem eqLk_one (x : LkI) (p1 p2 : Value) (b1 b2 : List Nat) (w : World) (hn : x.p.length ≤ 1048576) (h1 : Hd w (pcsD x.p) p1 b1) (h2 : Hd w (pcsD x.p) p2 b2) :
    Calls Try.prog 41 #[.agg #[.int .i64 x.b, .string x.d, p1], .agg #[.int .i64 x.b, .string x.d, p2]] w fun e w' => e = .returned (.bool true) ∧ Below w.heap.size w w' := by
  obtain ⟨b, d, p⟩ := x
  simp only at hn h1 h2 ⊢
  obtain ⟨a1, n1, c1, rfl, _⟩ := h1.rd.slice
  obtain ⟨a2, n2, c2, rfl, _⟩ := h2.rd.slice
  have HB1 : Hid (Below w.heap.size w ((w.alloc (.cells #[.int .i64 b, .string d, .slice a1 n1 c1] 54)).alloc (.cells #[.int .i64 b, .string d, .slice a2 n2 c2] 54))) := ((Below.refl _ _).alloc (Nat.le_refl _) _).alloc (by simp) _
  have HE : Hid (∀ w', Below w.heap.size w w' → Calls Try.prog 72 #[.slice a1 n1 c1, .slice a2 n2 c2] w' fun e w2 => e = .returned (.bool true) ∧ Below w'.heap.size w' w2) := fun w' hb => eqPcs_deep _ _ p b1 b2 w' hn (h1.under hb) (h2.under hb)
  clear h1 h2 hn
  go_enter Try.func41, Try.ntmps41
  go_wp2_with fail
  refine (HE.out _ HB1.out).mono ?_
  rintro e w3 ⟨rfl, hb3⟩
  have HB3 := dhid (dblow HB1.out hb3 HB1.out.size)
  clear hb3 HB1 HE
  go_wp2_with fail
  go_ret
  exact ⟨rfl, HB3.out⟩
set_option maxRecDepth 100000 in
theorem eqLkS_zero (a b : Option Addr) (c d : Nat) (w : World) :
    Calls Try.prog 17 #[.slice a 0 c, .slice b 0 d] w fun e w' => e = .returned (.bool true) ∧ w' = w := by
  go_enter Try.func17, Try.ntmps17
  go_wp2_with fail
  refine wp_loop_rounds 1 ?_
  rw [rounds_succ]
  go_wp2_with fail
  go_ret
  exact ⟨rfl, rfl⟩
def LkCells (w : World) (g : Nat) (L : List LkI) : Prop := g < w.heap.size ∧ ∀ i x, L[i]? = some x → ∃ pv bs, w.cell? ⟨g, 3 * i, none⟩ = some (.int .i64 x.b) ∧ w.cell? ⟨g, 3 * i + 1, none⟩ = some (.string x.d) ∧ w.cell? ⟨g, 3 * i + 2, none⟩ = some pv ∧ Hd w (pcsD x.p) pv bs
theorem lks_at {w : World} {L : List LkI} {v : Value} {bs : List Nat} (h : Hd w (lksD L) v bs) : ∃ a c, v = .slice a L.length c ∧ (0 < L.length → ∃ g, a = some ⟨g, 0, none⟩ ∧ LkCells w g L) := by
  obtain ⟨a, c, rfl, _, hx⟩ := lks_hd h
  refine ⟨a, c, rfl, fun h0 => ?_⟩
  obtain ⟨g, cur, fb, rfl, hr, hs, _, hc⟩ := hx h0
  refine ⟨g, rfl, (Array.getElem?_eq_some_iff.1 hr).1, fun i x hi => ?_⟩
  obtain ⟨pv, h0, h1, h2, h3⟩ := hc i x hi
  exact ⟨pv, fb i, (cell_of_row _ _ _ _ _ _ hr).trans h0, (cell_of_row _ _ _ _ _ _ hr).trans h1, (cell_of_row _ _ _ _ _ _ hr).trans h2, h3⟩
theorem LkCells.under {w w' : World} {g : Nat} {L : List LkI} (h : LkCells w g L) (hb : Below w.heap.size w w') : LkCells w' g L :=
  ⟨Nat.lt_of_lt_of_le h.1 hb.size, fun i x hi => by
    obtain ⟨pv, bs, h0, h1, h2, h3⟩ := h.2 i x hi
    exact ⟨pv, bs, (hb.cell (p := ⟨g, 3 * i, none⟩) h.1).trans h0, (hb.cell (p := ⟨g, 3 * i + 1, none⟩) h.1).trans h1, (hb.cell (p := ⟨g, 3 * i + 2, none⟩) h.1).trans h2, h3.under hb⟩⟩
set_option maxRecDepth 100000 in
set_option maxHeartbeats 1000000 in
theorem eqLkS_rows (g h c d n : Nat) (L : List LkI) (hLn : n = L.length) (w : World) (hn : n ≤ 1048576) (hp : ∀ x ∈ L, x.p.length ≤ 1048576) (hg : LkCells w g L) (hh : LkCells w h L) :
    Calls Try.prog 17 #[.slice (some ⟨g, 0, none⟩) n c, .slice (some ⟨h, 0, none⟩) n d] w fun e w' => e = .returned (.bool true) ∧ Below w.heap.size w w' := by
  have HX : Hid (n = L.length ∧ (∀ x ∈ L, x.p.length ≤ 1048576) ∧ LkCells w g L ∧ LkCells w h L) := ⟨hLn, hp, hg, hh⟩
  have HE : Hid (∀ (x : LkI) (p1 p2 : Value) (b1 b2 : List Nat) w, x.p.length ≤ 1048576 → Hd w (pcsD x.p) p1 b1 → Hd w (pcsD x.p) p2 b2 → Calls Try.prog 41 #[.agg #[.int .i64 x.b, .string x.d, p1], .agg #[.int .i64 x.b, .string x.d, p2]] w fun e w' => e = .returned (.bool true) ∧ Below w.heap.size w w') := fun x p1 p2 b1 b2 w h1 h2 h3 => eqLk_one x p1 p2 b1 b2 w h1 h2 h3
  clear hg hh hp hLn
  go_enter Try.func17, Try.ntmps17
  go_wp2_with fail
  go_loopw [5] (fun v wr => ∃ i : Nat, i ≤ n ∧ v = .int .i64 (i : Int) ∧ Below w.heap.size w wr) (fun v _ => n - (intN v).toNat)
  case atStart => exact ⟨0, by omega, rfl, Below.refl _ _⟩
  case round =>
    obtain ⟨i, hi, rfl, hb⟩ := hrel
    by_cases hlt : i < n
    · have hltI : (i : Int) < (n : Int) := by omega
      have hx := List.getElem?_eq_getElem (l := L) (i := i) (by have := HX.out.1; omega)
      have hpx := HX.out.2.1 _ (List.mem_of_getElem? hx)
      obtain ⟨v1, b1, x0, x1, x2, hd1⟩ := HX.out.2.2.1.2 i _ hx
      obtain ⟨v2, b2, y0, y1, y2, hd2⟩ := HX.out.2.2.2.2 i _ hx
      have hgl := HX.out.2.2.1.1
      have hhl := HX.out.2.2.2.1
      generalize L[i]'_ = x at hx hpx x0 x1 x2 y0 y1 y2 hd1 hd2
      obtain ⟨a1, n1, c1, rfl, _⟩ := hd1.rd.slice
      obtain ⟨a2, n2, c2, rfl, _⟩ := hd2.rd.slice
      obtain ⟨q, hq⟩ : ∃ q, q = 3 * i := ⟨_, rfl⟩
      rw [← hq] at x0 x1 x2 y0 y1 y2
      obtain ⟨S, hSS⟩ : ∃ S : World → Prop, S = fun w' => Below w.heap.size w w' := ⟨_, rfl⟩
      have hSd : S wr.drew := by rw [hSS]; exact hb.drew
      have hrow1 : ∀ w', S w' → w'.rangeAt g q [.int .i64 x.b, .string x.d, .slice a1 n1 c1] := fun w' hw' j v hv => by
        rw [hSS] at hw'
        rw [Below.cell hw' (p := ⟨g, q + j, none⟩) hgl]
        match j, hv with
        | 0, hv => simp at hv; subst hv; exact x0
        | 1, hv => simp at hv; subst hv; exact x1
        | 2, hv => simp at hv; subst hv; exact x2
      have hrow2 : ∀ w', S w' → w'.rangeAt h q [.int .i64 x.b, .string x.d, .slice a2 n2 c2] := fun w' hw' j v hv => by
        rw [hSS] at hw'
        rw [Below.cell hw' (p := ⟨h, q + j, none⟩) hhl]
        match j, hv with
        | 0, hv => simp at hv; subst hv; exact y0
        | 1, hv => simp at hv; subst hv; exact y1
        | 2, hv => simp at hv; subst hv; exact y2
      have HRG := dhid hrow1
      have HRH := dhid hrow2
      have HEE : Hid (∀ w', Below w.heap.size w w' → Calls Try.prog 41 #[.agg #[.int .i64 x.b, .string x.d, .slice a1 n1 c1], .agg #[.int .i64 x.b, .string x.d, .slice a2 n2 c2]] w' fun e w2 => e = .returned (.bool true) ∧ Below w'.heap.size w' w2) := fun w' hb => HE.out x _ _ b1 b2 w' hpx (hd1.under hb) (hd2.under hb)
      have HS := dhid hSS
      have HQ : Hid (q = 3 * i) := hq
      have hiq : i * 3 = q := by omega
      clear hSS hrow1 hrow2 x0 x1 x2 y0 y1 y2 hq hd1 hd2 hgl hhl hx hpx
      go_wp2_with fail
      refine wp_region_held (S := S) (by kernel_rfl) ?_
      change wpAnyH _ _ _ _ _ _ _ _ (World.drew _)
      refine wpAnyH_take (i := 0) (v := .slice (some ⟨g, 0, none⟩) n c) rfl (by kernel_rfl) (by kernel_rfl) (by kernel_rfl) (fun _ _ _ h => h) (Or.inl ⟨by rfl, by intro w' hS'; go_simp <;> (first | omega | (rw [IntKind.wrap_i64]; omega) | (rw [IntKind.wrap_u64]; omega) | (rw [IntKind.wrap_u32]; omega) | (rw [Int.tmod_eq_emod_of_nonneg (by omega)]))⟩) hSd ?_
      (try simp only [List.getElem_toArray, List.getElem_cons_succ, List.getElem_cons_zero, Act.put, List.setIfInBounds_toArray, List.set_cons_zero, List.set_cons_succ])
      refine wpAnyH_take (i := 1) (v := .int .i64 (i : Int)) rfl (by kernel_rfl) (by kernel_rfl) (by kernel_rfl) (fun _ _ _ h => h) (Or.inl ⟨by rfl, by intro w' hS'; go_simp <;> (first | omega | (rw [IntKind.wrap_i64]; omega) | (rw [IntKind.wrap_u64]; omega) | (rw [IntKind.wrap_u32]; omega) | (rw [Int.tmod_eq_emod_of_nonneg (by omega)]))⟩) hSd ?_
      (try simp only [List.getElem_toArray, List.getElem_cons_succ, List.getElem_cons_zero, Act.put, List.setIfInBounds_toArray, List.set_cons_zero, List.set_cons_succ])
      refine wpAnyH_take (i := 2) (v := .pointer (some ⟨g, q, none⟩)) rfl (by kernel_rfl) (by kernel_rfl) (by kernel_rfl) (fun _ _ _ h => h) (Or.inl ⟨by rfl, by intro w' hS'; go_simp <;> (first | omega | (rw [IntKind.wrap_i64]; omega) | (rw [IntKind.wrap_u64]; omega) | (rw [IntKind.wrap_u32]; omega) | (rw [Int.tmod_eq_emod_of_nonneg (by omega)]))⟩) hSd ?_
      (try simp only [List.getElem_toArray, List.getElem_cons_succ, List.getElem_cons_zero, Act.put, List.setIfInBounds_toArray, List.set_cons_zero, List.set_cons_succ])
      refine wpAnyH_take (i := 3) (v := .agg #[.int .i64 x.b, .string x.d, .slice a1 n1 c1]) rfl (by kernel_rfl) (by kernel_rfl) (by kernel_rfl) (fun _ _ _ h => h) (yieldsIf_load_mid (by rfl) 54 (.tmp 19) rfl g q rfl [.int .i64 x.b, .string x.d, .slice a1 n1 c1] _ HRG.out Try.underlying54 rfl (by kernel_rfl)) hSd ?_
      (try simp only [List.getElem_toArray, List.getElem_cons_succ, List.getElem_cons_zero, Act.put, List.setIfInBounds_toArray, List.set_cons_zero, List.set_cons_succ])
      refine wpAnyH_take (i := 4) (v := .slice (some ⟨h, 0, none⟩) n d) rfl (by kernel_rfl) (by kernel_rfl) (by kernel_rfl) (fun _ _ _ h => h) (Or.inl ⟨by rfl, by intro w' hS'; go_simp <;> (first | omega | (rw [IntKind.wrap_i64]; omega) | (rw [IntKind.wrap_u64]; omega) | (rw [IntKind.wrap_u32]; omega) | (rw [Int.tmod_eq_emod_of_nonneg (by omega)]))⟩) hSd ?_
      (try simp only [List.getElem_toArray, List.getElem_cons_succ, List.getElem_cons_zero, Act.put, List.setIfInBounds_toArray, List.set_cons_zero, List.set_cons_succ])
      refine wpAnyH_take (i := 5) (v := .int .i64 (i : Int)) rfl (by kernel_rfl) (by kernel_rfl) (by kernel_rfl) (fun _ _ _ h => h) (Or.inl ⟨by rfl, by intro w' hS'; go_simp <;> (first | omega | (rw [IntKind.wrap_i64]; omega) | (rw [IntKind.wrap_u64]; omega) | (rw [IntKind.wrap_u32]; omega) | (rw [Int.tmod_eq_emod_of_nonneg (by omega)]))⟩) hSd ?_
      (try simp only [List.getElem_toArray, List.getElem_cons_succ, List.getElem_cons_zero, Act.put, List.setIfInBounds_toArray, List.set_cons_zero, List.set_cons_succ])
      refine wpAnyH_take (i := 6) (v := .pointer (some ⟨h, q, none⟩)) rfl (by kernel_rfl) (by kernel_rfl) (by kernel_rfl) (fun _ _ _ h => h) (Or.inl ⟨by rfl, by intro w' hS'; go_simp <;> (first | omega | (rw [IntKind.wrap_i64]; omega) | (rw [IntKind.wrap_u64]; omega) | (rw [IntKind.wrap_u32]; omega) | (rw [Int.tmod_eq_emod_of_nonneg (by omega)]))⟩) hSd ?_
      (try simp only [List.getElem_toArray, List.getElem_cons_succ, List.getElem_cons_zero, Act.put, List.setIfInBounds_toArray, List.set_cons_zero, List.set_cons_succ])
      refine wpAnyH_take (i := 7) (v := .agg #[.int .i64 x.b, .string x.d, .slice a2 n2 c2]) rfl (by kernel_rfl) (by kernel_rfl) (by kernel_rfl) (fun _ _ _ h => h) (yieldsIf_load_mid (by rfl) 54 (.tmp 23) rfl h q rfl [.int .i64 x.b, .string x.d, .slice a2 n2 c2] _ HRH.out Try.underlying54 rfl (by kernel_rfl)) hSd ?_
      (try simp only [List.getElem_toArray, List.getElem_cons_succ, List.getElem_cons_zero, Act.put, List.setIfInBounds_toArray, List.set_cons_zero, List.set_cons_succ])
      have hbS : Below w.heap.size w wr.drew := by have hx := hSd; rw [HS.out] at hx; exact hx
      refine held_step (i := 8) (by kernel_rfl) rfl (by rfl) ?_
      go_simp
      refine (HEE.out _ hbS).mono ?_
      rintro e w3 ⟨rfl, hb3⟩
      have hb4 : Below w.heap.size w w3 := dblow hbS hb3 hbS.size
      have hS3 : S w3 := by rw [HS.out]; exact hb4
      refine ⟨hS3, ?_⟩
      (try simp only [List.getElem_toArray, List.getElem_cons_succ, List.getElem_cons_zero, Act.put, List.setIfInBounds_toArray, List.set_cons_zero, List.set_cons_succ])
      refine wpAnyH_take (i := 9) (v := .bool false) rfl (by kernel_rfl) (by kernel_rfl) (by kernel_rfl) (fun _ _ _ h => h) (Or.inl ⟨by rfl, by intro w' hS'; go_simp <;> (first | omega | (rw [IntKind.wrap_i64]; omega) | (rw [IntKind.wrap_u64]; omega) | (rw [IntKind.wrap_u32]; omega) | (rw [Int.tmod_eq_emod_of_nonneg (by omega)]) | rfl)⟩) hS3 ?_
      (try simp only [List.getElem_toArray, List.getElem_cons_succ, List.getElem_cons_zero, Act.put, List.setIfInBounds_toArray, List.set_cons_zero, List.set_cons_succ])
      refine wpAnyH_done (by kernel_rfl) ?_ _
      go_wp2_with fail
      go_roundw
      case rel => exact ⟨i + 1, by omega, by go_num, hb4⟩
      case measure => simp [intN]; omega
    · obtain rfl : i = n := by omega
      go_wp2_with fail
      go_ret
      exact ⟨rfl, hb⟩
theorem eqLkS_deep (v1 v2 : Value) (L : List LkI) (b1 b2 : List Nat) (w : World) (hn : L.length ≤ 1048576) (hp : ∀ x ∈ L, x.p.length ≤ 1048576) (h1 : Hd w (lksD L) v1 b1) (h2 : Hd w (lksD L) v2 b2) :
    Calls Try.prog 17 #[v1, v2] w fun e w' => e = .returned (.bool true) ∧ Below w.heap.size w w' := by
  obtain ⟨a, c, rfl, ha⟩ := lks_at h1
  obtain ⟨b, d, rfl, hb⟩ := lks_at h2
  by_cases h0 : 0 < L.length
  · obtain ⟨g, rfl, hg⟩ := ha h0
    obtain ⟨h, rfl, hh⟩ := hb h0
    exact eqLkS_rows g h c d L.length L rfl w hn hp hg hh
  · have e0 : L = [] := List.length_eq_zero_iff.1 (by omega)
    subst e0
    refine (eqLkS_zero a b c d w).mono ?_
    rintro e w' ⟨rfl, rfl⟩
    exact ⟨rfl, Below.refl _ _⟩
end Go.Proofs.Ytpeddaljgmkomaa
