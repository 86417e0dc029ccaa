/-
  Several texts of this seat as one: LkE, CmM, CmC.
-/
import Derived.Test.YtpeddaljgmkomaaPk08
import Derived.Test.YtpeddaljgmkomaaPk01
import Derived.Test.YtpeddaljgmkomaaPk07

/-!   Two lists made of the same links are alike: the law's own way to ask. -/
namespace Go.Proofs.Ytpeddaljgmkomaa
open Go.RowKit
set_option linter.unusedVariables false
set_option linter.unusedSimpArgs false
set_option maxRecDepth 100000 in
set_option maxHeartbeats 1000000 in
theorem eqLk_one (x : LkI) (p1 p2 : Value) (b1 b2 : List Nat) (w : World) (hn : x.p.length ≤ 1048576) (h1 : Hd w (pcsD x.p) p1 b1) (h2 : Hd w (pcsD x.p) p2 b2) :
    Calls Try.prog 41 #[.agg #[.int .i64 x.b, .string x.d, p1], .agg #[.int .i64 x.b, .string x.d, p2]] w fun e w' => e = .returned (.bool true) ∧ Below w.heap.size w w' := by
  obtain ⟨b, d, p⟩ := x
  simp only at hn h1 h2 ⊢
  obtain ⟨a1, n1, c1, rfl, _⟩ := h1.rd.slice
  obtain ⟨a2, n2, c2, rfl, _⟩ := h2.rd.slice
  have HB1 : Hid (Below w.heap.size w ((w.alloc (.cells #[.int .i64 b, .string d, .slice a1 n1 c1] 54)).alloc (.cells #[.int .i64 b, .string d, .slice a2 n2 c2] 54))) := ((Below.refl _ _).alloc (Nat.le_refl _) _).alloc (by simp) _
  have HE : Hid (∀ w', Below w.heap.size w w' → Calls Try.prog 72 #[.slice a1 n1 c1, .slice a2 n2 c2] w' fun e w2 => e = .returned (.bool true) ∧ Below w'.heap.size w' w2) := fun w' hb => eqPcs_deep _ _ p b1 b2 w' hn (h1.under hb) (h2.under hb)
  clear h1 h2 hn
  go_enter Try.func41, Try.ntmps41
  go_wp2_with fail
  refine (HE.out _ HB1.out).mono ?_
  rintro e w3 ⟨rfl, hb3⟩
  have HB3 := dhid (dblow HB1.out hb3 HB1.out.size)
  clear hb3 HB1 HE
  go_wp2_with fail
  go_ret
  exact ⟨rfl, HB3.out⟩
set_option maxRecDepth 100000 in
theorem eqLkS_zero (a b : Option Addr) (c d : Nat) (w : World) :
    Calls Try.prog 17 #[.slice a 0 c, .slice b 0 d] w fun e w' => e = .returned (.bool true) ∧ w' = w := by
  go_enter Try.func17, Try.ntmps17
  go_wp2_with fail
  refine wp_loop_rounds 1 ?_
  rw [rounds_succ]
  go_wp2_with fail
  go_ret
  exact ⟨rfl, rfl⟩
def LkCells (w : World) (g : Nat) (L : List LkI) : Prop := g < w.heap.size ∧ ∀ i x, L[i]? = some x → ∃ pv bs, w.cell? ⟨g, 3 * i, none⟩ = some (.int .i64 x.b) ∧ w.cell? ⟨g, 3 * i + 1, none⟩ = some (.string x.d) ∧ w.cell? ⟨g, 3 * i + 2, none⟩ = some pv ∧ Hd w (pcsD x.p) pv bs
theorem lks_at {w : World} {L : List LkI} {v : Value} {bs : List Nat} (h : Hd w (lksD L) v bs) : ∃ a c, v = .slice a L.length c ∧ (0 < L.length → ∃ g, a = some ⟨g, 0, none⟩ ∧ LkCells w g L) := by
  obtain ⟨a, c, rfl, _, hx⟩ := lks_hd h
  refine ⟨a, c, rfl, fun h0 => ?_⟩
  obtain ⟨g, cur, fb, rfl, hr, hs, _, hc⟩ := hx h0
  refine ⟨g, rfl, (Array.getElem?_eq_some_iff.1 hr).1, fun i x hi => ?_⟩
  obtain ⟨pv, h0, h1, h2, h3⟩ := hc i x hi
  exact ⟨pv, fb i, (cell_of_row _ _ _ _ _ _ hr).trans h0, (cell_of_row _ _ _ _ _ _ hr).trans h1, (cell_of_row _ _ _ _ _ _ hr).trans h2, h3⟩
theorem LkCells.under {w w' : World} {g : Nat} {L : List LkI} (h : LkCells w g L) (hb : Below w.heap.size w w') : LkCells w' g L :=
  ⟨Nat.lt_of_lt_of_le h.1 hb.size, fun i x hi => by
    obtain ⟨pv, bs, h0, h1, h2, h3⟩ := h.2 i x hi
    exact ⟨pv, bs, (hb.cell (p := ⟨g, 3 * i, none⟩) h.1).trans h0, (hb.cell (p := ⟨g, 3 * i + 1, none⟩) h.1).trans h1, (hb.cell (p := ⟨g, 3 * i + 2, none⟩) h.1).trans h2, h3.under hb⟩⟩
set_option maxRecDepth 100000 in
set_option maxHeartbeats 1000000 in
theorem eqLkS_rows (g h c d n : Nat) (L : List LkI) (hLn : n = L.length) (w : World) (hn : n ≤ 1048576) (hp : ∀ x ∈ L, x.p.length ≤ 1048576) (hg : LkCells w g L) (hh : LkCells w h L) :
    Calls Try.prog 17 #[.slice (some ⟨g, 0, none⟩) n c, .slice (some ⟨h, 0, none⟩) n d] w fun e w' => e = .returned (.bool true) ∧ Below w.heap.size w w' := by
  have HX : Hid (n = L.length ∧ (∀ x ∈ L, x.p.length ≤ 1048576) ∧ LkCells w g L ∧ LkCells w h L) := ⟨hLn, hp, hg, hh⟩
  have HE : Hid (∀ (x : LkI) (p1 p2 : Value) (b1 b2 : List Nat) w, x.p.length ≤ 1048576 → Hd w (pcsD x.p) p1 b1 → Hd w (pcsD x.p) p2 b2 → Calls Try.prog 41 #[.agg #[.int .i64 x.b, .string x.d, p1], .agg #[.int .i64 x.b, .string x.d, p2]] w fun e w' => e = .returned (.bool true) ∧ Below w.heap.size w w') := fun x p1 p2 b1 b2 w h1 h2 h3 => eqLk_one x p1 p2 b1 b2 w h1 h2 h3
  clear hg hh hp hLn
  go_enter Try.func17, Try.ntmps17
  go_wp2_with fail
  go_loopw [5] (fun v wr => ∃ i : Nat, i ≤ n ∧ v = .int .i64 (i : Int) ∧ Below w.heap.size w wr) (fun v _ => n - (intN v).toNat)
  case atStart => exact ⟨0, by omega, rfl, Below.refl _ _⟩
  case round =>
    obtain ⟨i, hi, rfl, hb⟩ := hrel
    by_cases hlt : i < n
    · have hltI : (i : Int) < (n : Int) := by omega
      have hx := List.getElem?_eq_getElem (l := L) (i := i) (by have := HX.out.1; omega)
      have hpx := HX.out.2.1 _ (List.mem_of_getElem? hx)
      obtain ⟨v1, b1, x0, x1, x2, hd1⟩ := HX.out.2.2.1.2 i _ hx
      obtain ⟨v2, b2, y0, y1, y2, hd2⟩ := HX.out.2.2.2.2 i _ hx
      have hgl := HX.out.2.2.1.1
      have hhl := HX.out.2.2.2.1
      generalize L[i]'_ = x at hx hpx x0 x1 x2 y0 y1 y2 hd1 hd2
      obtain ⟨a1, n1, c1, rfl, _⟩ := hd1.rd.slice
      obtain ⟨a2, n2, c2, rfl, _⟩ := hd2.rd.slice
      obtain ⟨q, hq⟩ : ∃ q, q = 3 * i := ⟨_, rfl⟩
      rw [← hq] at x0 x1 x2 y0 y1 y2
      obtain ⟨S, hSS⟩ : ∃ S : World → Prop, S = fun w' => Below w.heap.size w w' := ⟨_, rfl⟩
      have hSd : S wr.drew := by rw [hSS]; exact hb.drew
      have hrow1 : ∀ w', S w' → w'.rangeAt g q [.int .i64 x.b, .string x.d, .slice a1 n1 c1] := fun w' hw' j v hv => by
        rw [hSS] at hw'
        rw [Below.cell hw' (p := ⟨g, q + j, none⟩) hgl]
        match j, hv with
        | 0, hv => simp at hv; subst hv; exact x0
        | 1, hv => simp at hv; subst hv; exact x1
        | 2, hv => simp at hv; subst hv; exact x2
      have hrow2 : ∀ w', S w' → w'.rangeAt h q [.int .i64 x.b, .string x.d, .slice a2 n2 c2] := fun w' hw' j v hv => by
        rw [hSS] at hw'
        rw [Below.cell hw' (p := ⟨h, q + j, none⟩) hhl]
        match j, hv with
        | 0, hv => simp at hv; subst hv; exact y0
        | 1, hv => simp at hv; subst hv; exact y1
        | 2, hv => simp at hv; subst hv; exact y2
      have HRG := dhid hrow1
      have HRH := dhid hrow2
      have HEE : Hid (∀ w', Below w.heap.size w w' → Calls Try.prog 41 #[.agg #[.int .i64 x.b, .string x.d, .slice a1 n1 c1], .agg #[.int .i64 x.b, .string x.d, .slice a2 n2 c2]] w' fun e w2 => e = .returned (.bool true) ∧ Below w'.heap.size w' w2) := fun w' hb => HE.out x _ _ b1 b2 w' hpx (hd1.under hb) (hd2.under hb)
      have HS := dhid hSS
      have HQ : Hid (q = 3 * i) := hq
      have hiq : i * 3 = q := by omega
      clear hSS hrow1 hrow2 x0 x1 x2 y0 y1 y2 hq hd1 hd2 hgl hhl hx hpx
      go_wp2_with fail
      refine wp_region_held (S := S) (by kernel_rfl) ?_
      change wpAnyH _ _ _ _ _ _ _ _ (World.drew _)
      refine wpAnyH_take (i := 0) (v := .slice (some ⟨g, 0, none⟩) n c) rfl (by kernel_rfl) (by kernel_rfl) (by kernel_rfl) (fun _ _ _ h => h) (Or.inl ⟨by rfl, by intro w' hS'; go_simp <;> (first | omega | (rw [IntKind.wrap_i64]; omega) | (rw [IntKind.wrap_u64]; omega) | (rw [IntKind.wrap_u32]; omega) | (rw [Int.tmod_eq_emod_of_nonneg (by omega)]))⟩) hSd ?_
      (try simp only [List.getElem_toArray, List.getElem_cons_succ, List.getElem_cons_zero, Act.put, List.setIfInBounds_toArray, List.set_cons_zero, List.set_cons_succ])
      refine wpAnyH_take (i := 1) (v := .int .i64 (i : Int)) rfl (by kernel_rfl) (by kernel_rfl) (by kernel_rfl) (fun _ _ _ h => h) (Or.inl ⟨by rfl, by intro w' hS'; go_simp <;> (first | omega | (rw [IntKind.wrap_i64]; omega) | (rw [IntKind.wrap_u64]; omega) | (rw [IntKind.wrap_u32]; omega) | (rw [Int.tmod_eq_emod_of_nonneg (by omega)]))⟩) hSd ?_
      (try simp only [List.getElem_toArray, List.getElem_cons_succ, List.getElem_cons_zero, Act.put, List.setIfInBounds_toArray, List.set_cons_zero, List.set_cons_succ])
      refine wpAnyH_take (i := 2) (v := .pointer (some ⟨g, q, none⟩)) rfl (by kernel_rfl) (by kernel_rfl) (by kernel_rfl) (fun _ _ _ h => h) (Or.inl ⟨by rfl, by intro w' hS'; go_simp <;> (first | omega | (rw [IntKind.wrap_i64]; omega) | (rw [IntKind.wrap_u64]; omega) | (rw [IntKind.wrap_u32]; omega) | (rw [Int.tmod_eq_emod_of_nonneg (by omega)]))⟩) hSd ?_
      (try simp only [List.getElem_toArray, List.getElem_cons_succ, List.getElem_cons_zero, Act.put, List.setIfInBounds_toArray, List.set_cons_zero, List.set_cons_succ])
      refine wpAnyH_take (i := 3) (v := .agg #[.int .i64 x.b, .string x.d, .slice a1 n1 c1]) rfl (by kernel_rfl) (by kernel_rfl) (by kernel_rfl) (fun _ _ _ h => h) (yieldsIf_load_mid (by rfl) 54 (.tmp 19) rfl g q rfl [.int .i64 x.b, .string x.d, .slice a1 n1 c1] _ HRG.out Try.underlying54 rfl (by kernel_rfl)) hSd ?_
      (try simp only [List.getElem_toArray, List.getElem_cons_succ, List.getElem_cons_zero, Act.put, List.setIfInBounds_toArray, List.set_cons_zero, List.set_cons_succ])
      refine wpAnyH_take (i := 4) (v := .slice (some ⟨h, 0, none⟩) n d) rfl (by kernel_rfl) (by kernel_rfl) (by kernel_rfl) (fun _ _ _ h => h) (Or.inl ⟨by rfl, by intro w' hS'; go_simp <;> (first | omega | (rw [IntKind.wrap_i64]; omega) | (rw [IntKind.wrap_u64]; omega) | (rw [IntKind.wrap_u32]; omega) | (rw [Int.tmod_eq_emod_of_nonneg (by omega)]))⟩) hSd ?_
      (try simp only [List.getElem_toArray, List.getElem_cons_succ, List.getElem_cons_zero, Act.put, List.setIfInBounds_toArray, List.set_cons_zero, List.set_cons_succ])
      refine wpAnyH_take (i := 5) (v := .int .i64 (i : Int)) rfl (by kernel_rfl) (by kernel_rfl) (by kernel_rfl) (fun _ _ _ h => h) (Or.inl ⟨by rfl, by intro w' hS'; go_simp <;> (first | omega | (rw [IntKind.wrap_i64]; omega) | (rw [IntKind.wrap_u64]; omega) | (rw [IntKind.wrap_u32]; omega) | (rw [Int.tmod_eq_emod_of_nonneg (by omega)]))⟩) hSd ?_
      (try simp only [List.getElem_toArray, List.getElem_cons_succ, List.getElem_cons_zero, Act.put, List.setIfInBounds_toArray, List.set_cons_zero, List.set_cons_succ])
      refine wpAnyH_take (i := 6) (v := .pointer (some ⟨h, q, none⟩)) rfl (by kernel_rfl) (by kernel_rfl) (by kernel_rfl) (fun _ _ _ h => h) (Or.inl ⟨by rfl, by intro w' hS'; go_simp <;> (first | omega | (rw [IntKind.wrap_i64]; omega) | (rw [IntKind.wrap_u64]; omega) | (rw [IntKind.wrap_u32]; omega) | (rw [Int.tmod_eq_emod_of_nonneg (by omega)]))⟩) hSd ?_
      (try simp only [List.getElem_toArray, List.getElem_cons_succ, List.getElem_cons_zero, Act.put, List.setIfInBounds_toArray, List.set_cons_zero, List.set_cons_succ])
      refine wpAnyH_take (i := 7) (v := .agg #[.int .i64 x.b, .string x.d, .slice a2 n2 c2]) rfl (by kernel_rfl) (by kernel_rfl) (by kernel_rfl) (fun _ _ _ h => h) (yieldsIf_load_mid (by rfl) 54 (.tmp 23) rfl h q rfl [.int .i64 x.b, .string x.d, .slice a2 n2 c2] _ HRH.out Try.underlying54 rfl (by kernel_rfl)) hSd ?_
      (try simp only [List.getElem_toArray, List.getElem_cons_succ, List.getElem_cons_zero, Act.put, List.setIfInBounds_toArray, List.set_cons_zero, List.set_cons_succ])
      have hbS : Below w.heap.size w wr.drew := by have hx := hSd; rw [HS.out] at hx; exact hx
      refine held_step (i := 8) (by kernel_rfl) rfl (by rfl) ?_
      go_simp
      refine (HEE.out _ hbS).mono ?_
      rintro e w3 ⟨rfl, hb3⟩
      have hb4 : Below w.heap.size w w3 := dblow hbS hb3 hbS.size
      have hS3 : S w3 := by rw [HS.out]; exact hb4
      refine ⟨hS3, ?_⟩
      (try simp only [List.getElem_toArray, List.getElem_cons_succ, List.getElem_cons_zero, Act.put, List.setIfInBounds_toArray, List.set_cons_zero, List.set_cons_succ])
      refine wpAnyH_take (i := 9) (v := .bool false) rfl (by kernel_rfl) (by kernel_rfl) (by kernel_rfl) (fun _ _ _ h => h) (Or.inl ⟨by rfl, by intro w' hS'; go_simp <;> (first | omega | (rw [IntKind.wrap_i64]; omega) | (rw [IntKind.wrap_u64]; omega) | (rw [IntKind.wrap_u32]; omega) | (rw [Int.tmod_eq_emod_of_nonneg (by omega)]) | rfl)⟩) hS3 ?_
      (try simp only [List.getElem_toArray, List.getElem_cons_succ, List.getElem_cons_zero, Act.put, List.setIfInBounds_toArray, List.set_cons_zero, List.set_cons_succ])
      refine wpAnyH_done (by kernel_rfl) ?_ _
      go_wp2_with fail
      go_roundw
      case rel => exact ⟨i + 1, by omega, by go_num, hb4⟩
      case measure => simp [intN]; omega
    · obtain rfl : i = n := by omega
      go_wp2_with fail
      go_ret
      exact ⟨rfl, hb⟩
theorem eqLkS_deep (v1 v2 : Value) (L : List LkI) (b1 b2 : List Nat) (w : World) (hn : L.length ≤ 1048576) (hp : ∀ x ∈ L, x.p.length ≤ 1048576) (h1 : Hd w (lksD L) v1 b1) (h2 : Hd w (lksD L) v2 b2) :
    Calls Try.prog 17 #[v1, v2] w fun e w' => e = .returned (.bool true) ∧ Below w.heap.size w w' := by
  obtain ⟨a, c, rfl, ha⟩ := lks_at h1
  obtain ⟨b, d, rfl, hb⟩ := lks_at h2
  by_cases h0 : 0 < L.length
  · obtain ⟨g, rfl, hg⟩ := ha h0
    obtain ⟨h, rfl, hh⟩ := hb h0
    exact eqLkS_rows g h c d L.length L rfl w hn hp hg hh
  · have e0 : L = [] := List.length_eq_zero_iff.1 (by omega)
    subst e0
    refine (eqLkS_zero a b c d w).mono ?_
    rintro e w' ⟨rfl, rfl⟩
    exact ⟨rfl, Below.refl _ _⟩
end Go.Proofs.Ytpeddaljgmkomaa

/-!   Parts of pieces, as plain mathematics; and one part, the code's. -/
namespace Go.Proofs.Ytpeddaljgmkomaa
open Go.RowKit
set_option linter.unusedVariables false
set_option linter.unusedSimpArgs false
noncomputable def partI (p : PcI) (x y : Int) : PcI := open Classical in if p.d = ⟨#[]⟩ then ⟨p.f + x, y - x, ⟨#[]⟩⟩ else ⟨0, 0, p.d.extract x.toNat y.toNat⟩
theorem partI_no {p : PcI} (h : p.d = ⟨#[]⟩) (x y : Int) : partI p x y = ⟨p.f + x, y - x, ⟨#[]⟩⟩ := by unfold partI; rw [if_pos h]
theorem partI_yes {p : PcI} (h : p.d ≠ ⟨#[]⟩) (x y : Int) : partI p x y = ⟨0, 0, p.d.extract x.toNat y.toNat⟩ := by unfold partI; rw [if_neg h]
def loP (F : Nat → PcI) (a : Int) (i : Nat) : Prop := True
noncomputable def lowP (F : Nat → PcI) (a : Int) (i : Nat) : Int := max (a - pcSum F i) 0
noncomputable def highP (F : Nat → PcI) (b : Int) (i : Nat) : Int := min (b - pcSum F i) (pcSz (F i))
noncomputable def stepP (F : Nat → PcI) (a b : Int) (i : Nat) : List PcI := if lowP F a i < highP F b i then [partI (F i) (lowP F a i) (highP F b i)] else []
noncomputable def prtL (F : Nat → PcI) (a b : Int) : Nat → List PcI
  | 0 => []
  | i + 1 => prtL F a b i ++ stepP F a b i
theorem prtL_len (F : Nat → PcI) (a b : Int) (i : Nat) : (prtL F a b i).length ≤ i := by
  induction i with
  | zero => exact Nat.le_refl 0
  | succ i ih =>
    show (prtL F a b i ++ stepP F a b i).length ≤ _
    rw [List.length_append]
    have : (stepP F a b i).length ≤ 1 := by unfold stepP; split <;> simp
    omega
theorem stepP_yes {F : Nat → PcI} {a b : Int} {i : Nat} (h : lowP F a i < highP F b i) : prtL F a b (i + 1) = prtL F a b i ++ [partI (F i) (lowP F a i) (highP F b i)] := by
  show prtL F a b i ++ stepP F a b i = _
  unfold stepP; rw [if_pos h]
theorem stepP_no {F : Nat → PcI} {a b : Int} {i : Nat} (h : ¬ lowP F a i < highP F b i) : prtL F a b (i + 1) = prtL F a b i := by
  show prtL F a b i ++ stepP F a b i = _
  unfold stepP; rw [if_neg h, List.append_nil]
set_option maxRecDepth 100000 in
set_option maxHeartbeats 1000000 in
theorem part_any (p : PcI) (x y : Int) (w : World) (h0 : 0 ≤ x) (h1 : x ≤ y) (h2 : y ≤ pcSz p) (h3 : pcSz p ≤ 1048576) (h4 : 0 ≤ p.f ∧ p.f ≤ 4000) :
    Calls Try.prog 82 #[pcV p.f p.l p.d, .int .i64 x, .int .i64 y] w fun e w' => e = .returned (pcV (partI p x y).f (partI p x y).l (partI p x y).d) ∧ Below w.heap.size w w' := by
  obtain ⟨f, l, d⟩ := p
  simp only at h4
  by_cases h : d = ⟨#[]⟩
  · rw [partI_no h]
    subst h
    rw [pcSz_no rfl] at h2 h3
    simp only at h2 h3
    have e1 : IntKind.i64.wrap (f + x) = f + x := by rw [IntKind.wrap_i64]; omega
    have e2 : IntKind.i64.wrap (y - x) = y - x := by rw [IntKind.wrap_i64]; omega
    unfold pcV
    have HR := hid (heap_alloc_new (w.alloc (.cells #[.int .i64 f, .int .i64 l, .string ⟨#[]⟩] 89)) (.cells #[.int .i64 (f + x), .int .i64 (y - x), .string ⟨#[]⟩] 89))
    go_enter Try.func82, Try.ntmps82
    go_wp2_with fail
    refine bodyPost_ret (results_cell_row rfl _ _ (w.heap.size + 1) 89 #[.int .i64 (f + x), .int .i64 (y - x), .string ⟨#[]⟩] (0, 0) _ rfl (by have h := HR.out; simpa using h) Try.underlying89 rfl (by kernel_rfl)) rfl ⟨rfl, ((Below.refl _ _).alloc (Nat.le_refl _) _).alloc (by simp) _⟩
  · rw [partI_yes h]
    rw [pcSz_yes h] at h2 h3
    simp only at h2 h3 ⊢
    have he := d_ne h
    obtain ⟨x2, rfl⟩ : ∃ x2 : Nat, x = (x2 : Int) := ⟨x.toNat, by omega⟩
    obtain ⟨y2, rfl⟩ : ∃ y2 : Nat, y = (y2 : Int) := ⟨y.toNat, by omega⟩
    simp only [Int.toNat_natCast]
    have s1 : x2 ≤ y2 := by omega
    have s2 : y2 ≤ d.size := by omega
    have HC : Hid (∀ w, Calls Try.prog 50 #[.string (d.extract x2 y2)] w fun e w' => e = .returned (.string (d.extract x2 y2)) ∧ Below w.heap.size w w') := fun w => clone_any _ w (by rw [ByteArray.size_extract]; omega)
    unfold pcV
    have HB0 : Hid (Below w.heap.size w ((w.alloc (.cells #[.int .i64 f, .int .i64 l, .string d] 89)).alloc (.cells #[.int .i64 0, .int .i64 0, .string ⟨#[]⟩] 89)) ∧ ((w.alloc (.cells #[.int .i64 f, .int .i64 l, .string d] 89)).alloc (.cells #[.int .i64 0, .int .i64 0, .string ⟨#[]⟩] 89)).heap[w.heap.size + 1]? = some (.cells #[.int .i64 0, .int .i64 0, .string ⟨#[]⟩] 89 (0, 0))) := by
      refine ⟨((Below.refl _ _).alloc (Nat.le_refl _) _).alloc (by simp) _, ?_⟩
      have h := heap_alloc_new (w.alloc (.cells #[.int .i64 f, .int .i64 l, .string d] 89)) (.cells #[.int .i64 0, .int .i64 0, .string ⟨#[]⟩] 89)
      simpa using h
    clear h h3
    go_enter Try.func82, Try.ntmps82
    go_wp2_with fail
    refine (HC.out _).mono ?_
    rintro e w2 ⟨rfl, hb2⟩
    have hr2 : w2.heap[w.heap.size + 1]? = some (.cells #[.int .i64 0, .int .i64 0, .string ⟨#[]⟩] 89 (0, 0)) := (hb2.block _ (by simp)).trans HB0.out.2
    have HB2 := hid (bl3 HB0.out.1 hb2 HB0.out.1.size)
    have b0 : w2.cell? ⟨w.heap.size + 1, 0, none⟩ = some (.int .i64 0) := cell_of_row _ _ _ _ _ _ hr2
    have b1 : w2.cell? ⟨w.heap.size + 1, 1, none⟩ = some (.int .i64 0) := cell_of_row _ _ _ _ _ _ hr2
    have b2 : w2.cell? ⟨w.heap.size + 1, 2, none⟩ = some (.string ⟨#[]⟩) := cell_of_row _ _ _ _ _ _ hr2
    have z0 := frozen_of_row w2 (w.heap.size + 1) 0 _ _ hr2
    have z1 := frozen_of_row w2 (w.heap.size + 1) 1 _ _ hr2
    have z2 := frozen_of_row w2 (w.heap.size + 1) 2 _ _ hr2
    have HR := hid (box3_row hr2 (.int .i64 0) (.int .i64 0) (.string (d.extract x2 y2)))
    have HBF := hid (box3_below HB2.out (g := w.heap.size + 1) (by omega) (.int .i64 0) (.int .i64 0) (.string (d.extract x2 y2)))
    clear hb2 hr2 HB0
    go_wp2_with fail
    refine bodyPost_ret (results_cell_row rfl _ _ (w.heap.size + 1) 89 #[.int .i64 0, .int .i64 0, .string (d.extract x2 y2)] (0, 0) _ rfl HR.out Try.underlying89 rfl (by kernel_rfl)) rfl ⟨rfl, HBF.out⟩
end Go.Proofs.Ytpeddaljgmkomaa

/-!   Parts of pieces: the code's. -/
namespace Go.Proofs.Ytpeddaljgmkomaa
open Go.RowKit
set_option linter.unusedVariables false
set_option linter.unusedSimpArgs false
/-- what the parts are asked of -/
structure PrtIn (F : Nat → PcI) (n : Nat) (a b : Int) : Prop where
  len : n ≤ 500
  ok : ∀ i, i < n → pcP (F i) 4000
  d : ∀ i, i < n → (F i).d.size ≤ 1048576
  sum : pcSum F n ≤ 4000
  lo : 0 ≤ a
  hi : a ≤ b ∧ b ≤ 4000
set_option maxRecDepth 100000 in
set_option maxHeartbeats 4000000 in
theorem parts_any (v : Value) (n : Nat) (F : Nat → PcI) (a b : Int) (w : World) (hI : PrtIn F n a b) (h : PcArg w v n F) :
    Calls Try.prog 84 #[v, .int .i64 a, .int .i64 b] w fun e w' => (∃ v', e = .returned v' ∧ w'.ownsRow w.heap.size 89 3 v' (prtL F a b n).length (pcC (prtL F a b n))) ∧ Below w.heap.size w w' := by
  obtain ⟨sa, sc, rfl, hr⟩ := h
  have hnI : (n : Int) ≤ 500 := by have := hI.len; omega
  obtain ⟨i0, hi, hz0, hz1, hz2⟩ := info_parts Try.infP
  have HZ : Hid (∀ p w, Calls Try.prog 83 #[pcV p.f p.l p.d] w fun e w' => e = .returned (.int .i64 (pcSz p)) ∧ Below w.heap.size w w') := fun p w => size_any p w
  have HT : Hid (∀ (p : PcI) (x y : Int) w, 0 ≤ x → x ≤ y → y ≤ pcSz p → pcSz p ≤ 1048576 → (0 ≤ p.f ∧ p.f ≤ 4000) → Calls Try.prog 82 #[pcV p.f p.l p.d, .int .i64 x, .int .i64 y] w fun e w' => e = .returned (pcV (partI p x y).f (partI p x y).l (partI p x y).d) ∧ Below w.heap.size w w') := fun p x y w h0 h1 h2 h3 h4 => part_any p x y w h0 h1 h2 h3 h4
  unfold pcV at HZ HT
  have HR : Hid (∀ w', Below w.heap.size w w' → 0 < n → ∃ g, sa = some ⟨g, 0, none⟩ ∧ PcRow w' g n F) := fun w' hb h0 => by
    obtain ⟨g, h1, h2⟩ := hr h0
    exact ⟨g, h1, h2.below hb h2.lt⟩
  have HI := hid hI
  clear hr hI
  go_enter Try.func84, Try.ntmps84
  go_wp2_with fail
  go_loopw [7, 8, 15] (fun v x t wr => ∃ (i : Nat), i ≤ n ∧ t = .int .i64 (i : Int) ∧ x = .int .i64 (pcSum F i) ∧ Hid (wr.ownsRow w.heap.size 89 3 v (prtL F a b i).length (pcC (prtL F a b i)) ∧ Below w.heap.size w wr)) (fun _ _ t _ => n - (intN t).toNat)
  case atStart => exact ⟨0, by omega, rfl, rfl, World.ownsRow_nil _ _ _ _, Below.refl _ _⟩
  case round =>
    obtain ⟨i, hi2, rfl, rfl, HO⟩ := hrel
    by_cases hlt : i < n
    · have hltI : (i : Int) < (n : Int) := by omega
      obtain ⟨g, rfl, hrow⟩ := HR.out _ HO.out.2 (by omega)
      obtain ⟨q, hq⟩ : ∃ q, q = 3 * i := ⟨_, rfl⟩
      have x0 := hrow.c0 i hlt
      have x1 := hrow.c1 i hlt
      have x2 := hrow.c2 i hlt
      rw [← hq] at x0 x1 x2
      have hiq : i * 3 = q := by omega
      have hp := HI.out.ok i hlt
      have b1 := pcSum_le (F := F) (old := 4000) (n := i) (by omega) (fun j hj => HI.out.d j (by omega)) (fun j hj => HI.out.ok j (by omega))
      have b2 := pcP_pos hp
      have b3 := pcP_le hp (by omega) (HI.out.d i hlt)
      have b4 := HI.out.lo
      have b5 := HI.out.hi
      have HLO : Hid (lowP F a i = max (a - pcSum F i) 0 ∧ highP F b i = min (b - pcSum F i) (pcSz (F i))) := ⟨rfl, rfl⟩
      have HSY := hid (fun h => stepP_yes (F := F) (a := a) (b := b) (i := i) h)
      have HSN := hid (fun h => stepP_no (F := F) (a := a) (b := b) (i := i) h)
      have HSS : Hid (pcSum F (i + 1) = pcSum F i + pcSz (F i)) := rfl
      obtain ⟨X, hX⟩ : ∃ X, X = pcSum F i := ⟨_, rfl⟩
      obtain ⟨Y, hY⟩ : ∃ Y, Y = pcSz (F i) := ⟨_, rfl⟩
      obtain ⟨lo, hlo⟩ : ∃ lo, lo = lowP F a i := ⟨_, rfl⟩
      obtain ⟨hg, hhg⟩ : ∃ hg, hg = highP F b i := ⟨_, rfl⟩
      rw [← hX] at b1 HLO HSS ⊢
      rw [← hY] at b2 b3 HLO HSS
      rw [← hlo] at HLO HSY HSN
      rw [← hhg] at HLO HSY HSN
      have e1 : IntKind.i64.wrap (a - X) = a - X := by rw [IntKind.wrap_i64]; omega
      have e2 : IntKind.i64.wrap (b - X) = b - X := by rw [IntKind.wrap_i64]; omega
      have e3 : IntKind.i64.wrap (X + Y) = X + Y := by rw [IntKind.wrap_i64]; omega
      have m1 : max (a - X) 0 = lo := HLO.out.1.symm
      have m2 : min (b - X) Y = hg := HLO.out.2.symm
      have hYY := hY
      clear hrow hq hX hY hlo hhg
      have hfb : 0 ≤ (F i).f ∧ (F i).f ≤ 4000 := by rcases hp with ⟨_, c1, c2, c3, c4⟩ | ⟨_, c1, c2⟩ <;> omega
      have HL : Hid ((prtL F a b i).length ≤ 500) := by have := prtL_len F a b i; have := HI.out.len; show _ ≤ _; omega
      have HZ2 : Hid (∀ w, Calls Try.prog 83 #[.agg #[.int .i64 (F i).f, .int .i64 (F i).l, .string (F i).d]] w fun e w' => e = .returned (.int .i64 Y) ∧ Below w.heap.size w w') := fun w => by rw [hYY]; exact HZ.out (F i) w
      have HT2 : Hid (lo < hg → ∀ w, Calls Try.prog 82 #[.agg #[.int .i64 (F i).f, .int .i64 (F i).l, .string (F i).d], .int .i64 lo, .int .i64 hg] w fun e w' => e = .returned (.agg #[.int .i64 (partI (F i) lo hg).f, .int .i64 (partI (F i) lo hg).l, .string (partI (F i) lo hg).d]) ∧ Below w.heap.size w w') := fun hlt w => HT.out (F i) lo hg w (by have := HLO.out; omega) (by omega) (by rw [← hYY]; have := HLO.out; omega) (by rw [← hYY]; omega) hfb
      have HO0 := hid (World.ownsRow.alloc HO.out.1 (.cells #[.int .i64 (F i).f, .int .i64 (F i).l, .string (F i).d] 89))
      have HB0 := hid (HO.out.2.alloc HO.out.2.size (.cells #[.int .i64 (F i).f, .int .i64 (F i).l, .string (F i).d] 89))
      have HR0 := hid (heap_alloc_new wr (.cells #[.int .i64 (F i).f, .int .i64 (F i).l, .string (F i).d] 89))
      have HNB := hid (own3_ne HO.out.1 (Nat.le_refl _))
      have hwsz := HO.out.2.size
      clear HO hp hfb hYY HT HZ
      generalize F i = p at x0 x1 x2 HZ2 HT2 HO0 HB0 HR0 HSY HSN
      go_wp2_with fail
      refine (HZ2.out _).mono ?_
      rintro e w3 ⟨rfl, hb3⟩
      have HO3 := hid (own3_call HO0.out hb3)
      have HB3 := hid (bl3 HB0.out hb3 HB0.out.size)
      have HR3 := hid ((hb3.block _ (by simp)).trans HR0.out)
      have c0 : w3.cell? ⟨wr.heap.size, 0, none⟩ = some (.int .i64 p.f) := cell_of_row _ _ _ _ _ _ HR3.out
      have c1 : w3.cell? ⟨wr.heap.size, 1, none⟩ = some (.int .i64 p.l) := cell_of_row _ _ _ _ _ _ HR3.out
      have c2 : w3.cell? ⟨wr.heap.size, 2, none⟩ = some (.string p.d) := cell_of_row _ _ _ _ _ _ HR3.out
      have h3sz := HB3.out.size
      clear hb3 HO0 HB0 HR0 x0 x1 x2
      by_cases hc : lo < hg
      · have HS2 := hid (HSY.out hc)
        have HPT := hid (HT2.out hc)
        clear HSY HSN HT2
        generalize partI p lo hg = P at HS2 HPT
        have HSN2 : Hid (pcC (prtL F a b i) ++ [.int .i64 P.f, .int .i64 P.l, .string P.d] = pcC (prtL F a b (i + 1))) := by rw [HS2.out]; exact pcC_snoc _ P
        have HSL : Hid ((prtL F a b (i + 1)).length = (prtL F a b i).length + 1) := by rw [HS2.out, List.length_append]; exact rfl
        generalize hQ : prtL F a b i = Q at HL HO3 HSN2 HSL
        clear hQ HS2
        go_wp2_with fail
        refine (HPT.out _).mono ?_
        rintro e w4 ⟨rfl, hb4⟩
        have HO4 := hid (own3_call HO3.out hb4)
        have HB4 := hid (bl3 HB3.out hb4 HB3.out.size)
        have HR4 := hid ((hb4.block _ (Array.getElem?_eq_some_iff.1 HR3.out).1).trans HR3.out)
        have h4sz := HB4.out.size
        have hLq := HL.out
        clear hb4 HO3 HB3 HR3 c0 c1 c2
        go_wp2_with (at_builtin; (refine wpList_append_own _ rfl _ _ 52 rfl w.heap.size 89 i0 _ 3 32 Try.underlying52 hi hz0 hz1 hz2 rfl (by decide) _ _ _ rfl (World.ownsRow.alloc HO4.out _) ⟨w4.heap.size, 0, none⟩ 1 1 [_, _, _] rfl rfl (cell_three_at rfl) ?k2 ?k3 ?k4 ?k5 ?_))
        case k2 => exact three_one _ _ _
        case k3 => unfold maxLen; omega
        case k4 => omega
        case k5 => rw [World.size_alloc]; omega
        intro v' w5 hown' hgrow _
        have HB5 := hid ((HB4.out.alloc HB4.out.size _).grown hgrow (by rw [World.size_alloc]; omega) (fun k hk => (HO4.out.lt k hk).1))
        have HO5 : Hid (w5.ownsRow w.heap.size 89 3 v' (prtL F a b (i + 1)).length (pcC (prtL F a b (i + 1)))) := by have h := hown'; rw [HSN2.out] at h; rw [HSL.out]; exact h
        have hr5 : w5.heap[wr.heap.size]? = some (.cells #[.int .i64 p.f, .int .i64 p.l, .string p.d] 89 (0, 0)) := by
          have hl := (Array.getElem?_eq_some_iff.1 HR4.out).1
          rw [hgrow.block _ (by rw [World.size_alloc]; omega) (fun e => HNB.out e.symm), Below.heap_alloc _ _ _ hl]; exact HR4.out
        have HR5 := hid hr5
        have c0 : w5.cell? ⟨wr.heap.size, 0, none⟩ = some (.int .i64 p.f) := cell_of_row _ _ _ _ _ _ HR5.out
        have c1 : w5.cell? ⟨wr.heap.size, 1, none⟩ = some (.int .i64 p.l) := cell_of_row _ _ _ _ _ _ HR5.out
        have c2 : w5.cell? ⟨wr.heap.size, 2, none⟩ = some (.string p.d) := cell_of_row _ _ _ _ _ _ HR5.out
        clear hown' hgrow HO4 HB4 HR4 hr5 HSN2 HSL HPT HNB
        go_wp2_with fail
        refine (HZ2.out _).mono ?_
        rintro e w6 ⟨rfl, hb6⟩
        have HO6 := hid (own3_call HO5.out hb6)
        have HB6 := hid (bl3 HB5.out hb6 HB5.out.size)
        clear hb6 HO5 HB5 HR5 c0 c1 c2
        go_wp2_with fail
        go_roundw
        case rel => exact ⟨i + 1, by omega, by go_num, by rw [HSS.out], HO6.out, HB6.out⟩
        case measure => simp [intN]; omega
      · have HS2 := hid (HSN.out (by omega))
        clear HSY HSN HT2
        go_wp2_with fail
        refine (HZ2.out _).mono ?_
        rintro e w6 ⟨rfl, hb6⟩
        have HO6 := hid (own3_call HO3.out hb6)
        have HB6 := hid (bl3 HB3.out hb6 HB3.out.size)
        clear hb6 HO3 HB3 HR3 c0 c1 c2
        go_wp2_with fail
        go_roundw
        case rel => exact ⟨i + 1, by omega, by go_num, by rw [HSS.out], by rw [HS2.out]; exact HO6.out, HB6.out⟩
        case measure => simp [intN]; omega
    · obtain rfl : i = n := by omega
      go_wp2_with fail
      go_ret
      exact ⟨⟨_, rfl, HO.out.1⟩, HO.out.2⟩
end Go.Proofs.Ytpeddaljgmkomaa
