/-
  Several texts of this seat as one: SrH, SrK, SrS.
-/
import Derived.Test.YtbkjcngehhdchaaPk31
import Derived.Test.YtbkjcngehhdchaaPk30
import Derived.Test.YtbkjcngehhdchaaPk29

/-!   A block of members, as it is read: the code's, goes on. -/
namespace Go.Proofs.Ytbkjcngehhdchaa
open Go.RowKit
set_option linter.unusedVariables false
set_option linter.unusedSimpArgs false
set_option maxRecDepth 100000 in
theorem nm_any (s : ByteArray) (w : World) (hs : s.size ≤ 1048576) :
    Calls Try.prog 42 #[.string s] w fun e w' => NmP w (nmD s) e w' := by
  have HN : Hid (∀ w, Calls Try.prog 63 #[.string s] w fun e w' => e = .returned (numIV (numI s)) ∧ Below w.heap.size w w') := fun w => numOf_any s w hs
  cases hI : numI s with
  | none =>
    rw [hI] at HN
    have e : nmD s = none := by unfold nmD; rw [hI]
    rw [e]
    have HN2 : Hid (∀ w, Calls Try.prog 63 #[.string s] w fun e w' => e = .returned (.tuple #[.int .i64 0, .string ⟨#[]⟩, .bool false]) ∧ Below w.heap.size w w') := HN
    clear HN hI e
    go_enter Try.func42, Try.ntmps42
    go_wp2_with fail
    refine (HN2.out _).mono ?_
    rintro e w1 ⟨rfl, hb1⟩
    go_wp2_with fail
    exact bodyPost_ret (results_tmp4 rfl _ _ _) rfl ⟨hb1, rfl⟩
  | some p =>
    obtain ⟨n, r⟩ := p
    by_cases hn : n ≤ 60
    · have e : nmD s = naI r n := by unfold nmD; rw [hI]; simp only []; rw [if_neg (by omega)]
      rw [e]
      exact nm_go s r n w hs hI hn
    · rw [hI] at HN
      have e : nmD s = none := by unfold nmD; rw [hI]; simp only []; rw [if_pos (by omega)]
      rw [e]
      have hnI : (60 : Int) < (n : Int) := by omega
      have HN2 : Hid (∀ w, Calls Try.prog 63 #[.string s] w fun e w' => e = .returned (.tuple #[.int .i64 (n : Int), .string r, .bool true]) ∧ Below w.heap.size w w') := HN
      clear HN hI e hn
      go_enter Try.func42, Try.ntmps42
      go_wp2_with fail
      refine (HN2.out _).mono ?_
      rintro e w1 ⟨rfl, hb1⟩
      go_wp2_with fail
      exact bodyPost_ret (results_tmp4 rfl _ _ _) rfl ⟨hb1, rfl⟩
theorem ext_head (d : ByteArray) (a z : Nat) (h : a + z ≤ d.size) : (d.extract a d.size).extract 0 z = d.extract a (a + z) := by
  rw [ByteArray.extract_extract]
  congr 1; omega
theorem ext_next (d : ByteArray) (a z : Nat) (h : a + z ≤ d.size) : (d.extract a d.size).extract z (d.extract a d.size).size = d.extract (a + z) d.size := by
  rw [ByteArray.extract_extract, ByteArray.size_extract]
  congr 1; omega
/-- the walk of handOut -/
structure HO (w wr : World) (B g1 g2 n c1 i : Nat) (C1 C2 : Array Value) (L : List (ByteArray × Nat)) (d : ByteArray) : Prop where
  r1 : wr.heap[g1]? = some (.cells C1 41 (0, 0))
  r2 : wr.heap[g2]? = some (.cells C2 2 (0, 0))
  s1 : C1.size = c1 * 2
  a : ∀ j, j < n → C1[2 * j]? = some (.string (L.getD j (⟨#[]⟩, 0)).1)
  d : ∀ j, j < i → C1[2 * j + 1]? = some (.string (mOf L d j).d)
  z : ∀ j, j < n → C2[j]? = some (.int .i64 ((L.getD j (⟨#[]⟩, 0)).2 : Int))
  below : Below B w wr
  b1 : B ≤ g1
  nc : n ≤ c1 ∧ c1 ≤ maxLen ∧ L.length = n
theorem HO.ne {w wr : World} {B g1 g2 n c1 i : Nat} {C1 C2 : Array Value} {L : List (ByteArray × Nat)} {d : ByteArray} (h : HO w wr B g1 g2 n c1 i C1 C2 L d) : g1 ≠ g2 := fun e => by
  have h1 := h.r1
  rw [e, h.r2] at h1
  injection h1 with h1
  injection h1 with _ h1 _
  exact absurd h1 (by decide)
theorem HO.set {w wr w5 : World} {B g1 g2 n c1 i : Nat} {C1 C2 : Array Value} {L : List (ByteArray × Nat)} {d : ByteArray} (h : HO w wr B g1 g2 n c1 i C1 C2 L d) (hB : B ≤ wr.heap.size) (hi : i < n) (hb : Below wr.heap.size wr w5) :
    HO w (w5.setCell ⟨g1, 2 * i + 1, none⟩ (.string (mOf L d i).d)) B g1 g2 n c1 (i + 1) (C1.setIfInBounds (2 * i + 1) (.string (mOf L d i).d)) C2 L d := by
  have hr1 := (hb.block _ (row_ltM h.r1)).trans h.r1
  have hr2 := (hb.block _ (row_ltM h.r2)).trans h.r2
  have hs := h.s1
  have hc := h.nc.1
  refine ⟨heap_setCell_same _ _ _ _ _ _ hr1, (heap_setCell_other _ _ _ _ h.ne.symm).trans hr2, by simpa using h.s1, fun j hj => ?_, fun j hj => ?_, h.z, (h.below.trans (hb.mono hB)).setCell (p := ⟨g1, 2 * i + 1, none⟩) h.b1 _, h.b1, h.nc⟩
  · rw [Array.getElem?_setIfInBounds_ne (by omega)]; exact h.a j hj
  · by_cases e : j = i
    · subst e; rw [Array.getElem?_setIfInBounds_self_of_lt (by omega)]
    · rw [Array.getElem?_setIfInBounds_ne (by omega)]; exact h.d j (by omega)
theorem HO.done {w wr : World} {B g1 g2 n c1 : Nat} {C1 C2 : Array Value} {L : List (ByteArray × Nat)} {d : ByteArray} (h : HO w wr B g1 g2 n c1 n C1 C2 L d) : wr.ownsRow B 41 2 (.slice (some ⟨g1, 0, none⟩) n c1) n (mbC (mL L d)) := by
  have hl := h.nc.2.2
  refine ⟨by rw [mbC_len, mL_len]; omega, Or.inr ⟨g1, c1, C1, rfl, h.b1, h.r1, h.nc.1, h.nc.2.1, h.s1, ?_⟩⟩
  apply List.ext_getElem?
  intro k
  rw [List.getElem?_take]
  by_cases hk : k < n * 2
  · rw [if_pos hk]
    have e : C1.toList[k]? = C1[k]? := by simp
    rw [e]
    rcases Nat.mod_two_eq_zero_or_one k with q | q
    · obtain ⟨j, rfl⟩ : ∃ j, k = 2 * j := ⟨k / 2, by omega⟩
      rw [h.a j (by omega), (mbC_at (mL L d) j (by rw [mL_len]; omega)).1, mL_at L d (by omega)]; rfl
    · obtain ⟨j, rfl⟩ : ∃ j, k = 2 * j + 1 := ⟨k / 2, by omega⟩
      rw [h.d j (by omega), (mbC_at (mL L d) j (by rw [mL_len]; omega)).2, mL_at L d (by omega)]
  · rw [if_neg hk]
    symm
    apply List.getElem?_eq_none
    rw [mbC_len, mL_len]; omega
def HoP (w : World) (B : Nat) (v1 : Value) (L : List (ByteArray × Nat)) (d : ByteArray) (e : Ending) (w' : World) : Prop := Below B w w' ∧ (szS L L.length = d.size → e = .returned (.bool true) ∧ w'.ownsRow B 41 2 v1 L.length (mbC (mL L d))) ∧ (szS L L.length ≠ d.size → e = .returned (.bool false))
set_option maxRecDepth 100000 in
set_option maxHeartbeats 4000000 in
theorem ho_row (d : ByteArray) (L : List (ByteArray × Nat)) (n c1 c2 B g1 g2 : Nat) (C1 C2 : Array Value) (w : World) (hd : d.size ≤ 4000) (hn : n ≤ 60) (hz : ∀ j, j < n → (L.getD j (⟨#[]⟩, 0)).2 ≤ 1000000000000) (h : HO w w B g1 g2 n c1 0 C1 C2 L d) (hB : B ≤ w.heap.size) :
    Calls Try.prog 45 #[.string d, .slice (some ⟨g2, 0, none⟩) n c2, .slice (some ⟨g1, 0, none⟩) n c1] w fun e w' => HoP w B (.slice (some ⟨g1, 0, none⟩) n c1) L d e w' := by
  have HCL : Hid (∀ (s : ByteArray) w, s.size ≤ 1048576 → Calls Try.prog 64 #[.string s] w fun e w' => e = .returned (.string s) ∧ Below w.heap.size w w') := fun s w h => clone_any s w (by omega)
  have hl := h.nc.2.2
  have HP : Hid (∀ e w', Below B w w' → (szS L n = d.size → e = .returned (.bool true) ∧ w'.ownsRow B 41 2 (.slice (some ⟨g1, 0, none⟩) n c1) n (mbC (mL L d))) → (szS L n ≠ d.size → e = .returned (.bool false)) → HoP w B (.slice (some ⟨g1, 0, none⟩) n c1) L d e w') := fun e w' a b c => by
    unfold HoP; rw [hl]; exact ⟨a, b, c⟩
  have HZ := hid hz
  have HD := hid hd
  have HBW := hid hB
  have H0 := hid h
  have e0 : d.extract (szS L 0) d.size = d := by show d.extract 0 d.size = d; exact ByteArray.extract_zero_size
  have HE0 := hid e0.symm
  clear hl hz h e0
  go_enter Try.func45, Try.ntmps45
  go_wp2_with fail
  go_loopw [0, 11] (fun x v wr => ∃ (i : Nat) (C1 : Array Value), i ≤ n ∧ v = .int .i64 (i : Int) ∧ szS L i ≤ d.size ∧ x = .string (d.extract (szS L i) d.size) ∧ Hid (HO w wr B g1 g2 n c1 i C1 C2 L d) ∧ w.heap.size ≤ wr.heap.size) (fun _ v _ => n - (intMb v).toNat)
  case atStart => exact ⟨0, C1, by omega, rfl, Nat.zero_le _, by rw [← HE0.out], H0, Nat.le_refl _⟩
  case round =>
    clear H0 HE0
    obtain ⟨i, C1, hi, rfl, hsz, rfl, HW, hww⟩ := hrel
    by_cases hlt : i < n
    · have hltI : (i : Int) < (n : Int) := by omega
      have hzz := HZ.out i hlt
      have hzs : szS L (i + 1) = szS L i + (L.getD i (⟨#[]⟩, 0)).2 := rfl
      have x2 : wr.cell? ⟨g2, i, none⟩ = some (.int .i64 ((L.getD i (⟨#[]⟩, 0)).2 : Int)) := (cell_of_row _ _ _ _ _ _ HW.out.r2).trans (HW.out.z i hlt)
      have hmo : (mOf L d i).d = d.extract (szS L i) (szS L (i + 1)) := rfl
      have HMONO := hid (szS_mono L (i := i + 1) (n := n) hlt)
      obtain ⟨z, hzq⟩ : ∃ z, z = (L.getD i (⟨#[]⟩, 0)).2 := ⟨_, rfl⟩
      rw [← hzq] at hzz hzs x2
      clear hzq
      obtain ⟨D, hD⟩ : ∃ D, D = d.extract (szS L i) d.size := ⟨_, rfl⟩
      have hDs : D.size = d.size - szS L i := by rw [hD, ByteArray.size_extract]; omega
      rw [← hD]
      by_cases hfit : z ≤ D.size
      · have hfI : ¬ (D.size : Int) < (z : Int) := by omega
        have hfJ : (z : Int) ≤ (D.size : Int) := by omega
        have h1 : D.extract 0 z = (mOf L d i).d := by rw [hD, ext_head d _ z (by omega), hmo, hzs]
        have h2 : D.extract z D.size = d.extract (szS L (i + 1)) d.size := by rw [hD, ext_next d _ z (by omega), hzs]
        have HE1 := hid h1
        have HE2 := hid h2
        have HS2 : Hid (szS L (i + 1) ≤ d.size) := by show _ ≤ _; omega
        have HC2 : Hid (∀ w, Calls Try.prog 64 #[.string (D.extract 0 z)] w fun e w' => e = .returned (.string (D.extract 0 z)) ∧ Below w.heap.size w w') := fun w => HCL.out _ w (by rw [ByteArray.size_extract]; have := HD.out; omega)
        obtain ⟨q, hq⟩ : ∃ q, q = 2 * i := ⟨_, rfl⟩
        have hiq : i * 2 = q := by omega
        obtain ⟨u, hu⟩ : ∃ u, C1[q + 1]? = some u := ⟨C1[q + 1]'(by have := HW.out.s1; have := HW.out.nc.1; omega), Array.getElem?_eq_getElem _⟩
        obtain ⟨S, hSS⟩ : ∃ S : World → Prop, S = fun _ => True := ⟨_, rfl⟩
        have hSd : S wr.drew := by rw [hSS]; trivial
        have HX : Hid (∀ w', Below wr.heap.size wr w' → w'.heap[g1]? = some (.cells C1 41 (0, 0)) ∧ HO w (w'.setCell ⟨g1, q + 1, none⟩ (.string (D.extract 0 z))) B g1 g2 n c1 (i + 1) (C1.setIfInBounds (q + 1) (.string (D.extract 0 z))) C2 L d ∧ wr.heap.size ≤ (w'.setCell ⟨g1, q + 1, none⟩ (.string (D.extract 0 z))).heap.size) := fun w' h => by
          refine ⟨(h.block _ (row_ltM HW.out.r1)).trans HW.out.r1, ?_, by have := h.size; simpa using this⟩
          rw [HE1.out, hq]
          exact HW.out.set (Nat.le_trans HBW.out hww) hlt h
        have HSS : Hid (S = fun _ => True) := hSS
        have HWW : Hid (w.heap.size ≤ wr.heap.size) := hww
        clear hzs hmo hD hDs h1 h2 hsz hSS hww HMONO hq
        go_wp2_with fail
        refine wp_region_held (S := S) (by kernel_rfl) ?_
        change wpAnyH _ _ _ _ _ _ _ _ (World.drew _)
        refine wpAnyH_take (i := 0) (v := .slice (some ⟨g1, 0, none⟩) n c1) rfl (by kernel_rfl) (by kernel_rfl) (by kernel_rfl) (fun _ _ _ h => h) (Or.inl ⟨by rfl, by intro w' hS'; go_simp <;> (first | omega | (rw [IntKind.wrap_i64]; omega) | (rw [IntKind.wrap_u64]; omega) | (rw [IntKind.wrap_u32]; omega) | (rw [Int.tmod_eq_emod_of_nonneg (by omega)]) | rfl)⟩) hSd ?_
        (try simp only [List.getElem_toArray, List.getElem_cons_succ, List.getElem_cons_zero, Act.put, List.setIfInBounds_toArray, List.set_cons_zero, List.set_cons_succ])
        refine wpAnyH_take (i := 1) (v := .int .i64 (i : Int)) rfl (by kernel_rfl) (by kernel_rfl) (by kernel_rfl) (fun _ _ _ h => h) (Or.inl ⟨by rfl, by intro w' hS'; go_simp <;> (first | omega | (rw [IntKind.wrap_i64]; omega) | (rw [IntKind.wrap_u64]; omega) | (rw [IntKind.wrap_u32]; omega) | (rw [Int.tmod_eq_emod_of_nonneg (by omega)]) | rfl)⟩) hSd ?_
        (try simp only [List.getElem_toArray, List.getElem_cons_succ, List.getElem_cons_zero, Act.put, List.setIfInBounds_toArray, List.set_cons_zero, List.set_cons_succ])
        refine wpAnyH_take (i := 2) (v := .string D) rfl (by kernel_rfl) (by kernel_rfl) (by kernel_rfl) (fun _ _ _ h => h) (Or.inl ⟨by rfl, by intro w' hS'; go_simp <;> (first | omega | (rw [IntKind.wrap_i64]; omega) | (rw [IntKind.wrap_u64]; omega) | (rw [IntKind.wrap_u32]; omega) | (rw [Int.tmod_eq_emod_of_nonneg (by omega)]) | rfl)⟩) hSd ?_
        (try simp only [List.getElem_toArray, List.getElem_cons_succ, List.getElem_cons_zero, Act.put, List.setIfInBounds_toArray, List.set_cons_zero, List.set_cons_succ])
        refine wpAnyH_take (i := 3) (v := .int .i64 (z : Int)) rfl (by kernel_rfl) (by kernel_rfl) (by kernel_rfl) (fun _ _ _ h => h) (Or.inl ⟨by rfl, by intro w' hS'; go_simp <;> (first | omega | (rw [IntKind.wrap_i64]; omega) | (rw [IntKind.wrap_u64]; omega) | (rw [IntKind.wrap_u32]; omega) | (rw [Int.tmod_eq_emod_of_nonneg (by omega)]) | rfl)⟩) hSd ?_
        (try simp only [List.getElem_toArray, List.getElem_cons_succ, List.getElem_cons_zero, Act.put, List.setIfInBounds_toArray, List.set_cons_zero, List.set_cons_succ])
        refine wpAnyH_take (i := 4) (v := .string (D.extract 0 z)) rfl (by kernel_rfl) (by kernel_rfl) (by kernel_rfl) (fun _ _ _ h => h) (Or.inl ⟨by rfl, by intro w' hS'; go_simp <;> (first | omega | (rw [IntKind.wrap_i64]; omega) | (rw [IntKind.wrap_u64]; omega) | (rw [IntKind.wrap_u32]; omega) | (rw [Int.tmod_eq_emod_of_nonneg (by omega)]) | rfl)⟩) hSd ?_
        (try simp only [List.getElem_toArray, List.getElem_cons_succ, List.getElem_cons_zero, Act.put, List.setIfInBounds_toArray, List.set_cons_zero, List.set_cons_succ])
        refine wpAnyH_take (i := 6) (v := .string D) rfl (by kernel_rfl) (by kernel_rfl) (by kernel_rfl) (fun _ _ _ h => h) (Or.inl ⟨by rfl, by intro w' hS'; go_simp <;> (first | omega | (rw [IntKind.wrap_i64]; omega) | (rw [IntKind.wrap_u64]; omega) | (rw [IntKind.wrap_u32]; omega) | (rw [Int.tmod_eq_emod_of_nonneg (by omega)]) | rfl)⟩) hSd ?_
        (try simp only [List.getElem_toArray, List.getElem_cons_succ, List.getElem_cons_zero, Act.put, List.setIfInBounds_toArray, List.set_cons_zero, List.set_cons_succ])
        refine wpAnyH_take (i := 7) (v := .int .i64 (z : Int)) rfl (by kernel_rfl) (by kernel_rfl) (by kernel_rfl) (fun _ _ _ h => h) (Or.inl ⟨by rfl, by intro w' hS'; go_simp <;> (first | omega | (rw [IntKind.wrap_i64]; omega) | (rw [IntKind.wrap_u64]; omega) | (rw [IntKind.wrap_u32]; omega) | (rw [Int.tmod_eq_emod_of_nonneg (by omega)]) | rfl)⟩) hSd ?_
        (try simp only [List.getElem_toArray, List.getElem_cons_succ, List.getElem_cons_zero, Act.put, List.setIfInBounds_toArray, List.set_cons_zero, List.set_cons_succ])
        refine wpAnyH_take (i := 8) (v := .string (D.extract z D.size)) rfl (by kernel_rfl) (by kernel_rfl) (by kernel_rfl) (fun _ _ _ h => h) (Or.inl ⟨by rfl, by intro w' hS'; go_simp <;> (first | omega | (rw [IntKind.wrap_i64]; omega) | (rw [IntKind.wrap_u64]; omega) | (rw [IntKind.wrap_u32]; omega) | (rw [Int.tmod_eq_emod_of_nonneg (by omega)]) | rfl)⟩) hSd ?_
        (try simp only [List.getElem_toArray, List.getElem_cons_succ, List.getElem_cons_zero, Act.put, List.setIfInBounds_toArray, List.set_cons_zero, List.set_cons_succ])
        refine held_stepS (i := 5) (by kernel_rfl) rfl (by rfl) ?_
        go_simp
        refine (HC2.out _).mono ?_
        rintro e w5 ⟨rfl, hb5⟩
        have HX5 := hid (HX.out w5 (blMb (Below.refl _ wr).drew hb5 (Nat.le_refl _)))
        have hS5 : S w5 := by rw [HSS.out]; trivial
        clear hb5
        refine ⟨hS5, ?_⟩
        (try simp only [List.getElem_toArray, List.getElem_cons_succ, List.getElem_cons_zero, Act.put, List.setIfInBounds_toArray, List.set_cons_zero, List.set_cons_succ])
        refine wpAnyH_take (i := 9) (v := .pointer (some ⟨g1, q, none⟩)) rfl (by kernel_rfl) (by kernel_rfl) (by kernel_rfl) (fun _ _ _ h => h) (Or.inl ⟨by rfl, by intro w' hS'; go_simp <;> (first | omega | (rw [IntKind.wrap_i64]; omega) | (rw [IntKind.wrap_u64]; omega) | (rw [IntKind.wrap_u32]; omega) | (rw [Int.tmod_eq_emod_of_nonneg (by omega)]) | rfl)⟩) hS5 ?_
        (try simp only [List.getElem_toArray, List.getElem_cons_succ, List.getElem_cons_zero, Act.put, List.setIfInBounds_toArray, List.set_cons_zero, List.set_cons_succ])
        refine wpAnyH_take (i := 10) (v := .pointer (some ⟨g1, q + 1, none⟩)) rfl (by kernel_rfl) (by kernel_rfl) (by kernel_rfl) (fun _ _ _ h => h) (Or.inl ⟨by rfl, by intro w' hS'; go_simp <;> (first | omega | (rw [IntKind.wrap_i64]; omega) | (rw [IntKind.wrap_u64]; omega) | (rw [IntKind.wrap_u32]; omega) | (rw [Int.tmod_eq_emod_of_nonneg (by omega)]) | rfl)⟩) hS5 ?_
        (try simp only [List.getElem_toArray, List.getElem_cons_succ, List.getElem_cons_zero, Act.put, List.setIfInBounds_toArray, List.set_cons_zero, List.set_cons_succ])
        have r15 := HX5.out.1
        have x1 : w5.cell? ⟨g1, q + 1, none⟩ = some u := (cell_of_row _ _ _ _ _ _ r15).trans hu
        have z1 := frozen_of_row w5 g1 (q + 1) _ _ r15
        refine held_stepS (i := 11) (by kernel_rfl) rfl (by rfl) ?_
        go_simp
        have hS6 : S (w5.setCell ⟨g1, q + 1, none⟩ (.string (D.extract 0 z))) := by rw [HSS.out]; trivial
        refine ⟨hS6, ?_⟩
        (try simp only [List.getElem_toArray, List.getElem_cons_succ, List.getElem_cons_zero, Act.put, List.setIfInBounds_toArray, List.set_cons_zero, List.set_cons_succ])
        refine wpAnyH_take (i := 12) (v := .string (D.extract z D.size)) rfl (by kernel_rfl) (by kernel_rfl) (by kernel_rfl) (fun _ _ _ h => h) (Or.inl ⟨by rfl, by intro w' hS'; go_simp <;> rfl⟩) hS6 ?_
        (try simp only [List.getElem_toArray, List.getElem_cons_succ, List.getElem_cons_zero, Act.put, List.setIfInBounds_toArray, List.set_cons_zero, List.set_cons_succ])
        refine wpAnyH_done (by kernel_rfl) ?_ _
        have HO7 := hid HX5.out.2
        clear HX HX5 hSd hS5 hS6 r15 x1 z1 hu HSS HC2 HE1 HW
        rw [HE2.out]
        go_wp2_with fail
        go_roundw
        case rel => exact ⟨i + 1, _, by omega, by go_num, HS2.out, rfl, hid HO7.out.1, Nat.le_trans HWW.out HO7.out.2⟩
        case measure => simp [intMb]; omega
      · have hfI : (D.size : Int) < (z : Int) := by omega
        have hne : szS L n ≠ d.size := by have := HMONO.out; omega
        have HR := hid (HP.out (.returned (.bool false)) wr HW.out.below (fun c => absurd c hne) (fun _ => rfl))
        clear HW hzs hmo hD hDs hsz HMONO hne
        go_wp2_with fail
        go_ret
        exact HR.out
    · obtain rfl : i = n := by omega
      by_cases he : szS L i = d.size
      · have ee : d.extract (szS L i) d.size = ⟨#[]⟩ := by rw [he]; exact ba_zero (by rw [ByteArray.size_extract]; omega)
        have HR := hid (HP.out (.returned (.bool true)) wr HW.out.below (fun _ => ⟨rfl, HW.out.done⟩) (fun c => absurd he c))
        rw [ee]
        clear HW he ee hsz
        go_wp2_with fail
        go_ret
        exact HR.out
      · have hne : (d.extract (szS L i) d.size).toList.isEmpty = false := mb_ne (by rw [ByteArray.size_extract]; omega)
        have HR := hid (HP.out (.returned (.bool false)) wr HW.out.below (fun c => absurd c he) (fun _ => rfl))
        generalize d.extract (szS L i) d.size = D at hne ⊢
        clear HW he hsz
        go_wp2_with fail
        go_ret
        exact HR.out
end Go.Proofs.Ytbkjcngehhdchaa

/-!   A block of members: what the code's ReadSolid answers, at every text of a million bytes at most. -/
namespace Go.Proofs.Ytbkjcngehhdchaa
open Go.RowKit
set_option linter.unusedVariables false
set_option linter.unusedSimpArgs false
theorem mapF_at (L : List (ByteArray × Nat)) {j : Nat} (hj : j < L.length) : mbF (L.map fun p => (⟨p.1, ⟨#[]⟩⟩ : MbI)) j = ⟨(L.getD j (⟨#[]⟩, 0)).1, ⟨#[]⟩⟩ := by
  rw [mbF_at (by rw [List.length_map]; omega), List.getElem_map, List.getD_eq_getElem?_getD, List.getElem?_eq_getElem (by omega)]; rfl
set_option maxRecDepth 100000 in
set_option maxHeartbeats 1000000 in
theorem ho_any (d : ByteArray) (L : List (ByteArray × Nat)) (B : Nat) (v1 v2 : Value) (w : World) (hd : d.size ≤ 4000) (hn : L.length ≤ 60) (hz : ∀ p ∈ L, p.2 ≤ 1000000000000) (h : NmR B w v1 v2 L) (hB : B ≤ w.heap.size) :
    Calls Try.prog 45 #[.string d, v2, v1] w fun e w' => HoP w B v1 L d e w' := by
  by_cases h0 : 0 < L.length
  · obtain ⟨g1, c1, C1, rfl, hb1, hr1, hs1, ht1⟩ := own2_form h.list h0
    obtain ⟨g2, c2, C2, rfl, hb2, hr2, ht2⟩ := own_formP h.size h0
    obtain ⟨hl, ⟨q0, _⟩ | ⟨g', cap, cur, q1, q2, q3, q4, q5, q6, q7⟩⟩ := h.list
    · cases q0
    · cases q1
      rw [hr1] at q3
      injection q3 with q3
      injection q3 with q3 _ _
      subst q3
      refine ho_row d L L.length c1 c2 B g1 g2 C1 C2 w hd hn (fun j hj => ?_) ⟨hr1, hr2, q6, fun j hj => ?_, fun j hj => absurd hj (by omega), fun j hj => ?_, Below.refl _ _, hb1, q4, q5, rfl⟩ hB
      · have e : L.getD j (⟨#[]⟩, 0) = L[j] := by rw [List.getD_eq_getElem?_getD, List.getElem?_eq_getElem hj]; rfl
        rw [e]; exact hz _ (List.getElem_mem hj)
      · have k := ht1 (2 * j) _ (mbC_at _ j (by rw [List.length_map]; exact hj)).1
        rw [mapF_at L hj] at k; exact k
      · have k := ht2 j (.int .i64 ((L.getD j (⟨#[]⟩, 0)).2 : Int)) (by rw [List.getElem?_map, List.getD_eq_getElem?_getD, List.getElem?_eq_getElem hj]; rfl)
        exact (cell_of_row _ _ _ _ _ _ hr2).symm.trans k
  · have hL : L = [] := List.length_eq_zero_iff.1 (by omega)
    subst hL
    obtain ⟨a1, c1, rfl⟩ := own2_slice h.list
    have hv2 : ∃ a c, v2 = .slice a 0 c := by
      obtain ⟨_, ⟨q0, _⟩ | ⟨g', cap, cur, q1, _⟩⟩ := h.size
      · exact ⟨_, _, q0⟩
      · exact ⟨_, _, q1⟩
    obtain ⟨a2, c2, rfl⟩ := hv2
    have HL := hid h.list
    have HBB := hid hB
    clear h hz hn h0
    by_cases hd0 : d.size = 0
    · have HR : Hid (HoP w B (.slice a1 0 c1) [] d (.returned (.bool true)) w) := ⟨Below.refl _ _, fun _ => ⟨rfl, HL.out⟩, fun c => absurd hd0.symm c⟩
      obtain rfl := ba_zero hd0
      clear hd0 hd
      go_enter Try.func45, Try.ntmps45
      go_wp2_with fail
      go_loop [0, 11] (fun y x => y = .string ByteArray.empty ∧ x = .int .i64 0) (fun _ _ => 0)
      case atStart => exact ⟨rfl, rfl⟩
      case round =>
        obtain ⟨rfl, rfl⟩ := hrel
        go_wp2_with fail
        go_ret
        exact HR.out
    · have HR : Hid (HoP w B (.slice a1 0 c1) [] d (.returned (.bool false)) w) := ⟨Below.refl _ _, fun c => absurd c.symm hd0, fun _ => rfl⟩
      have hne : d.toList.isEmpty = false := mb_ne (by omega)
      clear hd0 hd
      go_enter Try.func45, Try.ntmps45
      go_wp2_with fail
      go_loop [0, 11] (fun y x => y = .string d ∧ x = .int .i64 0) (fun _ _ => 0)
      case atStart => exact ⟨rfl, rfl⟩
      case round =>
        obtain ⟨rfl, rfl⟩ := hrel
        go_wp2_with fail
        go_ret
        exact HR.out
theorem HoP.below {w w' : World} {B : Nat} {v1 : Value} {L : List (ByteArray × Nat)} {d : ByteArray} {e : Ending} (h : HoP w B v1 L d e w') : Below B w w' := h.1
set_option maxRecDepth 100000 in
set_option maxHeartbeats 2000000 in
theorem rs_any (s : ByteArray) (w : World) (hs : s.size ≤ 1048576) :
    Calls Try.prog 14 #[.string s] w fun e w' => RsPost w (rdS s) e w' := by
  have HN : Hid (∀ w, Calls Try.prog 42 #[.string s] w fun e w' => NmP w (nmD s) e w') := fun w => nm_any s w hs
  obtain ⟨A, hA⟩ : ∃ A, A = rdS s := ⟨_, rfl⟩
  have HA0 := hid hA
  rw [← hA]
  clear hA
  cases hnm : nmD s with
  | none =>
    have hR : A = none := by
      rw [HA0.out]
      unfold nmD at hnm
      cases hI : numI s with
      | none => exact rdS_no1 hI
      | some q =>
        obtain ⟨n, r⟩ := q
        rw [hI] at hnm
        simp only [] at hnm
        by_cases h6 : 60 < n
        · exact rdS_no2 hI h6
        · rw [if_neg h6] at hnm
          exact rdS_no3 hI hnm
    rw [hnm] at HN
    subst hR
    have HN2 : Hid (∀ w, Calls Try.prog 42 #[.string s] w fun e w' => e = .returned (.tuple #[.slice none 0 0, .slice none 0 0, .string ⟨#[]⟩, .bool false]) ∧ Below w.heap.size w w') := fun w => (HN.out w).mono (fun e w' h => ⟨h.2, h.1⟩)
    clear HN HA0 hnm
    go_enter Try.func14, Try.ntmps14
    go_wp2_with fail
    refine (HN2.out _).mono ?_
    rintro e w1 ⟨rfl, hb1⟩
    go_wp2_with fail
    go_ret2
    exact rs_nil hb1
  | some q =>
    obtain ⟨L, r1⟩ := q
    rw [hnm] at HN
    obtain ⟨n, r, hI, hn, hna⟩ : ∃ n r, numI s = some (n, r) ∧ n ≤ 60 ∧ naI r n = some (L, r1) := by
      unfold nmD at hnm
      cases hI : numI s with
      | none => rw [hI] at hnm; cases hnm
      | some q =>
        obtain ⟨n, r⟩ := q
        rw [hI] at hnm
        simp only [] at hnm
        by_cases h6 : 60 < n
        · rw [if_pos h6] at hnm; cases hnm
        · rw [if_neg h6] at hnm; exact ⟨n, r, rfl, by omega, hnm⟩
    obtain ⟨hl, hr1, hlz⟩ := naI_bd hna
    have hrb := (numI_bd hI).2
    have HD : Hid (∀ w, Calls Try.prog 43 #[.string r1] w fun e w' => e = .returned (datIV (datI r1)) ∧ Below w.heap.size w w') := fun w => dataOf_any r1 w (by omega)
    have HN2 : Hid (∀ w, Calls Try.prog 42 #[.string s] w fun e w' => ∃ v1 v2, e = .returned (.tuple #[v1, v2, .string r1, .bool true]) ∧ NmR w.heap.size w' v1 v2 L ∧ Below w.heap.size w w') := fun w => (HN.out w).mono (fun e w' h => by obtain ⟨hb, v1, v2, h1, h2⟩ := h; exact ⟨v1, v2, h1, h2, hb⟩)
    cases hd : datI r1 with
    | none =>
      have hR : A = none := by rw [HA0.out]; exact rdS_no4 hI hna hd
      subst hR
      rw [hd] at HD
      have HD2 : Hid (∀ w, Calls Try.prog 43 #[.string r1] w fun e w' => e = .returned (.tuple #[.string ⟨#[]⟩, .string ⟨#[]⟩, .bool false]) ∧ Below w.heap.size w w') := HD
      clear HN HA0 hnm HD hd hna hI hlz hl
      go_enter Try.func14, Try.ntmps14
      go_wp2_with fail
      refine (HN2.out _).mono ?_
      rintro e w1 ⟨v1, v2, rfl, hNR, hb1⟩
      clear hNR
      go_wp2_with fail
      refine (HD2.out _).mono ?_
      rintro e w2 ⟨rfl, hb2⟩
      go_wp2_with fail
      go_ret2
      exact rs_nil (blMb hb1 hb2 hb1.size)
    | some q =>
      obtain ⟨p, t⟩ := q
      rw [hd] at HD
      have HD2 : Hid (∀ w, Calls Try.prog 43 #[.string r1] w fun e w' => e = .returned (.tuple #[.string p, .string t, .bool true]) ∧ Below w.heap.size w w') := HD
      have hpb := (datI_bd hd).1
      have HU : Hid (∀ w, Calls Try.prog 44 #[.string p] w fun e w' => e = .returned (upAns (unp p)) ∧ Below w.heap.size w w') := fun w => unpack_any p w (by omega)
      cases hu : unp p with
      | none =>
        have hR : A = none := by rw [HA0.out]; exact rdS_no5 hI hna hd hu
        subst hR
        rw [hu] at HU
        have HU2 : Hid (∀ w, Calls Try.prog 44 #[.string p] w fun e w' => e = .returned (.tuple #[.string ⟨#[]⟩, .bool false]) ∧ Below w.heap.size w w') := HU
        clear HN HA0 hnm HD hd hna hI hlz hl HU hu
        go_enter Try.func14, Try.ntmps14
        go_wp2_with fail
        refine (HN2.out _).mono ?_
        rintro e w1 ⟨v1, v2, rfl, hNR, hb1⟩
        clear hNR
        go_wp2_with fail
        refine (HD2.out _).mono ?_
        rintro e w2 ⟨rfl, hb2⟩
        have hb12 := blMb hb1 hb2 hb1.size
        clear hb1 hb2
        go_wp2_with fail
        refine (HU2.out _).mono ?_
        rintro e w3 ⟨rfl, hb3⟩
        go_wp2_with fail
        go_ret2
        exact rs_nil (blMb hb12 hb3 hb12.size)
      | some d =>
        rw [hu] at HU
        have HU2 : Hid (∀ w, Calls Try.prog 44 #[.string p] w fun e w' => e = .returned (.tuple #[.string d, .bool true]) ∧ Below w.heap.size w w') := HU
        have hd4 := (unp_some hu).1
        have HC : Hid (∀ w, Calls Try.prog 37 #[.string d] w fun e w' => e = .returned (.string (sumB d)) ∧ Below w.heap.size w w') := fun w => crcOf_any d w (by unfold maxLen; omega)
        have HNO : Hid (¬ (sumB d = t ∧ szS L n = d.size ∧ mbR (mbF (mL L d)) n) → A = none) := fun h => by rw [HA0.out]; exact rdS_no6 hI hna hd hu h
        have HYE : Hid (sumB d = t ∧ szS L n = d.size ∧ mbR (mbF (mL L d)) n → A = some (mL L d)) := fun h => by rw [HA0.out]; exact rdS_yes hI hn hna hd hu h
        have HLE : Hid (szS L n = d.size → MbLe (mbF (mL L d)) n) := fun h => mL_le (by omega) hna hn (by omega)
        have HHO : Hid (∀ (B : Nat) v1 v2 w, NmR B w v1 v2 L → B ≤ w.heap.size → Calls Try.prog 45 #[.string d, v2, v1] w fun e w' => HoP w B v1 L d e w') := fun B v1 v2 w h hB => ho_any d L B v1 v2 w hd4 (by omega) (fun p hp => (hlz p hp).2) h hB
        have HLN := hid hl
        clear HN HA0 hnm HD hd hna hI hlz hl HU hu hrb hr1 hpb hd4
        go_enter Try.func14, Try.ntmps14
        go_wp2_with fail
        refine (HN2.out _).mono ?_
        rintro e w1 ⟨v1, v2, rfl, hNR, hb1⟩
        have HR1 := hid hNR
        clear hNR
        go_wp2_with fail
        refine (HD2.out _).mono ?_
        rintro e w2 ⟨rfl, hb2⟩
        have HR2 : Hid (NmR w.heap.size w2 v1 v2 L) := ⟨own2_call HR1.out.list hb2, own2_call HR1.out.size hb2⟩
        have hb12 := blMb hb1 hb2 hb1.size
        clear hb1 hb2 HR1
        go_wp2_with fail
        refine (HU2.out _).mono ?_
        rintro e w3 ⟨rfl, hb3⟩
        have HR3 : Hid (NmR w.heap.size w3 v1 v2 L) := ⟨own2_call HR2.out.list hb3, own2_call HR2.out.size hb3⟩
        have hb13 := blMb hb12 hb3 hb12.size
        clear hb12 hb3 HR2
        go_wp2_with fail
        refine (HC.out _).mono ?_
        rintro e w4 ⟨rfl, hb4⟩
        have HR4 : Hid (NmR w.heap.size w4 v1 v2 L) := ⟨own2_call HR3.out.list hb4, own2_call HR3.out.size hb4⟩
        have HB4 := hid (blMb hb13 hb4 hb13.size)
        clear hb13 hb4 HR3
        by_cases hst : sumB d = t
        · rw [hst] at HNO HYE ⊢
          go_wp2_with fail
          refine (HHO.out w.heap.size v1 v2 _ HR4.out HB4.out.size).mono ?_
          intro e w5 hP
          have HB5 := hid (HB4.out.trans hP.below)
          by_cases hz : szS L n = d.size
          · obtain ⟨rfl, hown⟩ := hP.2.1 (by rw [HLN.out]; exact hz)
            have HO5 := hid hown
            have HM : Hid (∀ w', MbArg w' v1 n (mbF (mL L d)) → Calls Try.prog 21 #[v1] w' fun e w'' => e = .returned (.bool (mbB (mbF (mL L d)) n)) ∧ Below w'.heap.size w' w'') := fun w' h => mbs_any v1 n (mbF (mL L d)) w' (HLE.out hz) h
            have harg : MbArg w5 v1 n (mbF (mL L d)) := by
              have h := own2_arg (L := mL L d) (by rw [mL_len]; exact hown)
              rw [mL_len, HLN.out] at h
              exact h
            have HARG := hid harg
            by_cases hmb : mbR (mbF (mL L d)) n
            · rw [mbB_yes hmb] at HM
              have hA := HYE.out (by first | exact ⟨trivial, hz, hmb⟩ | exact ⟨rfl, hz, hmb⟩ | exact ⟨hz, hmb⟩)
              have HAA := hid hA
              clear hA hmb hz HNO HYE hP hown harg HHO HLE
              go_wp2_with fail
              refine (HM.out _ HARG.out).mono ?_
              rintro e w6 ⟨rfl, hb6⟩
              go_wp2_with fail
              go_ret2
              rw [HAA.out]
              refine ⟨⟨_, rfl, ?_⟩, blMb HB5.out hb6 HB5.out.size⟩
              have h6 := own2_call HO5.out hb6
              show World.ownsRow _ _ _ _ _ (mL L d).length _
              rw [mL_len]; exact h6
            · rw [mbB_no hmb] at HM
              have hA := HNO.out (by first | exact fun c => hmb c.2.2 | exact fun c => hmb c.2)
              have HAA := hid hA
              clear hA hmb hz HNO HYE hP hown harg HHO HLE
              go_wp2_with fail
              refine (HM.out _ HARG.out).mono ?_
              rintro e w6 ⟨rfl, hb6⟩
              go_wp2_with fail
              go_ret2
              rw [HAA.out]
              exact rs_nil (blMb HB5.out hb6 HB5.out.size)
          · obtain rfl := hP.2.2 (by rw [HLN.out]; exact hz)
            have HAA := hid (HNO.out (fun c => hz c.2.1))
            clear hz HNO HYE hP HHO HLE
            go_wp2_with fail
            go_ret2
            rw [HAA.out]
            exact rs_nil HB5.out
        · have HAA := hid (HNO.out (fun c => hst c.1))
          have hne : ((sumB d).toList == t.toList) = false := by
            rw [beq_eq_false_iff_ne]
            intro c
            rw [Lib.toList_data, Lib.toList_data] at c
            exact hst (ByteArray.ext (Array.ext' c))
          generalize sumB d = Y at hne ⊢
          clear hst HNO HYE HHO HLE HC
          go_wp2_with fail
          go_ret2
          rw [HAA.out]
          exact rs_nil HB4.out
end Go.Proofs.Ytbkjcngehhdchaa

/-!   A block of members: what the specification's ReadSolid answers, at every text of a million bytes at most. -/
namespace Go.Proofs.Ytbkjcngehhdchaa
open Go.RowKit
set_option linter.unusedVariables false
set_option linter.unusedSimpArgs false
theorem naI_szS {r r0 : ByteArray} {i : Nat} {L0 : List (ByteArray × Nat)} (h0 : naI r i = some (L0, r0)) : ∀ (j : Nat) {L : List (ByteArray × Nat)} {r1 : ByteArray}, naI r (i + j) = some (L, r1) → szS L0 i ≤ szS L (i + j)
  | 0, L, r1, h => by
    have h : naI r i = some (L, r1) := h
    rw [h0] at h
    cases h
    exact Nat.le_refl _
  | j + 1, L, r1, h => by
    have h : naI r ((i + j) + 1) = some (L, r1) := h
    unfold naI at h
    cases h1 : naI r (i + j) with
    | none => rw [h1] at h; cases h
    | some q =>
      obtain ⟨L1, r2⟩ := q
      have a := naI_szS h0 j h1
      have al := (naI_bd h1).1
      rw [h1] at h
      simp only [] at h
      split at h
      · cases h
      · split at h
        · cases h
        · cases h
          show _ ≤ szS (L1 ++ [_]) ((i + j) + 1)
          rw [szS_end L1 _ al.symm]
          omega
theorem rdS_big {s r r0 : ByteArray} {n i : Nat} {L0 : List (ByteArray × Nat)} (h : numI s = some (n, r)) (h0 : naI r i = some (L0, r0)) (hi : i ≤ n) (hb : 4000 < szS L0 i) : rdS s = none := by
  cases h1 : naI r n with
  | none => exact rdS_no3 h h1
  | some q =>
    obtain ⟨L, r1⟩ := q
    have hz : szS L0 i ≤ szS L n := by
      have e : i + (n - i) = n := by omega
      have := naI_szS h0 (n - i) (L := L) (r1 := r1) (by rw [e]; exact h1)
      rw [e] at this; exact this
    cases h2 : datI r1 with
    | none => exact rdS_no4 h h1 h2
    | some q =>
      obtain ⟨p, t⟩ := q
      cases h3 : unp p with
      | none => exact rdS_no5 h h1 h2 h3
      | some d => exact rdS_no6 h h1 h2 h3 (fun c => by have := (unp_some h3).1; have := c.2.1; omega)
theorem numI_emptyS : numI ⟨#[]⟩ = none := rfl
theorem upAns_form (R : Option ByteArray) : ∃ dd bb, (Ending.returned (upAns R)) = .returned (.tuple #[.string dd, .bool bb]) := by
  cases R with
  | none => exact ⟨_, _, rfl⟩
  | some d => exact ⟨_, _, rfl⟩
theorem mb_one2 (a d : ByteArray) : ∀ u ∈ [Value.string a, .string d], u.oneCell' = true := by
  intro u hu
  simp only [List.mem_cons, List.not_mem_nil, or_false] at hu
  rcases hu with rfl | rfl <;> rfl
theorem nmC_snoc (L : List (ByteArray × Nat)) (p : ByteArray × Nat) : mbC (L.map fun p => (⟨p.1, ⟨#[]⟩⟩ : MbI)) ++ [.string p.1, .string ⟨#[]⟩] = mbC ((L ++ [p]).map fun p => (⟨p.1, ⟨#[]⟩⟩ : MbI)) := by
  rw [List.map_append]; exact mbC_snoc _ ⟨p.1, ⟨#[]⟩⟩
theorem row_two {w : World} {B C n m y z : Nat} {e t : TypeId} {v u : Value} {xs ys : List Value} (hte : e ≠ t) (h : w.ownsRow B e y v n xs) (k : w.ownsRow C t z u m ys) {w' : World} (hg : w.grownBy w' v.ownBlock) : w'.ownsRow C t z u m ys := by
  obtain ⟨hl, ⟨h0, hn⟩ | ⟨g, cap, cur, h1, h2, h3, h4⟩⟩ := k
  · exact ⟨hl, Or.inl ⟨h0, hn⟩⟩
  · exact ⟨hl, Or.inr ⟨g, cap, cur, h1, h2, (hg.block g (Array.getElem?_eq_some_iff.1 h3).1 (row_apartE hte.symm h h3)).trans h3, h4⟩⟩
/-- the names and the sizes, side by side -/
structure SN (w wr : World) (v1 v2 : Value) (L1 L2 : List (ByteArray × Nat)) : Prop where
  list : wr.ownsRow w.heap.size 41 2 v1 L1.length (mbC (L1.map fun p => ⟨p.1, ⟨#[]⟩⟩))
  size : wr.ownsRow w.heap.size 2 1 v2 L2.length (L2.map fun p => .int .i64 (p.2 : Int))
  below : Below w.heap.size w wr
theorem SN.call {w wr w' : World} {v1 v2 : Value} {L1 L2 : List (ByteArray × Nat)} (h : SN w wr v1 v2 L1 L2) (hb : Below wr.heap.size wr w') : SN w w' v1 v2 L1 L2 :=
  ⟨own2_call h.list hb, own2_call h.size hb, blMb h.below hb h.below.size⟩
theorem SN.put1 {w wr w4 : World} {v1 v2 v' : Value} {L1 L2 : List (ByteArray × Nat)} {p : ByteArray × Nat} (h : SN w wr v1 v2 L1 L2) (X : Obj)
    (h1 : w4.ownsRow w.heap.size 41 2 v' (L1.length + 1) (mbC (L1.map fun p => (⟨p.1, ⟨#[]⟩⟩ : MbI)) ++ [.string p.1, .string ⟨#[]⟩])) (h2 : (wr.alloc X).grownBy w4 v1.ownBlock) : SN w w4 v' v2 (L1 ++ [p]) L2 := by
  have hsz := h.below.size
  refine ⟨?_, row_two (by decide) (h.list.alloc X) (h.size.alloc X) h2, (h.below.alloc hsz _).grown h2 (by simp; omega) (fun k hk => (h.list.lt k hk).1)⟩
  rw [nmC_snoc] at h1
  rw [List.length_append]; exact h1
theorem SN.put2 {w wr w4 : World} {v1 v2 v' : Value} {L1 L2 : List (ByteArray × Nat)} {p : ByteArray × Nat} (h : SN w wr v1 v2 L1 L2) (X : Obj)
    (h1 : w4.ownsRow w.heap.size 2 1 v' (L2.length + 1) (L2.map (fun p => Value.int .i64 (p.2 : Int)) ++ [.int .i64 (p.2 : Int)])) (h2 : (wr.alloc X).grownBy w4 v2.ownBlock) : SN w w4 v1 v' L1 (L2 ++ [p]) := by
  have hsz := h.below.size
  refine ⟨row_two (by decide) (h.size.alloc X) (h.list.alloc X) h2, ?_, (h.below.alloc hsz _).grown h2 (by simp; omega) (fun k hk => (h.size.lt k hk).1)⟩
  rw [List.length_append, List.map_append]; exact h1
theorem own1_len {w : World} {B z n : Nat} {e : TypeId} {v : Value} {xs : List Value} (h : w.ownsRow B e z v n xs) : ∃ a c, v = .slice a n c := by
  obtain ⟨_, ⟨q0, q1⟩ | ⟨g', cap, cur, q1, _⟩⟩ := h
  · subst q1; exact ⟨_, _, q0⟩
  · exact ⟨_, _, q1⟩
/-- the walk of the pieces -/
def SH (w wr : World) (a1 a2 : Option Addr) (c1 c2 n k : Nat) (L : List (ByteArray × Nat)) (d : ByteArray) : Prop := Below w.heap.size w wr ∧ (0 < n → ∃ g1 g2 C1 C2, a1 = some ⟨g1, 0, none⟩ ∧ a2 = some ⟨g2, 0, none⟩ ∧ HO w wr w.heap.size g1 g2 n c1 k C1 C2 L d) ∧ (n = 0 → wr.ownsRow w.heap.size 41 2 (.slice a1 0 c1) 0 [])
theorem SH.done {w wr : World} {a1 a2 : Option Addr} {c1 c2 n : Nat} {L : List (ByteArray × Nat)} {d : ByteArray} (h : SH w wr a1 a2 c1 c2 n n L d) (hl : L.length = n) : wr.ownsRow w.heap.size 41 2 (.slice a1 n c1) n (mbC (mL L d)) := by
  obtain ⟨hb, h1, h2⟩ := h
  by_cases h0 : 0 < n
  · obtain ⟨g1, g2, C1, C2, rfl, rfl, h⟩ := h1 h0
    exact h.done
  · obtain rfl : n = 0 := by omega
    obtain rfl := List.length_eq_zero_iff.1 hl
    exact h2 rfl
theorem sh_start {w wr : World} {a1 a2 : Option Addr} {c1 c2 : Nat} {L : List (ByteArray × Nat)} (h : SN w wr (.slice a1 L.length c1) (.slice a2 L.length c2) L L) (hn : L.length ≤ 60) (d : ByteArray) : SH w wr a1 a2 c1 c2 L.length 0 L d := by
  refine ⟨h.below, fun h0 => ?_, fun h0 => ?_⟩
  · obtain ⟨g1, c1', C1, e1, hb1, hr1, hs1, ht1⟩ := own2_form h.list h0
    obtain ⟨g2, c2', C2, e2, hb2, hr2, ht2⟩ := own_formP h.size h0
    obtain ⟨hl, ⟨q0, _⟩ | ⟨g', cap, cur, q1, q2, q3, q4, q5, q6, q7⟩⟩ := h.list
    · rw [e1] at q0; cases q0
    · cases e1
      cases e2
      cases q1
      rw [hr1] at q3
      injection q3 with q3
      injection q3 with q3 _ _
      subst q3
      refine ⟨g1, g2, C1, C2, rfl, rfl, hr1, hr2, q6, fun j hj => ?_, fun j hj => absurd hj (by omega), fun j hj => ?_, h.below, hb1, q4, q5, rfl⟩
      · have k := ht1 (2 * j) _ (mbC_at _ j (by rw [List.length_map]; exact hj)).1
        rw [mapF_at L hj] at k; exact k
      · have k := ht2 j (.int .i64 ((L.getD j (⟨#[]⟩, 0)).2 : Int)) (by rw [List.getElem?_map, List.getD_eq_getElem?_getD, List.getElem?_eq_getElem hj]; rfl)
        exact (cell_of_row _ _ _ _ _ _ hr2).symm.trans k
  · have hL : L = [] := List.length_eq_zero_iff.1 h0
    subst hL
    exact h.list
set_option maxRecDepth 100000 in
set_option maxHeartbeats 8000000 in
theorem srs_go (s r : ByteArray) (n : Nat) (w : World) (hs : s.size ≤ 1048576) (hI : numI s = some (n, r)) (hn : n ≤ 60) :
    Calls Try.prog 13 #[.string s] w fun e w' => RsPost w (rdS s) e w' := by
  have hrs : r.size ≤ 1048576 := by have := (numI_bd hI).2; omega
  have HN : Hid (∀ w, Calls Try.prog 39 #[.string s] w fun e w' => e = .returned (.tuple #[.int .i64 (n : Int), .string r, .bool true]) ∧ Below w.heap.size w w') := fun w => by
    have h := snumI_any s w hs
    rw [hI] at h
    exact h
  have HNU : Hid (∀ (s : ByteArray) w, s.size ≤ 1048576 → Calls Try.prog 39 #[.string s] w fun e w' => e = .returned (numIV (numI s)) ∧ Below w.heap.size w w') := fun s w h => snumI_any s w h
  have HDA : Hid (∀ (s : ByteArray) w, s.size ≤ 1048576 → Calls Try.prog 40 #[.string s] w fun e w' => e = .returned (datIV (datI s)) ∧ Below w.heap.size w w') := fun s w h => stext_datI s w h
  have HUP : Hid (∀ (s : ByteArray) w, s.size ≤ 1048576 → Calls Try.prog 41 #[.string s] w fun e w' => e = .returned (upAns (unp s)) ∧ Below w.heap.size w w') := fun s w h => sunpack_any s w h
  have HCR : Hid (∀ (s : ByteArray) w, s.size ≤ 4000 → Calls Try.prog 30 #[.string s] w fun e w' => e = .returned (.int .u32 ((crc32 s : Nat) : Int)) ∧ w' = w) := fun s w h => scrc32_any s w (by unfold maxLen; omega)
  have HBG : Hid (∀ (s : ByteArray) w, Calls Try.prog 29 #[.int .u64 ((crc32 s : Nat) : Int), .int .i64 4] w fun e w' => e = .returned (.string (sumB s)) ∧ Below w.heap.size w w') := fun s w => sbig_any (crc32 s) 4 w (by have := crc_lt s; omega) (by decide) (by decide)
  obtain ⟨A, hA⟩ : ∃ A, A = rdS s := ⟨_, rfl⟩
  have HA : Hid (A = rdS s) := hA
  rw [← hA]
  have HIS : Hid (numI s = some (n, r)) := hI
  have HRS : Hid (r.size ≤ 1048576) := hrs
  have hnI : ¬ (60 : Int) < (n : Int) := by omega
  obtain ⟨i0, hi0, hz0, hz1, hz2⟩ := info_parts Try.infMb
  obtain ⟨i1, hi1, hy0, hy1, hy2⟩ := info_parts Try.infI6
  clear hA hrs hI
  go_enter Try.func13, Try.ntmps13
  go_wp2_with fail
  refine (HN.out _).mono ?_
  rintro e w1 ⟨rfl, hb1⟩
  obtain ⟨W, hW⟩ : ∃ W, W = (w1.alloc (.cells #[] 41)).alloc (.cells #[] 2) := ⟨_, rfl⟩
  have hSN : SN w W (.slice (some ⟨w1.heap.size, 0, none⟩) 0 0) (.slice (some ⟨w1.heap.size + 1, 0, none⟩) 0 0) [] [] := by
    refine ⟨?_, ?_, ?_⟩
    · rw [hW]
      have h := World.ownsRow_made w1 #[] 0 (e := 41) (base := w.heap.size) (size := 2) hb1.size (by unfold maxLen; omega) rfl
      exact World.ownsRow.alloc (by simpa [mbC] using h) _
    · rw [hW]
      have h := World.ownsRow_made (w1.alloc (.cells #[] 41)) #[] 0 (e := 2) (base := w.heap.size) (size := 1) (by have := hb1.size; simp; omega) (by unfold maxLen; omega) rfl
      simpa using h
    · rw [hW]; exact (hb1.alloc hb1.size _).alloc (by have := hb1.size; simp; omega) _
  have HSN := hid hSN
  clear hb1 hSN HN
  go_wp2_with fail
  rw [← hW]
  clear hW
  generalize w1.heap.size + 1 = gg2 at HSN ⊢
  generalize w1.heap.size = gg1 at HSN ⊢
  go_loopw [5, 7, 8, 9, 10] (fun x v u m i wr => ∃ (k : Nat) (L : List (ByteArray × Nat)) (r1 : ByteArray), k ≤ n ∧ x = .string r1 ∧ m = .int .i64 (szS L k : Int) ∧ i = .int .i64 (k : Int) ∧ Hid (naI r k = some (L, r1)) ∧ Hid (szS L k ≤ 4000 * k) ∧ Hid (SN w wr v u L L)) (fun _ _ _ _ i _ => n - (intMb i).toNat)
  case atStart => exact ⟨0, [], r, by omega, rfl, rfl, rfl, rfl, Nat.le_refl _, HSN⟩
  case round =>
    clear HSN
    obtain ⟨k, L, r1, hk, rfl, rfl, rfl, HNA, HSZ, HSN⟩ := hrel
    have hr1 : r1.size ≤ 1048576 := by have := (naI_bd HNA.out).2.1; have := HRS.out; omega
    have hll := (naI_bd HNA.out).1
    have HLL := hid hll
    by_cases hlt : k < n
    · have hltI : (k : Int) < (n : Int) := by omega
      have HDT : Hid (∀ w, Calls Try.prog 40 #[.string r1] w fun e w' => e = .returned (datIV (datI r1)) ∧ Below w.heap.size w w') := fun w => HDA.out r1 w hr1
      have HLT := hid hlt
      cases hd : datI r1 with
      | none =>
        rw [hd] at HDT
        have hAN : A = none := by rw [HA.out]; exact rdS_no3 HIS.out (naI_stop (naI_no1 HNA.out hd) hlt)
        subst hAN
        have HD2 : Hid (∀ w, Calls Try.prog 40 #[.string r1] w fun e w' => e = .returned (.tuple #[.string ⟨#[]⟩, .string ⟨#[]⟩, .bool false]) ∧ Below w.heap.size w w') := HDT
        have HNE : Hid (∀ w, Calls Try.prog 39 #[.string ⟨#[]⟩] w fun e w' => e = .returned (numIV (numI ⟨#[]⟩)) ∧ Below w.heap.size w w') := fun w => HNU.out ⟨#[]⟩ w (by decide)
        have HB := hid HSN.out.below
        clear HDT hd HSN HNA HSZ
        go_wp2_with fail
        refine (HD2.out _).mono ?_
        rintro e w3 ⟨rfl, hb3⟩
        have HB3 := hid (blMb HB.out hb3 HB.out.size)
        clear hb3 HB
        go_wp2_with fail
        cases hne : numI ⟨#[]⟩ with
        | none =>
          rw [hne] at HNE
          have HNE2 : Hid (∀ w, Calls Try.prog 39 #[.string ⟨#[]⟩] w fun e w' => e = .returned (.tuple #[.int .i64 0, .string ⟨#[]⟩, .bool false]) ∧ Below w.heap.size w w') := HNE
          clear hne HNE
          refine (HNE2.out _).mono ?_
          rintro e w4 ⟨rfl, hb4⟩
          have HB4 := hid (blMb HB3.out hb4 HB3.out.size)
          clear hb4 HB3
          go_wp2_with fail
          go_ret2
          exact rs_nil HB4.out
        | some q =>
          exfalso
          obtain ⟨q1, q2⟩ := q
          have h := numI_emptyS
          rw [hne] at h
          cases h
      | some q =>
        obtain ⟨a, r2⟩ := q
        rw [hd] at HDT
        have hab := datI_bd hd
        have HD2 : Hid (∀ w, Calls Try.prog 40 #[.string r1] w fun e w' => e = .returned (.tuple #[.string a, .string r2, .bool true]) ∧ Below w.heap.size w w') := HDT
        have HN1 : Hid (∀ w, Calls Try.prog 39 #[.string r2] w fun e w' => e = .returned (numIV (numI r2)) ∧ Below w.heap.size w w') := fun w => HNU.out r2 w (by omega)
        have HDI := hid hd
        clear HDT hd hab
        cases hn2 : numI r2 with
        | none =>
          rw [hn2] at HN1
          have hAN : A = none := by rw [HA.out]; exact rdS_no3 HIS.out (naI_stop (naI_no2 HNA.out HDI.out hn2) hlt)
          subst hAN
          have HN2 : Hid (∀ w, Calls Try.prog 39 #[.string r2] w fun e w' => e = .returned (.tuple #[.int .i64 0, .string ⟨#[]⟩, .bool false]) ∧ Below w.heap.size w w') := HN1
          have HB := hid HSN.out.below
          clear hn2 HN1 HSN HNA HSZ
          go_wp2_with fail
          refine (HD2.out _).mono ?_
          rintro e w3 ⟨rfl, hb3⟩
          have HB3 := hid (blMb HB.out hb3 HB.out.size)
          clear hb3 HB
          go_wp2_with fail
          refine (HN2.out _).mono ?_
          rintro e w4 ⟨rfl, hb4⟩
          have HB4 := hid (blMb HB3.out hb4 HB3.out.size)
          clear hb4 HB3
          go_wp2_with fail
          go_ret2
          exact rs_nil HB4.out
        | some q =>
          obtain ⟨z, r3⟩ := q
          rw [hn2] at HN1
          have HN2 : Hid (∀ w, Calls Try.prog 39 #[.string r2] w fun e w' => e = .returned (.tuple #[.int .i64 (z : Int), .string r3, .bool true]) ∧ Below w.heap.size w w') := HN1
          have hna2 : naI r (k + 1) = some (L ++ [(a, z)], r3) := naI_go HNA.out HDI.out hn2
          have hzz : szS (L ++ [(a, z)]) (k + 1) = szS L k + z := szS_end L _ hll.symm
          by_cases h4 : z ≤ 4000
          · have h4I : ¬ (4000 : Int) < (z : Int) := by omega
            have HNA2 := hid hna2
            have HSZ2 : Hid (szS (L ++ [(a, z)]) (k + 1) ≤ 4000 * (k + 1)) := by show _ ≤ _; rw [hzz]; have := HSZ.out; omega
            have HZZ := hid hzz
            have hs4 := HSZ.out
            clear hn2 HN1 hna2 HNA HSZ hzz
            go_wp2_with fail
            refine (HD2.out _).mono ?_
            rintro e w3 ⟨rfl, hb3⟩
            have HSN3 := hid (HSN.out.call hb3)
            clear hb3 HSN
            go_wp2_with fail
            refine (HN2.out _).mono ?_
            rintro e w4 ⟨rfl, hb4⟩
            have HSN4 := hid (HSN3.out.call hb4)
            have hsz4 := HSN4.out.below.size
            clear hb4 HSN3
            go_wp2_with (at_builtin; (refine wpList_append_own _ rfl _ _ 26 rfl w.heap.size 41 i0 _ 2 32 Try.underlying26 hi0 hz0 hz1 hz2 rfl (by decide) _ _ _ rfl (HSN4.out.list.alloc _) ⟨w4.heap.size, 0, none⟩ 1 1 [_, _] rfl rfl cell_two ?c2 ?c3 ?c4 ?c5 ?_))
            case c2 => exact mb_one2 _ _
            case c3 => unfold maxLen; omega
            case c4 => omega
            case c5 => simp; omega
            intro v' w5 hown' hgrow _
            have HSN5 := hid (HSN4.out.put1 (p := (a, z)) _ (by rw [HLL.out]; exact hown') hgrow)
            have hsz5 := HSN5.out.below.size
            clear hown' hgrow HSN4
            go_wp2_with (at_builtin; (refine wpList_append_own _ rfl _ _ 65 rfl w.heap.size 2 i1 _ 1 8 Try.underlying65 hi1 hy0 hy1 hy2 rfl (by decide) _ _ _ rfl (HSN5.out.size.alloc _) ⟨w5.heap.size, 0, none⟩ 1 1 [_] rfl rfl (cell_one_new1 _ _ _) ?d2 ?d3 ?d4 ?d5 ?_))
            case d2 => simp [Value.oneCell']
            case d3 => unfold maxLen; omega
            case d4 => omega
            case d5 => simp; omega
            intro v'' w6 hown' hgrow _
            have HSN6 := hid (HSN5.out.put2 (p := (a, z)) _ (by rw [HLL.out]; exact hown') hgrow)
            clear hown' hgrow HSN5
            go_wp2_with fail
            go_roundw
            case rel => exact ⟨k + 1, L ++ [(a, z)], r3, by omega, rfl, by rw [HZZ.out]; go_num, by go_num, HNA2, HSZ2, HSN6⟩
            case measure => simp [intMb]; omega
          · have h4I : (4000 : Int) < (z : Int) := by omega
            have hAN : A = none := by rw [HA.out]; exact rdS_big HIS.out hna2 (by omega) (by omega)
            subst hAN
            have HB := hid HSN.out.below
            clear hn2 HN1 hna2 HNA HSZ hzz HSN
            go_wp2_with fail
            refine (HD2.out _).mono ?_
            rintro e w3 ⟨rfl, hb3⟩
            have HB3 := hid (blMb HB.out hb3 HB.out.size)
            clear hb3 HB
            go_wp2_with fail
            refine (HN2.out _).mono ?_
            rintro e w4 ⟨rfl, hb4⟩
            have HB4 := hid (blMb HB3.out hb4 HB3.out.size)
            clear hb4 HB3
            go_wp2_with fail
            go_ret2
            exact rs_nil HB4.out
    · obtain rfl : n = k := by omega
      have HDT : Hid (∀ w, Calls Try.prog 40 #[.string r1] w fun e w' => e = .returned (datIV (datI r1)) ∧ Below w.heap.size w w') := fun w => HDA.out r1 w hr1
      have hnaf := HNA.out
      cases hd : datI r1 with
      | none =>
        rw [hd] at HDT
        have hAN : A = none := by rw [HA.out]; exact rdS_no4 HIS.out hnaf hd
        subst hAN
        have HD2 : Hid (∀ w, Calls Try.prog 40 #[.string r1] w fun e w' => e = .returned (.tuple #[.string ⟨#[]⟩, .string ⟨#[]⟩, .bool false]) ∧ Below w.heap.size w w') := HDT
        have HUE : Hid (∀ w, Calls Try.prog 41 #[.string ⟨#[]⟩] w fun e w' => (∃ dd bb, e = .returned (.tuple #[.string dd, .bool bb])) ∧ Below w.heap.size w w') := fun w => (HUP.out ⟨#[]⟩ w (by decide)).mono (fun e w' h => ⟨by rw [h.1]; exact upAns_form _, h.2⟩)
        have HB := hid HSN.out.below
        clear HDT hd HSN HNA HSZ hnaf
        go_wp2_with fail
        refine (HD2.out _).mono ?_
        rintro e w3 ⟨rfl, hb3⟩
        have HB3 := hid (blMb HB.out hb3 HB.out.size)
        clear hb3 HB
        go_wp2_with fail
        refine (HUE.out _).mono ?_
        rintro e w4 ⟨⟨dd, bb, rfl⟩, hb4⟩
        have HB4 := hid (blMb HB3.out hb4 HB3.out.size)
        clear hb4 HB3
        go_wp2_with fail
        go_ret2
        exact rs_nil HB4.out
      | some q =>
        obtain ⟨p, t⟩ := q
        rw [hd] at HDT
        have hpb := (datI_bd hd).1
        have HD2 : Hid (∀ w, Calls Try.prog 40 #[.string r1] w fun e w' => e = .returned (.tuple #[.string p, .string t, .bool true]) ∧ Below w.heap.size w w') := HDT
        have HU : Hid (∀ w, Calls Try.prog 41 #[.string p] w fun e w' => e = .returned (upAns (unp p)) ∧ Below w.heap.size w w') := fun w => HUP.out p w (by omega)
        cases hu : unp p with
        | none =>
          rw [hu] at HU
          have hAN : A = none := by rw [HA.out]; exact rdS_no5 HIS.out hnaf hd hu
          subst hAN
          have HU2 : Hid (∀ w, Calls Try.prog 41 #[.string p] w fun e w' => e = .returned (.tuple #[.string ⟨#[]⟩, .bool false]) ∧ Below w.heap.size w w') := HU
          have HB := hid HSN.out.below
          clear HDT hd HSN HNA HSZ hnaf HU hu hpb
          go_wp2_with fail
          refine (HD2.out _).mono ?_
          rintro e w3 ⟨rfl, hb3⟩
          have HB3 := hid (blMb HB.out hb3 HB.out.size)
          clear hb3 HB
          go_wp2_with fail
          refine (HU2.out _).mono ?_
          rintro e w4 ⟨rfl, hb4⟩
          have HB4 := hid (blMb HB3.out hb4 HB3.out.size)
          clear hb4 HB3
          go_wp2_with fail
          go_ret2
          exact rs_nil HB4.out
        | some d =>
          rw [hu] at HU
          have HU2 : Hid (∀ w, Calls Try.prog 41 #[.string p] w fun e w' => e = .returned (.tuple #[.string d, .bool true]) ∧ Below w.heap.size w w') := HU
          have hd4 := (unp_some hu).1
          have HNO : Hid (¬ (sumB d = t ∧ szS L n = d.size ∧ mbR (mbF (mL L d)) n) → A = none) := fun h => by rw [HA.out]; exact rdS_no6 HIS.out hnaf hd hu h
          have HYE : Hid (sumB d = t ∧ szS L n = d.size ∧ mbR (mbF (mL L d)) n → A = some (mL L d)) := fun h => by rw [HA.out]; exact rdS_yes HIS.out hn hnaf hd hu h
          have HLE : Hid (szS L n = d.size → MbLe (mbF (mL L d)) n) := fun h => mL_le HRS.out hnaf hn (by omega)
          have HMO : Hid (∀ L n v w', MbArg w' v n (mbF L) → MbLe (mbF L) n → Calls Try.prog 25 #[v] w' fun e w'' => e = .returned (.bool (mbB (mbF L) n)) ∧ Below w'.heap.size w' w'') := fun L n v w' h h1 => smbs_any v n (mbF L) w' h1 h
          obtain ⟨zz, hzq⟩ : ∃ zz, zz = szS L n := ⟨_, rfl⟩
          have HZQ := hid hzq
          rw [← hzq]
          clear HDT hd HNA HSZ hnaf HU hu hpb hzq
          go_wp2_with fail
          refine (HD2.out _).mono ?_
          rintro e w3 ⟨rfl, hb3⟩
          have HSN3 := hid (HSN.out.call hb3)
          clear hb3 HSN
          go_wp2_with fail
          refine (HU2.out _).mono ?_
          rintro e w4 ⟨rfl, hb4⟩
          have HSN4 := hid (HSN3.out.call hb4)
          clear hb4 HSN3
          by_cases hz : (d.size : Int) = (zz : Int)
          · have hzs : szS L n = d.size := by rw [← HZQ.out]; omega
            have HZS := hid hzs
            have hcl := crc_lt d
            have hw : IntKind.u64.wrap ((crc32 d : Nat) : Int) = ((crc32 d : Nat) : Int) := by rw [IntKind.wrap_u64]; omega
            have HBG2 : Hid (∀ w, Calls Try.prog 29 #[.int .u64 ((crc32 d : Nat) : Int), .int .i64 4] w fun e w' => e = .returned (.string (sumB d)) ∧ Below w.heap.size w w') := HBG.out d
            have HC2 : Hid (∀ w, Calls Try.prog 30 #[.string d] w fun e w' => e = .returned (.int .u32 ((crc32 d : Nat) : Int)) ∧ w' = w) := fun w => HCR.out d w hd4
            clear hzs HBG HCR
            by_cases hst : sumB d = t
            · rw [hst] at HBG2 HNO HYE
              generalize crc32 d = X0 at *
              clear hst
              go_wp2_with fail
              refine (HC2.out _).mono ?_
              rintro e w5 ⟨rfl, rfl⟩
              go_wp2_with fail
              refine (HBG2.out _).mono ?_
              rintro e w6 ⟨rfl, hb6⟩
              have HSN6 := hid (HSN4.out.call hb6)
              clear hb6 HSN4 HC2 HBG2 hw hcl
              have h1 := HSN6.out.list
              have h2 := HSN6.out.size
              rw [HLL.out] at h1 h2
              obtain ⟨a1, c1, rfl⟩ := own1_len h1
              obtain ⟨a2, c2, rfl⟩ := own1_len h2
              have HSH : Hid (SH w w6 a1 a2 c1 c2 n 0 L d) := by
                have h := HSN6.out
                rw [← HLL.out] at h
                have h := sh_start h (by rw [HLL.out]; exact hn) d
                rw [HLL.out] at h
                exact h
              clear h1 h2 HSN6
              go_wp2_with fail
              go_loopw [22, 23] (fun m i wr => ∃ (k : Nat), k ≤ n ∧ m = .int .i64 (szS L k : Int) ∧ i = .int .i64 (k : Int) ∧ Hid (SH w wr a1 a2 c1 c2 n k L d)) (fun _ i _ => n - (intMb i).toNat)
              case atStart => exact ⟨0, by omega, rfl, rfl, HSH⟩
              case round =>
                clear HSH
                obtain ⟨k, hk, rfl, rfl, HSH⟩ := hrel
                by_cases hlt : k < n
                · have hltI : (k : Int) < (n : Int) := by omega
                  obtain ⟨hb, h1, h2⟩ := HSH.out
                  obtain ⟨g1, g2, C1, C2, rfl, rfl, hHO⟩ := h1 (by omega)
                  have HW := hid hHO
                  have hmono := szS_mono L (i := k + 1) (n := n) hlt
                  have hzk : szS L (k + 1) = szS L k + (L.getD k (⟨#[]⟩, 0)).2 := rfl
                  have x2 : wr.cell? ⟨g2, k, none⟩ = some (.int .i64 ((L.getD k (⟨#[]⟩, 0)).2 : Int)) := (cell_of_row _ _ _ _ _ _ hHO.r2).trans (hHO.z k hlt)
                  have hmo : (mOf L d k).d = d.extract (szS L k) (szS L (k + 1)) := rfl
                  rw [HZS.out] at hmono
                  obtain ⟨z, hzq⟩ : ∃ z, z = (L.getD k (⟨#[]⟩, 0)).2 := ⟨_, rfl⟩
                  rw [← hzq] at hzk x2
                  rw [hzk] at hmo hmono
                  obtain ⟨q0, hq0⟩ : ∃ q0, q0 = szS L k := ⟨_, rfl⟩
                  rw [← hq0] at hzk hmo hmono ⊢
                  obtain ⟨q, hq⟩ : ∃ q, q = 2 * k := ⟨_, rfl⟩
                  have hiq : k * 2 = q := by omega
                  have hcs := hHO.s1
                  have hnc := hHO.nc.1
                  obtain ⟨uu, hu⟩ : ∃ uu, C1[q + 1]? = some uu := ⟨C1[q + 1]'(by omega), Array.getElem?_eq_getElem _⟩
                  have x1 : wr.cell? ⟨g1, q + 1, none⟩ = some uu := (cell_of_row _ _ _ _ _ _ hHO.r1).trans hu
                  have z1 := frozen_of_row wr g1 (q + 1) _ _ hHO.r1
                  have hlo : (q0 : Int) ≤ (q0 : Int) + (z : Int) := by omega
                  have hhi : (q0 : Int) + (z : Int) ≤ (d.size : Int) := by omega
                  have hto : ((q0 : Int) + (z : Int)).toNat = q0 + z := by omega
                  have hset := hHO.set hb.size hlt (Below.refl _ wr)
                  rw [hmo, ← hq] at hset
                  have x3 : (wr.setCell ⟨g1, q + 1, none⟩ (.string (d.extract q0 (q0 + z)))).cell? ⟨g2, k, none⟩ = some (.int .i64 (z : Int)) := (cell_of_row _ _ _ _ _ _ hset.r2).trans (by rw [hset.z k hlt, hzq])
                  have HSH2 : Hid (SH w (wr.setCell ⟨g1, q + 1, none⟩ (.string (d.extract q0 (q0 + z)))) (some ⟨g1, 0, none⟩) (some ⟨g2, 0, none⟩) c1 c2 n (k + 1) L d) := ⟨hset.below, fun _ => ⟨g1, g2, _, _, rfl, rfl, hset⟩, fun h => absurd h (by omega)⟩
                  have HZK := hid hzk
                  clear hset HSH h1 h2 hb hHO HW hzq hq0 hmo hzk hu hq
                  go_wp2_with fail
                  go_roundw
                  case rel => exact ⟨k + 1, by omega, by rw [HZK.out]; go_num, by go_num, HSH2⟩
                  case measure => simp [intMb]; omega
                · obtain rfl : n = k := by omega
                  have hown := HSH.out.done HLL.out
                  have HB := hid HSH.out.1
                  have harg : MbArg wr (.slice a1 n c1) n (mbF (mL L d)) := by
                    have h := own2_arg (L := mL L d) (by rw [mL_len, HLL.out]; exact hown)
                    rw [mL_len, HLL.out] at h
                    exact h
                  have HARG := hid harg
                  have HO := hid hown
                  have HM : Hid (∀ w', MbArg w' (.slice a1 n c1) n (mbF (mL L d)) → Calls Try.prog 25 #[.slice a1 n c1] w' fun e w'' => e = .returned (.bool (mbB (mbF (mL L d)) n)) ∧ Below w'.heap.size w' w'') := fun w' h => HMO.out _ n _ w' h (HLE.out HZS.out)
                  by_cases hmb : mbR (mbF (mL L d)) n
                  · rw [mbB_yes hmb] at HM
                    have hA := HYE.out (by first | exact ⟨trivial, HZS.out, hmb⟩ | exact ⟨rfl, HZS.out, hmb⟩ | exact ⟨HZS.out, hmb⟩)
                    have HAA := hid hA
                    clear hA hmb HNO HYE HSH hown harg HLE HMO HZS HZQ
                    go_wp2_with fail
                    refine (HM.out _ HARG.out).mono ?_
                    rintro e w7 ⟨rfl, hb7⟩
                    go_wp2_with fail
                    go_ret2
                    rw [HAA.out]
                    refine ⟨⟨_, rfl, ?_⟩, blMb HB.out hb7 HB.out.size⟩
                    have h6 := own2_call HO.out hb7
                    show World.ownsRow _ _ _ _ _ (mL L d).length _
                    rw [mL_len, HLL.out]; exact h6
                  · rw [mbB_no hmb] at HM
                    have hA := HNO.out (by first | exact fun c => hmb c.2.2 | exact fun c => hmb c.2)
                    have HAA := hid hA
                    clear hA hmb HNO HYE HSH hown harg HLE HMO HZS HZQ
                    go_wp2_with fail
                    refine (HM.out _ HARG.out).mono ?_
                    rintro e w7 ⟨rfl, hb7⟩
                    go_wp2_with fail
                    go_ret2
                    rw [HAA.out]
                    exact rs_nil (blMb HB.out hb7 HB.out.size)
            · have HAA := hid (HNO.out (fun c => hst c.1))
              have hne : (t.toList == (sumB d).toList) = false := by
                rw [beq_eq_false_iff_ne]
                intro c
                rw [Lib.toList_data, Lib.toList_data] at c
                exact hst (ByteArray.ext (Array.ext' c)).symm
              generalize sumB d = Y at *
              generalize crc32 d = X0 at *
              clear hst HNO HYE HLE HMO
              go_wp2_with fail
              refine (HC2.out _).mono ?_
              rintro e w5 ⟨rfl, rfl⟩
              go_wp2_with fail
              refine (HBG2.out _).mono ?_
              rintro e w6 ⟨rfl, hb6⟩
              have HB := hid (HSN4.out.call hb6).below
              clear hb6 HSN4
              go_wp2_with fail
              go_ret2
              rw [HAA.out]
              exact rs_nil HB.out
          · have HAA := hid (HNO.out (fun c => hz (by rw [HZQ.out]; omega)))
            have HB := hid HSN4.out.below
            clear HNO HYE HLE HMO HSN4
            go_wp2_with fail
            go_ret2
            rw [HAA.out]
            exact rs_nil HB.out
set_option maxRecDepth 100000 in
set_option maxHeartbeats 1000000 in
theorem srs_any (s : ByteArray) (w : World) (hs : s.size ≤ 1048576) :
    Calls Try.prog 13 #[.string s] w fun e w' => RsPost w (rdS s) e w' := by
  have HN : Hid (∀ w, Calls Try.prog 39 #[.string s] w fun e w' => e = .returned (numIV (numI s)) ∧ Below w.heap.size w w') := fun w => snumI_any s w hs
  cases hI : numI s with
  | none =>
    rw [hI] at HN
    rw [rdS_no1 hI]
    have HN2 : Hid (∀ w, Calls Try.prog 39 #[.string s] w fun e w' => e = .returned (.tuple #[.int .i64 0, .string ⟨#[]⟩, .bool false]) ∧ Below w.heap.size w w') := HN
    clear HN hI
    go_enter Try.func13, Try.ntmps13
    go_wp2_with fail
    refine (HN2.out _).mono ?_
    rintro e w1 ⟨rfl, hb1⟩
    go_wp2_with fail
    go_ret2
    exact rs_nil hb1
  | some p =>
    obtain ⟨n, r⟩ := p
    by_cases hn : n ≤ 60
    · exact srs_go s r n w hs hI hn
    · rw [hI] at HN
      rw [rdS_no2 hI (by omega)]
      have hnI : (60 : Int) < (n : Int) := by omega
      have HN2 : Hid (∀ w, Calls Try.prog 39 #[.string s] w fun e w' => e = .returned (.tuple #[.int .i64 (n : Int), .string r, .bool true]) ∧ Below w.heap.size w w') := HN
      clear HN hI hn
      go_enter Try.func13, Try.ntmps13
      go_wp2_with fail
      refine (HN2.out _).mono ?_
      rintro e w1 ⟨rfl, hb1⟩
      go_wp2_with fail
      go_ret2
      exact rs_nil hb1
end Go.Proofs.Ytbkjcngehhdchaa
