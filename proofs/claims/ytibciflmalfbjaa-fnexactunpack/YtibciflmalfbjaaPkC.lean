/-
  Several texts of this seat as one: ThrR, ThrBR, ReadC, DecB, MadeC, PckC, RngDq, MadeM, UpkC.
-/
import Derived.Test.YtibciflmalfbjaaPkA
import Derived.Test.YtibciflmalfbjaaHeld
import Derived.BigRegion
import Derived.Test.YtibciflmalfbjaaDecC
import Derived.Test.YtibciflmalfbjaaRngF
import Derived.Test.YtibciflmalfbjaaShaWord
import Derived.Test.YtibciflmalfbjaaUnC
import Derived.Test.YtibciflmalfbjaaPkB
import Derived.Test.YtibciflmalfbjaaRngSr
import Derived.Test.YtibciflmalfbjaaRngZ
import Derived.Test.YtibciflmalfbjaaPutc

/-!   The code's way through the bits of a token, by a closure that is handed on. -/
namespace Go.Proofs.Ytibciflmalfbjaa
open Go.RowKit
set_option linter.unusedVariables false
set_option linter.unusedSimpArgs false
set_option maxRecDepth 100000 in
set_option maxHeartbeats 1000000 in
theorem rtree_any {σ : Type} (PS : World → σ → (Nat → Prop) → Prop) (bit : σ → Nat → Nat → Nat) (nxt : σ → Nat → Nat → σ) (sz : σ → Nat) (lim : Nat) (bd bo : Nat)
    (hP : ∀ w s D c t, PS w s D → sz s ≤ lim → c < 512 → t < 2 → Calls Try.prog 51 #[.int .i64 ((c : Nat) : Int), .int .i64 ((t : Nat) : Int), .pointer (some ⟨bd, 0, none⟩), .pointer (some ⟨bo, 0, none⟩)] w fun e w' => e = .returned (.int .i64 ((bit s c t : Nat) : Int)) ∧ ∃ D', PS w' (nxt s c t) D' ∧ Kpt D w D' w')
    (hB : ∀ s c t, t < 2 → bit s c t < 2) (hS : ∀ w w' s D, PS w s D → (∀ k, D k → w'.heap[k]? = w.heap[k]?) → PS w' s D)
    (hZ : ∀ s c t, sz (nxt s c t) ≤ sz s + 1) (p5 f nb : Nat) (fI nbI v : Int) (s : σ) (D : Nat → Prop) (w : World) (hfI : fI = (f : Int)) (hnI : nbI = (nb : Int)) (hnb : nb = 8 ∨ nb = 6) (hf : f ≤ 400 ∧ (nb = 8 → f ≤ 1)) (hv : -4611686018427387904 ≤ v ∧ v < 4611686018427387904) (hps : PS w s D) (hsz : sz s + 8 ≤ lim) (hp5 : w.cell? ⟨p5, 0, none⟩ = some (.func (.func 51) #[] #[.pointer (some ⟨bd, 0, none⟩), .pointer (some ⟨bo, 0, none⟩)])) (hn5 : ¬ D p5) :
    Calls Try.prog 77 #[.int .i64 fI, .int .i64 nbI, .int .i64 v, .pointer (some ⟨p5, 0, none⟩)] w fun e w' => e = .returned (.int .i64 (((thT bit nxt f v nb 1 s).2 - 2 ^ nb : Nat) : Int)) ∧ ∃ D', PS w' (thT bit nxt f v nb 1 s).1 D' ∧ Kpt D w D' w' := by
  have HP : Hid (∀ w s D c t, PS w s D → sz s ≤ lim → c < 512 → t < 2 → Calls Try.prog 51 #[.int .i64 ((c : Nat) : Int), .int .i64 ((t : Nat) : Int), .pointer (some ⟨bd, 0, none⟩), .pointer (some ⟨bo, 0, none⟩)] w fun e w' => e = .returned (.int .i64 ((bit s c t : Nat) : Int)) ∧ ∃ D', PS w' (nxt s c t) D' ∧ Kpt D w D' w') := hP
  have HB : Hid (∀ s c t, t < 2 → bit s c t < 2) := hB
  have HS : Hid (∀ w w' s D, PS w s D → (∀ k, D k → w'.heap[k]? = w.heap[k]?) → PS w' s D) := hS
  obtain ⟨R, hR⟩ : ∃ R, R = thT bit nxt f v nb 1 s := ⟨_, rfl⟩
  have HR : Hid (R = thT bit nxt f v nb 1 s) := hR
  rw [← hR]
  have HPS : Hid (PS w s D) := hps
  have HZ : Hid (∀ s c t, sz (nxt s c t) ≤ sz s + 1) := hZ
  have HSZ : Hid (sz s + 8 ≤ lim) := hsz
  have HP5 : Hid (w.cell? ⟨p5, 0, none⟩ = some (.func (.func 51) #[] #[.pointer (some ⟨bd, 0, none⟩), .pointer (some ⟨bo, 0, none⟩)]) ∧ ¬ D p5) := ⟨hp5, hn5⟩
  have HFB : Hid (nb ≤ 8 ∧ ∀ j d, j < nb → d < 2 ^ (nb - j) → f + d < 512) := by
    rcases hnb with rfl | rfl
    · refine ⟨by omega, fun j d hj hd => ?_⟩
      have := hf.2 rfl
      have : 2 ^ (8 - j) ≤ 2 ^ 8 := Nat.pow_le_pow_right (by omega) (by omega)
      omega
    · refine ⟨by omega, fun j d hj hd => ?_⟩
      have : 2 ^ (6 - j) ≤ 2 ^ 6 := Nat.pow_le_pow_right (by omega) (by omega)
      omega
  have HN : Hid (nb = 8 ∨ nb = 6) := hnb
  have hnb8 : nb ≤ 8 := HFB.out.1
  have hf4 := hf.1
  obtain ⟨hv1, hv2⟩ := hv
  subst hfI
  subst hnI
  clear hP hB hS hR hps hZ hsz hp5 hn5 hnb hf
  go_enter Try.func77, Try.ntmps77
  go_wp2_with fail
  go_loopw [8, 9] (fun x i wr => ∃ (k d : Nat) (s1 : σ) (D1 : Nat → Prop), x = .int .i64 (d : Int) ∧ i = .int .i64 ((k : Int) - 1) ∧ k ≤ nb ∧ d < 2 ^ (nb - k + 1) ∧ 2 ^ (nb - k) ≤ d ∧ Hid (R = thT bit nxt f v k d s1) ∧ Hid (PS wr s1 D1 ∧ Kpt D w D1 wr) ∧ Hid (sz s1 + k ≤ sz s + nb)) (fun _ i _ => (nIntT i + 1).toNat)
  case atStart => exact ⟨nb, 1, s, D, rfl, rfl, Nat.le_refl _, by rw [Nat.sub_self]; decide, by rw [Nat.sub_self]; decide, HR, ⟨HPS.out, Kpt.refl _ _⟩, Nat.le_refl _⟩
  case round =>
    obtain ⟨k, d, s1, D1, rfl, rfl, hk, hd, hd1, HRR, HK, HZ1⟩ := hrel
    have hd9 : d < 512 := Nat.lt_of_lt_of_le hd (Nat.pow_le_pow_right (by omega) (by omega : nb - k + 1 ≤ 9))
    by_cases hk0 : k = 0
    · subst hk0
      have HF : Hid (R = (s1, d) ∧ 2 ^ nb ≤ d ∧ PS wr s1 D1 ∧ Kpt D w D1 wr) := ⟨HRR.out, hd1, HK.out⟩
      clear hd hd1 HRR HK hk HZ1
      rcases HN.out with e | e
      · subst e
        have hge : (256 : Nat) ≤ d := HF.out.2.1
        have hsb : (d : Int) - 256 = ((d - 256 : Nat) : Int) := by omega
        have hsw : IntKind.i64.wrap ((d : Int) - 256) = ((d - 256 : Nat) : Int) := by rw [IntKind.wrap_i64]; omega
        go_wp2_with fail
        go_ret
        exact ⟨by rw [HF.out.1]; first | rfl | (simp only []; rw [← hsb]; rfl), by rw [HF.out.1]; exact ⟨D1, HF.out.2.2⟩⟩
      · subst e
        have hge : (64 : Nat) ≤ d := HF.out.2.1
        have hsb : (d : Int) - 64 = ((d - 64 : Nat) : Int) := by omega
        have hsw : IntKind.i64.wrap ((d : Int) - 64) = ((d - 64 : Nat) : Int) := by rw [IntKind.wrap_i64]; omega
        go_wp2_with fail
        go_ret
        exact ⟨by rw [HF.out.1]; first | rfl | (simp only []; rw [← hsb]; rfl), by rw [HF.out.1]; exact ⟨D1, HF.out.2.2⟩⟩
    · obtain ⟨j, rfl⟩ : ∃ j, k = j + 1 := ⟨k - 1, by omega⟩
      have e1 : ((j + 1 : Nat) : Int) - 1 = (j : Int) := by omega
      rw [e1]
      obtain ⟨q, hq⟩ : ∃ q, q = v / (2 : Int) ^ j := ⟨_, rfl⟩
      obtain ⟨t, ht⟩ : ∃ t, t = tvT v j := ⟨_, rfl⟩
      have hshr : v / (2 : Int) ^ j = q := hq.symm
      have htq : q % 2 = (t : Int) := by rw [ht, hq]; unfold tvT; omega
      have ht2 : t < 2 := by omega
      have hqb : -4611686018427387904 ≤ q ∧ q < 4611686018427387904 := by rw [hq]; exact div_bd hv1 hv2 j
      have hand : bits .and .i64 q 1 = (t : Int) := by rw [i64_and1 _ (by omega) (by omega)]; exact htq
      obtain ⟨z, hz⟩ : ∃ z, z = f + d := ⟨_, rfl⟩
      have hz5 : z < 512 := by
        have := HFB.out.2 j d (by omega) (by have e : nb - j = nb - (j + 1) + 1 := by omega
                                             rw [e]; exact hd)
        omega
      have hw1 : IntKind.i64.wrap ((f : Int) + (d : Int)) = (z : Int) := by rw [IntKind.wrap_i64]; omega
      have hw1b : (f : Int) + (d : Int) = (z : Int) := by omega
      have hw2 : IntKind.i64.wrap (2 * (d : Int)) = 2 * (d : Int) := by rw [IntKind.wrap_i64]; omega
      have hb := HB.out s1 z t ht2
      obtain ⟨bt, hbt⟩ : ∃ bt, bt = bit s1 z t := ⟨_, rfl⟩
      rw [← hbt] at hb
      obtain ⟨nd, hnd⟩ : ∃ nd, nd = 2 * d + bt := ⟨_, rfl⟩
      have hw3b : 2 * (d : Int) + (bt : Int) = (nd : Int) := by omega
      have hw3 : IntKind.i64.wrap (nd : Int) = (nd : Int) := by rw [IntKind.wrap_i64]; omega
      have HRN : Hid (R = thT bit nxt f v j nd (nxt s1 z t)) := by
        show R = _
        rw [HRR.out, thT, ← ht, ← hz, ← hbt, ← hnd]
      have HPC : Hid (Calls Try.prog 51 #[.int .i64 (z : Int), .int .i64 (t : Int), .pointer (some ⟨bd, 0, none⟩), .pointer (some ⟨bo, 0, none⟩)] wr.drew fun e w' => e = .returned (.int .i64 (bt : Int)) ∧ ∃ D', PS w' (nxt s1 z t) D' ∧ Kpt D1 wr.drew D' w') := by
        have h := HP.out wr.drew s1 D1 z t (HS.out wr wr.drew s1 D1 HK.out.1 (fun _ _ => rfl)) (by have h1 := HZ1.out; have h2 := HSZ.out; omega) hz5 ht2
        rw [← hbt] at h
        exact h
      have hnd2 : nd < 2 ^ (nb - j + 1) ∧ 2 ^ (nb - j) ≤ nd := by
        have e : nb - j = nb - (j + 1) + 1 := by omega
        rw [e, Nat.pow_succ, Nat.pow_succ]
        rw [Nat.pow_succ] at hd
        omega
      have hlt5 : p5 < w.heap.size := World.block_lt_of_cell? w ⟨p5, 0, none⟩ HP5.out.1
      have x5 : wr.cell? ⟨p5, 0, none⟩ = some (.func (.func 51) #[] #[.pointer (some ⟨bd, 0, none⟩), .pointer (some ⟨bo, 0, none⟩)]) := (World.cell?_of_block (a := ⟨p5, 0, none⟩) (HK.out.2.block p5 hlt5 HP5.out.2)).trans HP5.out.1
      have H5 : Hid (p5 < wr.heap.size ∧ ¬ D1 p5) := ⟨Nat.lt_of_lt_of_le hlt5 HK.out.2.size, HK.out.2.out hlt5 HP5.out.2⟩
      have HZN : Hid (sz (nxt s1 z t) + j ≤ sz s + nb) := by
        have h1 := HZ1.out
        have h2 := HZ.out s1 z t
        show _ ≤ _
        omega
      clear hd hd1 HRR HZ1 hq ht hz hbt hnd htq hqb hlt5 hz5 e1
      go_wp2_with fail
      obtain ⟨S, hSS⟩ : ∃ S : World → Prop, S = fun w' => w'.cell? ⟨p5, 0, none⟩ = some (.func (.func 51) #[] #[.pointer (some ⟨bd, 0, none⟩), .pointer (some ⟨bo, 0, none⟩)]) := ⟨_, rfl⟩
      have HSS : Hid (S = fun w' => w'.cell? ⟨p5, 0, none⟩ = some (.func (.func 51) #[] #[.pointer (some ⟨bd, 0, none⟩), .pointer (some ⟨bo, 0, none⟩)])) := hSS
      have hSd : S wr.drew := by rw [hSS]; exact x5
      have HX5 : Hid (∀ w', S w' → w'.cell? ⟨p5, 0, none⟩ = some (.func (.func 51) #[] #[.pointer (some ⟨bd, 0, none⟩), .pointer (some ⟨bo, 0, none⟩)])) := fun w' h => by rw [hSS] at h; exact h
      clear hSS x5
      refine wp_region_held (S := S) (by kernel_rfl) ?_
      change wpAnyH _ _ _ _ _ _ _ _ (World.drew _)
      refine wpAnyH_take (i := 0) (v := .int .i64 (d : Int)) rfl (by kernel_rfl) (by kernel_rfl) (by kernel_rfl) (fun _ _ _ h => h) (Or.inl ⟨by rfl, by intro w' hS'; go_simp <;> (first | omega | (rw [IntKind.wrap_i64]; omega) | (rw [IntKind.wrap_u64]; omega) | (rw [IntKind.wrap_u32]; omega) | (rw [Int.tmod_eq_emod_of_nonneg (by omega)]))⟩) hSd ?_
      (try simp only [List.getElem_toArray, List.getElem_cons_succ, List.getElem_cons_zero, Act.put, List.setIfInBounds_toArray, List.set_cons_zero, List.set_cons_succ])
      refine wpAnyH_take (i := 1) (v := .int .i64 (2 * (d : Int))) rfl (by kernel_rfl) (by kernel_rfl) (by kernel_rfl) (fun _ _ _ h => h) (Or.inl ⟨by rfl, by intro w' hS'; go_simp <;> (first | omega | (rw [IntKind.wrap_i64]; omega) | (rw [IntKind.wrap_u64]; omega) | (rw [IntKind.wrap_u32]; omega) | (rw [Int.tmod_eq_emod_of_nonneg (by omega)]))⟩) hSd ?_
      (try simp only [List.getElem_toArray, List.getElem_cons_succ, List.getElem_cons_zero, Act.put, List.setIfInBounds_toArray, List.set_cons_zero, List.set_cons_succ])
      refine wpAnyH_take (i := 2) (v := .func (.func 51) #[] #[.pointer (some ⟨bd, 0, none⟩), .pointer (some ⟨bo, 0, none⟩)]) rfl (by kernel_rfl) (by kernel_rfl) (by kernel_rfl) (fun _ _ _ h => h) (Or.inl ⟨by rfl, by intro w' hS'; have hxx := HX5.out w' hS'; go_simp <;> (first | omega | (rw [IntKind.wrap_i64]; omega) | (rw [IntKind.wrap_u64]; omega) | (rw [IntKind.wrap_u32]; omega) | (rw [Int.tmod_eq_emod_of_nonneg (by omega)]))⟩) hSd ?_
      (try simp only [List.getElem_toArray, List.getElem_cons_succ, List.getElem_cons_zero, Act.put, List.setIfInBounds_toArray, List.set_cons_zero, List.set_cons_succ])
      refine wpAnyH_take (i := 3) (v := .int .i64 (f : Int)) rfl (by kernel_rfl) (by kernel_rfl) (by kernel_rfl) (fun _ _ _ h => h) (Or.inl ⟨by rfl, by intro w' hS'; go_simp <;> (first | omega | (rw [IntKind.wrap_i64]; omega) | (rw [IntKind.wrap_u64]; omega) | (rw [IntKind.wrap_u32]; omega) | (rw [Int.tmod_eq_emod_of_nonneg (by omega)]))⟩) hSd ?_
      (try simp only [List.getElem_toArray, List.getElem_cons_succ, List.getElem_cons_zero, Act.put, List.setIfInBounds_toArray, List.set_cons_zero, List.set_cons_succ])
      refine wpAnyH_take (i := 4) (v := .int .i64 (d : Int)) rfl (by kernel_rfl) (by kernel_rfl) (by kernel_rfl) (fun _ _ _ h => h) (Or.inl ⟨by rfl, by intro w' hS'; go_simp <;> (first | omega | (rw [IntKind.wrap_i64]; omega) | (rw [IntKind.wrap_u64]; omega) | (rw [IntKind.wrap_u32]; omega) | (rw [Int.tmod_eq_emod_of_nonneg (by omega)]))⟩) hSd ?_
      (try simp only [List.getElem_toArray, List.getElem_cons_succ, List.getElem_cons_zero, Act.put, List.setIfInBounds_toArray, List.set_cons_zero, List.set_cons_succ])
      refine wpAnyH_take (i := 5) (v := .int .i64 (z : Int)) rfl (by kernel_rfl) (by kernel_rfl) (by kernel_rfl) (fun _ _ _ h => h) (Or.inl ⟨by rfl, by intro w' hS'; go_simp <;> (first | omega | (rw [IntKind.wrap_i64]; omega) | (rw [IntKind.wrap_u64]; omega) | (rw [IntKind.wrap_u32]; omega) | (rw [Int.tmod_eq_emod_of_nonneg (by omega)]))⟩) hSd ?_
      (try simp only [List.getElem_toArray, List.getElem_cons_succ, List.getElem_cons_zero, Act.put, List.setIfInBounds_toArray, List.set_cons_zero, List.set_cons_succ])
      refine wpAnyH_take (i := 6) (v := .int .i64 v) rfl (by kernel_rfl) (by kernel_rfl) (by kernel_rfl) (fun _ _ _ h => h) (Or.inl ⟨by rfl, by intro w' hS'; go_simp <;> (first | omega | (rw [IntKind.wrap_i64]; omega) | (rw [IntKind.wrap_u64]; omega) | (rw [IntKind.wrap_u32]; omega) | (rw [Int.tmod_eq_emod_of_nonneg (by omega)]))⟩) hSd ?_
      (try simp only [List.getElem_toArray, List.getElem_cons_succ, List.getElem_cons_zero, Act.put, List.setIfInBounds_toArray, List.set_cons_zero, List.set_cons_succ])
      refine wpAnyH_take (i := 7) (v := .int .i64 (j : Int)) rfl (by kernel_rfl) (by kernel_rfl) (by kernel_rfl) (fun _ _ _ h => h) (Or.inl ⟨by rfl, by intro w' hS'; go_simp <;> (first | omega | (rw [IntKind.wrap_i64]; omega) | (rw [IntKind.wrap_u64]; omega) | (rw [IntKind.wrap_u32]; omega) | (rw [Int.tmod_eq_emod_of_nonneg (by omega)]))⟩) hSd ?_
      (try simp only [List.getElem_toArray, List.getElem_cons_succ, List.getElem_cons_zero, Act.put, List.setIfInBounds_toArray, List.set_cons_zero, List.set_cons_succ])
      refine wpAnyH_take (i := 8) (v := .int .i64 q) rfl (by kernel_rfl) (by kernel_rfl) (by kernel_rfl) (fun _ _ _ h => h) (Or.inl ⟨by rfl, by intro w' hS'; go_simp <;> (first | omega | (rw [IntKind.wrap_i64]; omega) | (rw [IntKind.wrap_u64]; omega) | (rw [IntKind.wrap_u32]; omega) | (rw [Int.tmod_eq_emod_of_nonneg (by omega)]))⟩) hSd ?_
      (try simp only [List.getElem_toArray, List.getElem_cons_succ, List.getElem_cons_zero, Act.put, List.setIfInBounds_toArray, List.set_cons_zero, List.set_cons_succ])
      refine wpAnyH_take (i := 9) (v := .int .i64 (t : Int)) rfl (by kernel_rfl) (by kernel_rfl) (by kernel_rfl) (fun _ _ _ h => h) (Or.inl ⟨by rfl, by intro w' hS'; go_simp <;> (first | omega | (rw [IntKind.wrap_i64]; omega) | (rw [IntKind.wrap_u64]; omega) | (rw [IntKind.wrap_u32]; omega) | (rw [Int.tmod_eq_emod_of_nonneg (by omega)]))⟩) hSd ?_
      (try simp only [List.getElem_toArray, List.getElem_cons_succ, List.getElem_cons_zero, Act.put, List.setIfInBounds_toArray, List.set_cons_zero, List.set_cons_succ])
      refine held_stepS (i := 10) (by kernel_rfl) rfl (by rfl) ?_
      go_simp
      refine HPC.out.mono ?_
      rintro e w5 ⟨rfl, D2, hp5, hk5⟩
      have hkk : Kpt D w D2 w5 := HK.out.2.trans (⟨hk5.os, hk5.tape, hk5.output, hk5.size, hk5.block, hk5.sub⟩ : Kpt D1 wr D2 w5)
      have hS5 : S w5 := by rw [HSS.out]; exact (World.cell?_of_block (a := ⟨p5, 0, none⟩) (hk5.block p5 H5.out.1 H5.out.2)).trans (HX5.out _ hSd)
      refine ⟨hS5, ?_⟩
      (try simp only [List.getElem_toArray, List.getElem_cons_succ, List.getElem_cons_zero, Act.put, List.setIfInBounds_toArray, List.set_cons_zero, List.set_cons_succ])
      refine wpAnyH_take (i := 11) (v := .int .i64 (nd : Int)) rfl (by kernel_rfl) (by kernel_rfl) (by kernel_rfl) (fun _ _ _ h => h) (Or.inl ⟨by rfl, by intro w' hS'; go_simp <;> (first | omega | (rw [IntKind.wrap_i64]; omega) | (rw [IntKind.wrap_u64]; omega) | (rw [IntKind.wrap_u32]; omega) | (rw [Int.tmod_eq_emod_of_nonneg (by omega)]))⟩) hS5 ?_
      (try simp only [List.getElem_toArray, List.getElem_cons_succ, List.getElem_cons_zero, Act.put, List.setIfInBounds_toArray, List.set_cons_zero, List.set_cons_succ])
      refine wpAnyH_take (i := 12) (v := .int .i64 (nd : Int)) rfl (by kernel_rfl) (by kernel_rfl) (by kernel_rfl) (fun _ _ _ h => h) (Or.inl ⟨by rfl, by intro w' hS'; go_simp <;> (first | omega | (rw [IntKind.wrap_i64]; omega) | (rw [IntKind.wrap_u64]; omega) | (rw [IntKind.wrap_u32]; omega) | (rw [Int.tmod_eq_emod_of_nonneg (by omega)]))⟩) hS5 ?_
      (try simp only [List.getElem_toArray, List.getElem_cons_succ, List.getElem_cons_zero, Act.put, List.setIfInBounds_toArray, List.set_cons_zero, List.set_cons_succ])
      refine wpAnyH_done (by kernel_rfl) ?_ _
      have HK5 : Hid (PS w5 (nxt s1 z t) D2 ∧ Kpt D w D2 w5) := ⟨hp5, hkk⟩
      clear hp5 hk5 hkk hS5 hSd HX5 HSS HPC HK H5
      go_wp2_with fail
      go_roundw
      case rel => exact ⟨j, nd, nxt s1 z t, D2, rfl, rfl, by omega, hnd2.1, hnd2.2, HRN, HK5.out, HZN.out⟩
      case measure => simp [nIntT] <;> omega
end Go.Proofs.Ytibciflmalfbjaa

/-!   The code's way through a token, by the closure that reads. -/
namespace Go.Proofs.Ytibciflmalfbjaa
open Go.RowKit
set_option linter.unusedVariables false
set_option linter.unusedSimpArgs false
set_option maxRecDepth 100000 in
set_option maxHeartbeats 1000000 in
theorem rthrough_any {σ : Type} (PS : World → σ → (Nat → Prop) → Prop) (bit : σ → Nat → Nat → Nat) (nxt : σ → Nat → Nat → σ) (sz : σ → Nat) (lim : Nat) (bd bo : Nat)
    (hP : ∀ w s D c t, PS w s D → sz s ≤ lim → c < 512 → t < 2 → Calls Try.prog 51 #[.int .i64 ((c : Nat) : Int), .int .i64 ((t : Nat) : Int), .pointer (some ⟨bd, 0, none⟩), .pointer (some ⟨bo, 0, none⟩)] w fun e w' => e = .returned (.int .i64 ((bit s c t : Nat) : Int)) ∧ ∃ D', PS w' (nxt s c t) D' ∧ Kpt D w D' w')
    (hB : ∀ s c t, t < 2 → bit s c t < 2) (hS : ∀ w w' s D, PS w s D → (∀ k, D k → w'.heap[k]? = w.heap[k]?) → PS w' s D) (hLT : ∀ w s D, PS w s D → ∀ k, D k → k < w.heap.size)
    (hZ : ∀ s c t, sz (nxt s c t) ≤ sz s + 1) (a k : Nat) (aI kI b d l : Int) (s : σ) (D : Nat → Prop) (w : World) (ha : a < 2) (hk : k < 2) (haI : aI = (a : Int)) (hkI : kI = (k : Int)) (hb : 0 ≤ b ∧ b ≤ 5000) (hd : 0 ≤ d ∧ d ≤ 5000) (hl : 0 ≤ l ∧ l ≤ 5000) (hps : PS w s D) (hsz : sz s + 21 ≤ lim) :
    Calls Try.prog 53 #[.agg #[.int .i64 kI, .int .i64 b, .int .i64 d, .int .i64 l], .int .i64 aI, .func (.func 51) #[] #[.pointer (some ⟨bd, 0, none⟩), .pointer (some ⟨bo, 0, none⟩)]] w fun e w' => (∃ t, t = (thTok bit nxt a k b d l s).2 ∧ e = .returned (.agg #[.int .i64 (t.k : Int), .int .i64 (t.b : Int), .int .i64 (t.d : Int), .int .i64 (t.l : Int)])) ∧ ∃ D', PS w' (thTok bit nxt a k b d l s).1 D' ∧ Kpt D w D' w' := by
  have HTR : Hid (∀ (p5 f nb : Nat) (fI nbI v : Int) (s : σ) (D : Nat → Prop) (w : World) (n : Nat) (r : σ), n = (thT bit nxt f v nb 1 s).2 - 2 ^ nb → r = (thT bit nxt f v nb 1 s).1 → fI = (f : Int) → nbI = (nb : Int) → (nb = 8 ∨ nb = 6) → (f ≤ 400 ∧ (nb = 8 → f ≤ 1)) → (-4611686018427387904 ≤ v ∧ v < 4611686018427387904) → PS w s D → sz s + 8 ≤ lim → w.cell? ⟨p5, 0, none⟩ = some (.func (.func 51) #[] #[.pointer (some ⟨bd, 0, none⟩), .pointer (some ⟨bo, 0, none⟩)]) → ¬ D p5 →
      Calls Try.prog 77 #[.int .i64 fI, .int .i64 nbI, .int .i64 v, .pointer (some ⟨p5, 0, none⟩)] w fun e w' => e = .returned (.int .i64 (n : Int)) ∧ ∃ D', PS w' r D' ∧ Kpt D w D' w') :=
    fun p5 f nb fI nbI v s D w n r e1 e2 h1 h2 h3 h4 h5 h6 h7 h8 h9 => by subst e1; subst e2; exact rtree_any PS bit nxt sz lim bd bo hP hB hS hZ p5 f nb fI nbI v s D w h1 h2 h3 h4 h5 h6 h7 h8 h9
  have HSS : Hid (∀ (D D' : Nat → Prop) (w w' : World) (s : σ) (B : Nat) (v0 v1 v2 v3 : Value), PS w' s D' → Kpt D w D' w' → ¬ D' B → w.heap.size ≤ B →
      PS ((((w'.setCell ⟨B, 0, none⟩ v0).setCell ⟨B, 1, none⟩ v1).setCell ⟨B, 2, none⟩ v2).setCell ⟨B, 3, none⟩ v3) s D' ∧ Kpt D w D' ((((w'.setCell ⟨B, 0, none⟩ v0).setCell ⟨B, 1, none⟩ v1).setCell ⟨B, 2, none⟩ v2).setCell ⟨B, 3, none⟩ v3)) :=
    fun D D' w w' s B v0 v1 v2 v3 h1 h2 h3 h4 => ⟨hS _ _ _ _ h1 (fun q hq => by
      have hn : q ≠ B := fun e => h3 (e ▸ hq)
      rw [heap_setCell_other _ _ _ _ hn, heap_setCell_other _ _ _ _ hn, heap_setCell_other _ _ _ _ hn, heap_setCell_other _ _ _ _ hn]), (((h2.setNew h4).setNew h4).setNew h4).setNew h4⟩
  have HLT : Hid (∀ f v s, (thT bit nxt f v 6 1 s).2 < 2 ^ 7) := fun f v s => thT_lt hB f v 6 1 1 s (by decide)
  obtain ⟨b0, hb0⟩ : ∃ b0, b0 = bit s a k := ⟨_, rfl⟩
  obtain ⟨s1, hs1⟩ : ∃ s1, s1 = nxt s a k := ⟨_, rfl⟩
  have hb2 : b0 < 2 := by rw [hb0]; exact hB s a k hk
  have hz1 : sz s1 ≤ sz s + 1 := by rw [hs1]; exact hZ s a k
  have HZT : Hid (∀ f v s, sz (thT bit nxt f v 6 1 s).1 ≤ sz s + 6) := fun f v s => thT_sz hZ f v 6 1 s
  obtain ⟨R, hR⟩ : ∃ R, R = thTok bit nxt a k b d l s := ⟨_, rfl⟩
  have HR : Hid (R = if b0 = 0 then ((thT bit nxt 1 b 8 1 s1).1, (⟨0, (thT bit nxt 1 b 8 1 s1).2 - 2 ^ 8, 0, 0⟩ : TkN))
      else ((thT bit nxt 400 ((d - 1).tmod 64) 6 1 (thT bit nxt 330 ((d - 1).tdiv 64) 6 1 (thT bit nxt 260 (l - 3) 6 1 s1).1).1).1, (⟨1, 0, ((thT bit nxt 330 ((d - 1).tdiv 64) 6 1 (thT bit nxt 260 (l - 3) 6 1 s1).1).2 - 2 ^ 6) * 64 + ((thT bit nxt 400 ((d - 1).tmod 64) 6 1 (thT bit nxt 330 ((d - 1).tdiv 64) 6 1 (thT bit nxt 260 (l - 3) 6 1 s1).1).1).2 - 2 ^ 6) + 1, (thT bit nxt 260 (l - 3) 6 1 s1).2 - 2 ^ 6 + 3⟩ : TkN))) := by
    show R = _
    rw [hR, hb0, hs1]; rfl
  rw [← hR]
  obtain ⟨w3, hw3⟩ : ∃ w3, w3 = ((w.alloc (.cells #[.int .i64 (k : Int), .int .i64 b, .int .i64 d, .int .i64 l] 95)).alloc (.cells #[.func (.func 51) #[] #[.pointer (some ⟨bd, 0, none⟩), .pointer (some ⟨bo, 0, none⟩)]] 132)).alloc (.cells #[.int .i64 0, .int .i64 0, .int .i64 0, .int .i64 0] 95) := ⟨_, rfl⟩
  have hbl : Below w.heap.size w w3 := by
    rw [hw3]
    exact ((((Below.refl _ w).alloc (Nat.le_refl _) _).alloc (by simp <;> omega) _).alloc (by simp <;> omega) _)
  have HK3 : Hid (Kpt D w D w3) := Kpt.below hbl
  have hps3 : PS w3 s D := hS w w3 s D hps (fun q hq => hbl.block q (hLT w s D hps q hq))
  have HT3 : Hid (TB w.heap.size k b d l (.func (.func 51) #[] #[.pointer (some ⟨bd, 0, none⟩), .pointer (some ⟨bo, 0, none⟩)]) D w3) := by
    have hno : ∀ j, ¬ D (w.heap.size + j) := fun j hj => by have := hLT w s D hps _ hj; omega
    refine ⟨?_, ?_, ?_, hno 0, hno 1, (by have := hno 2; simpa using this)⟩
    · rw [hw3]
      refine (Below.heap_alloc _ _ _ (by simp <;> omega)).trans ((Below.heap_alloc _ _ _ (by simp <;> omega)).trans (heap_alloc_new _ _))
    · rw [hw3]
      refine (Below.heap_alloc _ _ _ (by simp <;> omega)).trans ?_
      have := heap_alloc_new (w.alloc (.cells #[.int .i64 (k : Int), .int .i64 b, .int .i64 d, .int .i64 l] 95)) (.cells #[.func (.func 51) #[] #[.pointer (some ⟨bd, 0, none⟩), .pointer (some ⟨bo, 0, none⟩)]] 132)
      simpa using this
    · rw [hw3]
      have := heap_alloc_new ((w.alloc (.cells #[.int .i64 (k : Int), .int .i64 b, .int .i64 d, .int .i64 l] 95)).alloc (.cells #[.func (.func 51) #[] #[.pointer (some ⟨bd, 0, none⟩), .pointer (some ⟨bo, 0, none⟩)]] 132)) (.cells #[.int .i64 0, .int .i64 0, .int .i64 0, .int .i64 0] 95)
      simpa using this
  have HPC : Hid (Calls Try.prog 51 #[.int .i64 (a : Int), .int .i64 (k : Int), .pointer (some ⟨bd, 0, none⟩), .pointer (some ⟨bo, 0, none⟩)] w3 fun e w' => e = .returned (.int .i64 (b0 : Int)) ∧ ∃ D', PS w' s1 D' ∧ Kpt D w3 D' w') := by
    have h := hP w3 s D a k hps3 (by omega) (by omega) hk
    rw [← hb0, ← hs1] at h
    exact h
  subst haI
  subst hkI
  have HW3 : Hid (w3 = _) := hw3
  obtain ⟨hb1, hb2'⟩ := hb
  obtain ⟨hd1, hd2⟩ := hd
  obtain ⟨hl1, hl2⟩ := hl
  clear hP hB hS hLT hZ hps hR hb0 hs1 hbl hps3 hw3
  go_enter Try.func53, Try.ntmps53
  go_wp2_with fail
  rw [← HW3.out]
  refine HPC.out.mono ?_
  rintro e w5 ⟨rfl, D5, hp5, hk5⟩
  have hT5 := HT3.out.next hk5
  have HS5 : Hid (PS w5 s1 D5 ∧ Kpt D w D5 w5) := ⟨hp5, HK3.out.trans hk5⟩
  have HT5 : Hid (TB w.heap.size k b d l (.func (.func 51) #[] #[.pointer (some ⟨bd, 0, none⟩), .pointer (some ⟨bo, 0, none⟩)]) D5 w5) := hT5
  have x1 : w5.cell? ⟨w.heap.size, 1, none⟩ = some (.int .i64 b) := cell_of_row _ _ _ _ _ _ hT5.r0
  have x2 : w5.cell? ⟨w.heap.size, 2, none⟩ = some (.int .i64 d) := cell_of_row _ _ _ _ _ _ hT5.r0
  have x3 : w5.cell? ⟨w.heap.size, 3, none⟩ = some (.int .i64 l) := cell_of_row _ _ _ _ _ _ hT5.r0
  clear hT5 HT3 HK3 HPC hp5 hk5 HW3 ha hk
  by_cases h0 : b0 = 0
  · subst h0
    have HRR : Hid _ := HR.out
    simp only [if_pos] at HRR
    obtain ⟨n6, hn6⟩ : ∃ n, n = (thT bit nxt 1 b 8 1 s1).2 - 2 ^ 8 := ⟨_, rfl⟩
    obtain ⟨s6, hs6⟩ : ∃ s6, s6 = (thT bit nxt 1 b 8 1 s1).1 := ⟨_, rfl⟩
    have HC : Hid (Calls Try.prog 77 #[.int .i64 1, .int .i64 8, .int .i64 b, .pointer (some ⟨w.heap.size + 1, 0, none⟩)] w5 fun e w' => e = .returned (.int .i64 (n6 : Int)) ∧ ∃ D', PS w' s6 D' ∧ Kpt D5 w5 D' w') := HTR.out (w.heap.size + 1) 1 8 1 8 b s1 D5 w5 n6 s6 hn6 hs6 rfl rfl (Or.inl rfl) ⟨by omega, by omega⟩ ⟨by omega, by omega⟩ HS5.out.1 (by omega) (cell_of_row _ _ _ _ _ _ HT5.out.r1) HT5.out.n1
    rw [← hn6, ← hs6] at HRR
    clear HTR HR hn6 hs6 HZT hz1 hsz
    go_wp2_with fail
    refine HC.out.mono ?_
    rintro e w6 ⟨rfl, D6, hp6, hk6⟩
    have hT6 := HT5.out.next hk6
    have HS6 : Hid (PS w6 s6 D6 ∧ Kpt D w D6 w6 ∧ ¬ D6 (w.heap.size + 1 + 1)) := ⟨hp6, HS5.out.2.trans hk6, hT6.n2⟩
    have HR2 : Hid _ := hT6.r2
    have y0 : w6.cell? ⟨w.heap.size + 1 + 1, 0, none⟩ = some (.int .i64 0) := cell_of_row _ _ _ _ _ _ hT6.r2
    have z0 : w6.frozen? ⟨w.heap.size + 1 + 1, 0, none⟩ = false := frozen_of_row w6 (w.heap.size + 1 + 1) 0 _ _ hT6.r2
    have y1 : w6.cell? ⟨w.heap.size + 1 + 1, 1, none⟩ = some (.int .i64 0) := cell_of_row _ _ _ _ _ _ hT6.r2
    have z1 : w6.frozen? ⟨w.heap.size + 1 + 1, 1, none⟩ = false := frozen_of_row w6 (w.heap.size + 1 + 1) 1 _ _ hT6.r2
    have y2 : w6.cell? ⟨w.heap.size + 1 + 1, 2, none⟩ = some (.int .i64 0) := cell_of_row _ _ _ _ _ _ hT6.r2
    have z2 : w6.frozen? ⟨w.heap.size + 1 + 1, 2, none⟩ = false := frozen_of_row w6 (w.heap.size + 1 + 1) 2 _ _ hT6.r2
    have y3 : w6.cell? ⟨w.heap.size + 1 + 1, 3, none⟩ = some (.int .i64 0) := cell_of_row _ _ _ _ _ _ hT6.r2
    have z3 : w6.frozen? ⟨w.heap.size + 1 + 1, 3, none⟩ = false := frozen_of_row w6 (w.heap.size + 1 + 1) 3 _ _ hT6.r2
    clear HC HT5 HS5 hT6 hp6 hk6 x1 x2 x3
    go_wp2_with fail
    refine bodyPost_ret (results_cell_row rfl _ _ (w.heap.size + 1 + 1) 95 #[.int .i64 0, .int .i64 (n6 : Int), .int .i64 0, .int .i64 0] (0, 0) _ rfl (heap_setCell_same _ _ _ _ _ _ (heap_setCell_same _ _ _ _ _ _ (heap_setCell_same _ _ _ _ _ _ (heap_setCell_same _ _ _ _ _ _ HR2.out)))) Try.underlying95 rfl (by kernel_rfl)) rfl ⟨⟨R.2, rfl, ?_⟩, ?_⟩
    · rw [HRR.out]; first | rfl | simp
    · rw [HRR.out]; exact ⟨D6, HSS.out _ _ _ _ _ _ _ _ _ _ HS6.out.1 HS6.out.2.1 HS6.out.2.2 (by omega)⟩
  · have h0I : ¬ (b0 : Int) = 0 := by omega
    have HRR : Hid _ := HR.out
    simp only [if_neg h0] at HRR
    obtain ⟨d1, hd1e⟩ : ∃ d1, d1 = (d - 1).tdiv 64 := ⟨_, rfl⟩
    obtain ⟨d2, hd2e⟩ : ∃ d2, d2 = (d - 1).tmod 64 := ⟨_, rfl⟩
    have hdb : -5000 ≤ d1 ∧ d1 ≤ 5000 ∧ -5000 ≤ d2 ∧ d2 ≤ 5000 := by
      rw [hd1e, hd2e]
      by_cases hd0 : d = 0
      · subst hd0; decide
      · rw [Int.tdiv_eq_ediv_of_nonneg (by omega), Int.tmod_eq_emod_of_nonneg (by omega)]; omega
    obtain ⟨hq1, hq2, hq3, hq4⟩ := hdb
    have hv1 : (d - 1).tdiv 64 = d1 := hd1e.symm
    have hv2 : (d - 1).tmod 64 = d2 := hd2e.symm
    rw [← hd1e, ← hd2e] at HRR
    clear hd1e hd2e
    obtain ⟨n6, hn6⟩ : ∃ n, n = (thT bit nxt 260 (l - 3) 6 1 s1).2 - 2 ^ 6 := ⟨_, rfl⟩
    obtain ⟨s6, hs6⟩ : ∃ s6, s6 = (thT bit nxt 260 (l - 3) 6 1 s1).1 := ⟨_, rfl⟩
    rw [← hn6, ← hs6] at HRR
    obtain ⟨n7, hn7⟩ : ∃ n, n = (thT bit nxt 330 d1 6 1 s6).2 - 2 ^ 6 := ⟨_, rfl⟩
    obtain ⟨s7, hs7⟩ : ∃ q, q = (thT bit nxt 330 d1 6 1 s6).1 := ⟨_, rfl⟩
    rw [← hn7, ← hs7] at HRR
    obtain ⟨n8, hn8⟩ : ∃ n, n = (thT bit nxt 400 d2 6 1 s7).2 - 2 ^ 6 := ⟨_, rfl⟩
    obtain ⟨s8, hs8⟩ : ∃ q, q = (thT bit nxt 400 d2 6 1 s7).1 := ⟨_, rfl⟩
    rw [← hn8, ← hs8] at HRR
    have hz6 : sz s6 ≤ sz s + 7 := by rw [hs6]; have := HZT.out 260 (l - 3) s1; omega
    have hz7 : sz s7 ≤ sz s + 13 := by rw [hs7]; have := HZT.out 330 d1 s6; omega
    have hm6 : n6 < 64 := by have h := HLT.out 260 (l - 3) s1; rw [show (2 : Nat) ^ 7 = 128 by decide] at h; rw [hn6, show (2 : Nat) ^ 6 = 64 by decide]; omega
    have hm7 : n7 < 64 := by have h := HLT.out 330 d1 s6; rw [show (2 : Nat) ^ 7 = 128 by decide] at h; rw [hn7, show (2 : Nat) ^ 6 = 64 by decide]; omega
    have hm8 : n8 < 64 := by have h := HLT.out 400 d2 s7; rw [show (2 : Nat) ^ 7 = 128 by decide] at h; rw [hn8, show (2 : Nat) ^ 6 = 64 by decide]; omega
    have HC : Hid (Calls Try.prog 77 #[.int .i64 260, .int .i64 6, .int .i64 (l - 3), .pointer (some ⟨w.heap.size + 1, 0, none⟩)] w5 fun e w' => e = .returned (.int .i64 (n6 : Int)) ∧ ∃ D', PS w' s6 D' ∧ Kpt D5 w5 D' w') := HTR.out (w.heap.size + 1) 260 6 260 6 (l - 3) s1 D5 w5 n6 s6 hn6 hs6 rfl rfl (Or.inr rfl) ⟨by omega, by omega⟩ ⟨by omega, by omega⟩ HS5.out.1 (by omega) (cell_of_row _ _ _ _ _ _ HT5.out.r1) HT5.out.n1
    have HC7 : Hid (∀ w6 D6, PS w6 s6 D6 → TB w.heap.size k b d l (.func (.func 51) #[] #[.pointer (some ⟨bd, 0, none⟩), .pointer (some ⟨bo, 0, none⟩)]) D6 w6 → Calls Try.prog 77 #[.int .i64 330, .int .i64 6, .int .i64 d1, .pointer (some ⟨w.heap.size + 1, 0, none⟩)] w6 fun e w' => e = .returned (.int .i64 (n7 : Int)) ∧ ∃ D', PS w' s7 D' ∧ Kpt D6 w6 D' w') := fun w6 D6 hp ht => HTR.out (w.heap.size + 1) 330 6 330 6 d1 s6 D6 w6 n7 s7 hn7 hs7 rfl rfl (Or.inr rfl) ⟨by omega, by omega⟩ ⟨by omega, by omega⟩ hp (by omega) (cell_of_row _ _ _ _ _ _ ht.r1) ht.n1
    have HC8 : Hid (∀ w6 D6, PS w6 s7 D6 → TB w.heap.size k b d l (.func (.func 51) #[] #[.pointer (some ⟨bd, 0, none⟩), .pointer (some ⟨bo, 0, none⟩)]) D6 w6 → Calls Try.prog 77 #[.int .i64 400, .int .i64 6, .int .i64 d2, .pointer (some ⟨w.heap.size + 1, 0, none⟩)] w6 fun e w' => e = .returned (.int .i64 (n8 : Int)) ∧ ∃ D', PS w' s8 D' ∧ Kpt D6 w6 D' w') := fun w6 D6 hp ht => HTR.out (w.heap.size + 1) 400 6 400 6 d2 s7 D6 w6 n8 s8 hn8 hs8 rfl rfl (Or.inr rfl) ⟨by omega, by omega⟩ ⟨by omega, by omega⟩ hp (by omega) (cell_of_row _ _ _ _ _ _ ht.r1) ht.n1
    clear HTR HR hn6 hs6 hn7 hs7 hn8 hs8 HLT HZT hz1 hz6 hz7 hsz
    go_wp2_with fail
    refine HC.out.mono ?_
    rintro e w6 ⟨rfl, D6, hp6, hk6⟩
    have HT6 : Hid (TB w.heap.size k b d l (.func (.func 51) #[] #[.pointer (some ⟨bd, 0, none⟩), .pointer (some ⟨bo, 0, none⟩)]) D6 w6) := HT5.out.next hk6
    have HS6 : Hid (PS w6 s6 D6 ∧ Kpt D w D6 w6) := ⟨hp6, HS5.out.2.trans hk6⟩
    clear HC HT5 HS5 hp6 hk6 x1 x2 x3
    have x2 : w6.cell? ⟨w.heap.size, 2, none⟩ = some (.int .i64 d) := cell_of_row _ _ _ _ _ _ HT6.out.r0
    have HC := HC7.out w6 D6 HS6.out.1 HT6.out
    have HC : Hid (Calls Try.prog 77 #[.int .i64 330, .int .i64 6, .int .i64 d1, .pointer (some ⟨w.heap.size + 1, 0, none⟩)] w6 fun e w' => e = .returned (.int .i64 (n7 : Int)) ∧ ∃ D', PS w' s7 D' ∧ Kpt D6 w6 D' w') := HC
    go_wp2_with fail
    refine HC.out.mono ?_
    rintro e w7 ⟨rfl, D7, hp7, hk7⟩
    have HT7 : Hid (TB w.heap.size k b d l (.func (.func 51) #[] #[.pointer (some ⟨bd, 0, none⟩), .pointer (some ⟨bo, 0, none⟩)]) D7 w7) := HT6.out.next hk7
    have HS7 : Hid (PS w7 s7 D7 ∧ Kpt D w D7 w7) := ⟨hp7, HS6.out.2.trans hk7⟩
    clear HC HT6 HS6 hp7 hk7 x2 HC7
    have x2 : w7.cell? ⟨w.heap.size, 2, none⟩ = some (.int .i64 d) := cell_of_row _ _ _ _ _ _ HT7.out.r0
    have HC : Hid (Calls Try.prog 77 #[.int .i64 400, .int .i64 6, .int .i64 d2, .pointer (some ⟨w.heap.size + 1, 0, none⟩)] w7 fun e w' => e = .returned (.int .i64 (n8 : Int)) ∧ ∃ D', PS w' s8 D' ∧ Kpt D7 w7 D' w') := HC8.out w7 D7 HS7.out.1 HT7.out
    go_wp2_with fail
    refine HC.out.mono ?_
    rintro e w8 ⟨rfl, D8, hp8, hk8⟩
    have hT8 := HT7.out.next hk8
    have HS8 : Hid (PS w8 s8 D8 ∧ Kpt D w D8 w8) := ⟨hp8, HS7.out.2.trans hk8⟩
    have HR2 : Hid (TB w.heap.size k b d l (.func (.func 51) #[] #[.pointer (some ⟨bd, 0, none⟩), .pointer (some ⟨bo, 0, none⟩)]) D8 w8) := hT8
    have y0 : w8.cell? ⟨w.heap.size + 1 + 1, 0, none⟩ = some (.int .i64 0) := cell_of_row _ _ _ _ _ _ hT8.r2
    have z0 : w8.frozen? ⟨w.heap.size + 1 + 1, 0, none⟩ = false := frozen_of_row w8 (w.heap.size + 1 + 1) 0 _ _ hT8.r2
    have y1 : w8.cell? ⟨w.heap.size + 1 + 1, 1, none⟩ = some (.int .i64 0) := cell_of_row _ _ _ _ _ _ hT8.r2
    have z1 : w8.frozen? ⟨w.heap.size + 1 + 1, 1, none⟩ = false := frozen_of_row w8 (w.heap.size + 1 + 1) 1 _ _ hT8.r2
    have y2 : w8.cell? ⟨w.heap.size + 1 + 1, 2, none⟩ = some (.int .i64 0) := cell_of_row _ _ _ _ _ _ hT8.r2
    have z2 : w8.frozen? ⟨w.heap.size + 1 + 1, 2, none⟩ = false := frozen_of_row w8 (w.heap.size + 1 + 1) 2 _ _ hT8.r2
    have y3 : w8.cell? ⟨w.heap.size + 1 + 1, 3, none⟩ = some (.int .i64 0) := cell_of_row _ _ _ _ _ _ hT8.r2
    have z3 : w8.frozen? ⟨w.heap.size + 1 + 1, 3, none⟩ = false := frozen_of_row w8 (w.heap.size + 1 + 1) 3 _ _ hT8.r2
    clear HC HT7 HS7 hT8 hp8 hk8 x2 HC8
    obtain ⟨m, hm⟩ : ∃ m, m = n7 * 64 + n8 + 1 := ⟨_, rfl⟩
    obtain ⟨u, hu⟩ : ∃ u, u = n6 + 3 := ⟨_, rfl⟩
    have hu1 : (n7 : Int) * 64 + (n8 : Int) + 1 = (m : Int) := by omega
    have hu2 : (n6 : Int) + 3 = (u : Int) := by omega
    have hw1 : IntKind.i64.wrap (m : Int) = (m : Int) := by rw [IntKind.wrap_i64]; omega
    have hw2 : IntKind.i64.wrap (u : Int) = (u : Int) := by rw [IntKind.wrap_i64]; omega
    rw [← hm, ← hu] at HRR
    clear hm hu
    go_wp2_with fail
    refine bodyPost_ret (results_cell_row rfl _ _ (w.heap.size + 1 + 1) 95 #[.int .i64 1, .int .i64 0, .int .i64 (m : Int), .int .i64 (u : Int)] (0, 0) _ rfl (heap_setCell_same _ _ _ _ _ _ (heap_setCell_same _ _ _ _ _ _ (heap_setCell_same _ _ _ _ _ _ (heap_setCell_same _ _ _ _ _ _ HR2.out.r2)))) Try.underlying95 rfl (by kernel_rfl)) rfl ⟨⟨R.2, rfl, ?_⟩, ?_⟩
    · rw [HRR.out]; first | rfl | simp
    · rw [HRR.out]; exact ⟨D8, HSS.out _ _ _ _ _ _ _ _ _ _ HS8.out.1 HS8.out.2 HR2.out.n2 (by omega)⟩
end Go.Proofs.Ytibciflmalfbjaa

/-!   The closure that reads a choice. -/
namespace Go.Proofs.Ytibciflmalfbjaa
open Go.RowKit
set_option linter.unusedVariables false
set_option linter.unusedSimpArgs false
def bitR (s : DS × Bool) (c _ : Nat) : Nat := s.1.tell c
def nxtR (s : DS × Bool) (c _ : Nat) : DS × Bool := (s.1.go c, s.2 && s.1.ok c)
theorem bitR_lt (s : DS × Bool) (c t : Nat) : bitR s c t < 2 := by
  unfold bitR DS.tell DS.bit
  split
  · split <;> decide
  · decide
/-- the decoder and the flag, boxed, as the closure knows them -/
structure PSr (bd bo g : Nat) (w : World) (s : DS × Bool) (D : Nat → Prop) : Prop where
  rd : w.heap[bd]? = some (.cells #[.pointer (some ⟨g, 0, none⟩)] 89 (0, 0))
  ro : w.heap[bo]? = some (.cells #[.bool s.2] 4 (0, 0))
  dec : DecAt w g s.1
  fine : s.1.Fine
  ne1 : bd ≠ bo
  ne2 : bd ≠ g
  ne3 : bo ≠ g
  dom : D = fun k => k = bd ∨ k = bo ∨ k = g
theorem PSr.stay {bd bo g : Nat} {w w' : World} {s : DS × Bool} {D : Nat → Prop} (h : PSr bd bo g w s D) (hk : ∀ k, D k → w'.heap[k]? = w.heap[k]?) : PSr bd bo g w' s D := by
  obtain ⟨h1, h2, ⟨R, C, h3, h3'⟩, h4, h5, h6, h7, rfl⟩ := h
  exact ⟨(hk bd (Or.inl rfl)).trans h1, (hk bo (Or.inr (Or.inl rfl))).trans h2, ⟨R, C, h3.of_row (hk g (Or.inr (Or.inr rfl))), h3'⟩, h4, h5, h6, h7, rfl⟩
theorem PSr.lt {bd bo g : Nat} {w : World} {s : DS × Bool} {D : Nat → Prop} (h : PSr bd bo g w s D) : ∀ k, D k → k < w.heap.size := by
  obtain ⟨h1, h2, ⟨R, C, h3, h3'⟩, h4, h5, h6, h7, rfl⟩ := h
  intro k hk
  rcases hk with rfl | rfl | rfl
  · exact (Array.getElem?_eq_some_iff.1 h1).1
  · exact (Array.getElem?_eq_some_iff.1 h2).1
  · exact h3.lt
set_option maxRecDepth 100000 in
set_option maxHeartbeats 1000000 in
theorem rdbit_any (bd bo g : Nat) (w : World) (s : DS × Bool) (D : Nat → Prop) (c t : Nat) (h : PSr bd bo g w s D) (hc : c < 512) :
    Calls Try.prog 51 #[.int .i64 (c : Int), .int .i64 (t : Int), .pointer (some ⟨bd, 0, none⟩), .pointer (some ⟨bo, 0, none⟩)] w fun e w' => e = .returned (.int .i64 ((bitR s c t : Nat) : Int)) ∧ ∃ D', PSr bd bo g w' (nxtR s c t) D' ∧ Kpt D w D' w' := by
  have HN : Hid (∀ w, DecAt w g s.1 → Calls Try.prog 52 #[.pointer (some ⟨g, 0, none⟩), .int .i64 (c : Int)] w fun e w' => e = .returned (.tuple #[.int .i64 ((s.1.tell c : Nat) : Int), .bool (s.1.ok c)]) ∧ DecAt w' g (s.1.go c) ∧ w.grownBy w' (some g)) := fun w hd => dnext_any h.fine hd hc
  have HG : Hid ((s.1.go c).Fine) := h.fine.go c
  have x0 : w.cell? ⟨bd, 0, none⟩ = some (.pointer (some ⟨g, 0, none⟩)) := cell_of_row _ _ _ _ _ _ h.rd
  have HH : Hid (PSr bd bo g w s D) := h
  have hblt := (Array.getElem?_eq_some_iff.1 h.ro).1
  have HE : Hid (bitR s c t = s.1.tell c ∧ nxtR s c t = (s.1.go c, s.2 && s.1.ok c)) := ⟨rfl, rfl⟩
  obtain ⟨ok, hok⟩ : ∃ ok, ok = s.2 := ⟨_, rfl⟩
  have HOK : Hid (ok = s.2) := hok
  rw [← hok] at HE
  generalize bitR s c t = bt at *
  generalize nxtR s c t = ns at *
  generalize s.1.tell c = tl at *
  generalize s.1.ok c = ko at *
  generalize s.1.go c = sg at *
  have HBL : Hid (bo < w.heap.size) := hblt
  clear h hc hblt hok
  go_enter Try.func51, Try.ntmps51
  go_wp2_with fail
  refine (HN.out _ HH.out.dec).mono ?_
  rintro e w2 ⟨rfl, hd2, hg2⟩
  have hro : w2.heap[bo]? = some (.cells #[.bool ok] 4 (0, 0)) := (hg2.block bo HBL.out (fun e => HH.out.ne3 (Option.some.inj e))).trans (by rw [HOK.out]; exact HH.out.ro)
  have hrd : w2.heap[bd]? = some (.cells #[.pointer (some ⟨g, 0, none⟩)] 89 (0, 0)) := (hg2.block bd (Array.getElem?_eq_some_iff.1 HH.out.rd).1 (fun e => HH.out.ne2 (Option.some.inj e))).trans HH.out.rd
  have y0 : w2.cell? ⟨bo, 0, none⟩ = some (.bool ok) := cell_of_row _ _ _ _ _ _ hro
  have z0 := frozen_of_row w2 bo 0 _ _ hro
  have HF : Hid (∃ D', PSr bd bo g (w2.setCell ⟨bo, 0, none⟩ (.bool (ok && ko))) ns D' ∧ Kpt D w D' (w2.setCell ⟨bo, 0, none⟩ (.bool (ok && ko)))) := by
    obtain ⟨R, C, hR, hC⟩ := hd2
    refine ⟨D, ⟨?_, ?_, ⟨R, C, ?_, ?_⟩, ?_, HH.out.ne1, HH.out.ne2, HH.out.ne3, HH.out.dom⟩, ⟨hg2.os, hg2.tape, hg2.output, by simpa using hg2.size, fun k hk hn => ?_, fun k hk => Or.inl hk⟩⟩
    · rw [heap_setCell_other _ _ _ _ HH.out.ne1]; exact hrd
    · rw [HE.out.2]; exact heap_setCell_same _ _ _ _ _ _ hro
    · rw [HE.out.2]; exact hR.of_row (heap_setCell_other _ _ _ _ (Ne.symm HH.out.ne3))
    · rw [HE.out.2]; exact hC
    · rw [HE.out.2]; exact HG.out
    · rw [HH.out.dom] at hn
      rw [heap_setCell_other _ _ _ _ (fun e => hn (Or.inr (Or.inl e)))]
      exact hg2.block k hk (fun e => hn (Or.inr (Or.inr (Option.some.inj e))))
  clear hro hrd hd2 hg2
  cases ok <;> cases ko <;>
    (go_wp2_with fail
     go_ret
     exact ⟨by rw [HE.out.1]; first | rfl | simp, HF.out⟩)
end Go.Proofs.Ytibciflmalfbjaa

/-!   A coder that reads: how it starts. -/
namespace Go.Proofs.Ytibciflmalfbjaa
open Go.RowKit
set_option linter.unusedVariables false
set_option linter.unusedSimpArgs false
/-- the number that the bytes behind the first one begin with -/
def code0 (S : ByteArray) : Nat := pt (bsOf (S.extract 1 S.size)) 0 4
def rest0 (S : ByteArray) : ByteArray := S.extract 5 S.size
def startOk (S : ByteArray) : Prop := 5 ≤ S.size ∧ bsOf S 0 = 0
theorem pt4_lt {bs : Nat → Nat} (hb : ∀ j, bs j < 256) (i : Nat) : pt bs i 4 < 4294967296 := by
  have h := pt_lt hb i 3 (by omega)
  have h2 := hb (4 * i + 3)
  show pt bs i 3 * 256 + bs (4 * i + 3) < 4294967296
  omega
set_option maxRecDepth 100000 in
theorem startD_no (S : ByteArray) (w : World) (hs : S.size ≤ 1099511627776) (h : ¬ startOk S) :
    Calls Try.prog 50 #[.string S] w fun e w' => e = .returned (.tuple #[.pointer none, .bool false]) ∧ Below w.heap.size w w' := by
  by_cases h5 : S.size < 5
  · have h5I : (S.size : Int) < 5 := by omega
    clear h
    go_enter Try.func50, Try.ntmps50
    go_wp2_with fail
    go_ret2
    exact ⟨rfl, Below.refl _ _⟩
  · have h5I : ¬ (S.size : Int) < 5 := by omega
    have h0I : (0 : Int) < (S.size : Int) := by omega
    have h0N : 0 < S.size := by omega
    have hb := bsOf_at S 0 h0N
    have hne : ((bsOf S 0 : Nat) : Int) ≠ 0 := fun e => h ⟨by omega, by omega⟩
    have hnb : (((bsOf S 0 : Nat) : Int) != 0) = true := bne_iff_ne.2 hne
    clear h hne
    generalize bsOf S 0 = b at hb hnb
    go_enter Try.func50, Try.ntmps50
    go_wp2_with fail
    go_ret2
    exact ⟨rfl, Below.refl _ _⟩
set_option maxRecDepth 100000 in
set_option maxHeartbeats 2000000 in
theorem startD_yes (S : ByteArray) (w : World) (hs : S.size ≤ 1099511627776) (h : startOk S) :
    Calls Try.prog 50 #[.string S] w fun e w' => (∃ g, e = .returned (.tuple #[.pointer (some ⟨g, 0, none⟩), .bool true]) ∧ w.heap.size ≤ g ∧ DecAt w' g (DS.start (code0 S) (bl (rest0 S)))) ∧ Below w.heap.size w w' := by
  obtain ⟨h5, hb0⟩ := h
  have h5I : ¬ (S.size : Int) < 5 := by omega
  have h5J : (5 : Int) ≤ (S.size : Int) := by omega
  have h1J : (1 : Int) ≤ (S.size : Int) := by omega
  have h0I : (0 : Int) < (S.size : Int) := by omega
  have h0N : 0 < S.size := by omega
  have hb := bsOf_at S 0 h0N
  rw [hb0] at hb
  have HW : Hid (∀ w, Calls Try.prog 74 #[.string (S.extract 1 S.size), .int .i64 0] w fun e w' => e = .returned (.int .u32 ((code0 S : Nat) : Int)) ∧ w' = w) := fun w => word_any (S.extract 1 S.size) 0 w (by rw [ByteArray.size_extract]; omega) (by omega)
  have hcl : code0 S < 4294967296 := pt4_lt (bsOf_lt _) 0
  have hcw : IntKind.i64.wrap ((code0 S : Nat) : Int) = ((code0 S : Nat) : Int) := by rw [IntKind.wrap_i64]; omega
  have HST : Hid (∀ w, Calls Try.prog 62 #[] w fun e w' => e = .returned (.agg coder0) ∧ Below w.heap.size w w') := fun w => started_any w
  have hkz := coder0_size
  obtain ⟨Z, hZ⟩ : ∃ Z : Array Value, Z = Array.replicate 513 (Value.int .i64 0) ++ #[.int .i64 0, .string ByteArray.empty] := ⟨_, rfl⟩
  have hz : ∀ w, (zeroValue 129).run Try.prog w = .ok (.agg Z) w := by rw [hZ]; exact (zero_of_info (n := 515) (by kernel_rfl)).1
  have hZs : Z.size = 515 := by rw [hZ]; simp
  have hZe : ¬ Z = #[] := by intro e; rw [e] at hZs; simp at hZs
  have hfs : ¬ (Array.foldl (fun cs x => cs.setIfInBounds x.snd x.fst) Z coder0.zipIdx 0 513).size < 515 := by
    have := fill_size (Z := Z) coder0_size
    unfold fillC at this
    rw [this, hZs]; omega
  have hfs4 : ¬ (Array.foldl (fun cs x => cs.setIfInBounds x.snd x.fst) Z coder0.zipIdx 0 513).size < 514 := by omega
  have HE0 : Hid (∀ (c : Nat) (v : Value), ((((fillC Z coder0).setIfInBounds 513 (.int .i64 (c : Int))).setIfInBounds 514 v).size = 515 ∧ (((fillC Z coder0).setIfInBounds 513 (.int .i64 (c : Int))).setIfInBounds 514 v)[0]? = some (.int .i64 4294967295) ∧ (∀ j, j < 512 → (((fillC Z coder0).setIfInBounds 513 (.int .i64 (c : Int))).setIfInBounds 514 v)[1 + j]? = some (.int .i64 1024)) ∧ (((fillC Z coder0).setIfInBounds 513 (.int .i64 (c : Int))).setIfInBounds 514 v)[513]? = some (.int .i64 (c : Int)) ∧ (((fillC Z coder0).setIfInBounds 513 (.int .i64 (c : Int))).setIfInBounds 514 v)[514]? = some v)) := fun c v => by
    have f0 := fill_size (Z := Z) coder0_size
    refine ⟨by rw [Array.size_setIfInBounds, Array.size_setIfInBounds, f0, hZs], ?_, fun j hj => ?_, ?_, ?_⟩
    · rw [Array.getElem?_setIfInBounds_ne (by omega), Array.getElem?_setIfInBounds_ne (by omega), fill_get coder0_size hZs, if_pos (by omega)]; exact coder0_zero
    · rw [Array.getElem?_setIfInBounds_ne (by omega), Array.getElem?_setIfInBounds_ne (by omega), fill_get coder0_size hZs, if_pos (by omega)]; exact coder0_at hj
    · rw [Array.getElem?_setIfInBounds_ne (by omega), Array.getElem?_setIfInBounds_self_of_lt (by rw [f0, hZs]; omega)]
    · rw [Array.getElem?_setIfInBounds_self_of_lt (by rw [Array.size_setIfInBounds, f0, hZs]; omega)]
  unfold fillC at HE0
  clear hZ
  unfold rest0
  generalize code0 S = c at HW hcl hcw ⊢
  generalize coder0 = K at HST hkz hfs hfs4 HE0
  go_enter Try.func50, Try.ntmps50
  go_wp2_with fail
  go_region_with (first
    | (refine (HST.out _).mono ?_; rintro e w1 ⟨rfl, hb1⟩)
    | (refine (HW.out _).mono ?_; rintro e w1 ⟨rfl, hw1⟩; subst hw1))
  obtain ⟨hE1, hE2, hE3, hE4, hE5⟩ := HE0.out c (.string (S.extract 5 S.size))
  generalize ((Array.foldl (fun cs x => cs.setIfInBounds x.snd x.fst) Z K.zipIdx 0 513).setIfInBounds 513 (.int .i64 (c : Int))).setIfInBounds 514 (.string (S.extract 5 S.size)) = C0 at *
  have HF : Hid (DecAt (w1.alloc (.cells C0 129)) w1.heap.size (DS.start c (bl (S.extract 5 S.size))) ∧ Below w.heap.size w (w1.alloc (.cells C0 129)) ∧ w.heap.size ≤ w1.heap.size) := by
    have hb2 : Below w.heap.size w w1 := (Below.refl _ w).drew.trans hb1
    exact ⟨⟨S.extract 5 S.size, C0, ⟨heap_alloc_new _ _, hE1, hE2, hE3, hE4, hE5⟩, rfl⟩, hb2.alloc hb2.size _, hb2.size⟩
  clear hE1 hE2 hE3 hE4 hE5 HE0 hfs hfs4 hz hZs hZe hkz
  go_wp2_with fail
  go_ret2
  exact ⟨⟨_, rfl, HF.out.2.2, HF.out.1⟩, HF.out.2.1⟩
end Go.Proofs.Ytibciflmalfbjaa

/-!   What tokens make that a text says, until there are enough bytes: the code's. -/
namespace Go.Proofs.Ytibciflmalfbjaa
open Go.RowKit
set_option linter.unusedVariables false
set_option linter.unusedSimpArgs false
/-- the token that is read -/
def mkTok (s : DS × Bool) (a : Nat) : (DS × Bool) × TkN := thTok bitR nxtR a 0 0 0 0 s
noncomputable def mkStep (s : DS × Bool) (a : Nat) (o : List Nat) : Option ((DS × Bool) × Nat × List Nat) := open Classical in
  if (mkTok s a).1.2 = true ∧ tokP ((mkTok s a).2.k : Int) ((mkTok s a).2.b : Int) ((mkTok s a).2.d : Int) ((mkTok s a).2.l : Int) (o.length : Int) then some ((mkTok s a).1, (mkTok s a).2.k, tkOut o ⟨((mkTok s a).2.k : Int), ((mkTok s a).2.b : Int), ((mkTok s a).2.d : Int), ((mkTok s a).2.l : Int)⟩) else none
noncomputable def mkRun (n : Nat) : Nat → DS × Bool → Nat → List Nat → Option (List Nat)
  | 0, _, _, o => some o
  | k + 1, s, a, o => if n ≤ o.length then some o else match mkStep s a o with
    | none => none
    | some (s1, a1, o1) => mkRun n k s1 a1 o1
noncomputable def made (S : ByteArray) (n : Nat) : Option (List Nat) := open Classical in if startOk S then mkRun n n (DS.start (code0 S) (bl (rest0 S)), true) 0 [] else none
def mLen : Value → Nat | .slice _ n _ => n | _ => 0
theorem mkTok_k (s : DS × Bool) (a : Nat) : (mkTok s a).2.k < 2 := by
  unfold mkTok thTok
  split
  · show (0 : Nat) < 2; decide
  · show (1 : Nat) < 2; decide
theorem mkRun_enough {n k : Nat} {s : DS × Bool} {a : Nat} {o : List Nat} (h : n ≤ o.length) : mkRun n k s a o = some o := by
  cases k with
  | zero => rfl
  | succ k => unfold mkRun; rw [if_pos h]
theorem mkRun_none {n k : Nat} {s : DS × Bool} {a : Nat} {o : List Nat} (h : o.length < n) (h2 : mkStep s a o = none) : mkRun n (k + 1) s a o = none := by
  unfold mkRun; rw [if_neg (by omega), h2]
theorem mkRun_some {n k : Nat} {s s1 : DS × Bool} {a a1 : Nat} {o o1 : List Nat} (h : o.length < n) (h2 : mkStep s a o = some (s1, a1, o1)) : mkRun n (k + 1) s a o = mkRun n k s1 a1 o1 := by
  conv => lhs; unfold mkRun
  rw [if_neg (by omega), h2]
theorem tkOut_more {o : List Nat} {t : TkI} (hp : tokP t.k t.b t.d t.l (o.length : Int)) : o.length < (tkOut o t).length := by
  unfold tkOut
  split
  · simp
  · rename_i h
    rw [cpI_len]
    obtain ⟨_, ⟨h1, _⟩ | ⟨h1, h2, h3, h4, h5, h6, h7⟩⟩ := hp
    · exact absurd h1 h
    · omega
theorem rthru (bd bo g : Nat) (a : Nat) (ha : a < 2) (s : DS × Bool) (D : Nat → Prop) (w : World) (h : PSr bd bo g w s D) :
    Calls Try.prog 53 #[.agg #[.int .i64 0, .int .i64 0, .int .i64 0, .int .i64 0], .int .i64 (a : Int), .func (.func 51) #[] #[.pointer (some ⟨bd, 0, none⟩), .pointer (some ⟨bo, 0, none⟩)]] w fun e w' => (∃ t, t = (mkTok s a).2 ∧ e = .returned (.agg #[.int .i64 (t.k : Int), .int .i64 (t.b : Int), .int .i64 (t.d : Int), .int .i64 (t.l : Int)])) ∧ ∃ D', PSr bd bo g w' (mkTok s a).1 D' ∧ Kpt D w D' w' :=
  rthrough_any (PSr bd bo g) bitR nxtR (fun _ => 0) 100 bd bo (fun w s D c t h _ hc _ => rdbit_any bd bo g w s D c t h hc) (fun s c t _ => bitR_lt s c t) (fun w w' s D h hk => h.stay hk) (fun w s D h => h.lt) (fun _ _ _ => Nat.zero_le _) a 0 _ _ 0 0 0 s D w ha (by decide) rfl rfl (by decide) (by decide) (by decide) h (by decide)
set_option maxRecDepth 100000 in
set_option maxHeartbeats 1000000 in
theorem madeBy_any (S : ByteArray) (n : Nat) (w : World) (hn : n ≤ 4000) (hs : S.size ≤ 1099511627776) :
    Calls Try.prog 27 #[.string S, .int .i64 (n : Int)] w fun e w' => e = .returned (unAns (made S n)) ∧ Below w.heap.size w w' := by
  by_cases hst : startOk S
  · have HM : Hid (made S n = mkRun n n (DS.start (code0 S) (bl (rest0 S)), true) 0 []) := by show _ = _; unfold made; rw [if_pos hst]
    have HD : Hid (Calls Try.prog 50 #[.string S] w fun e w' => (∃ g, e = .returned (.tuple #[.pointer (some ⟨g, 0, none⟩), .bool true]) ∧ w.heap.size ≤ g ∧ DecAt w' g (DS.start (code0 S) (bl (rest0 S)))) ∧ Below w.heap.size w w') := startD_yes S w hs hst
    have HF0 : Hid ((DS.start (code0 S) (bl (rest0 S))).Fine) := DS.start_fine (pt4_lt (bsOf_lt _) 0) (bl_lt _)
    generalize made S n = R at HM ⊢
    generalize DS.start (code0 S) (bl (rest0 S)) = s0 at *
    clear hst hs
    go_enter Try.func27, Try.ntmps27
    go_wp2_with fail
    refine HD.out.mono ?_
    rintro e w1 ⟨⟨g, rfl, hg, hdec⟩, hb1⟩
    obtain ⟨R0, C0, hrow0, hbl0⟩ := hdec
    have hgl := hrow0.lt
    obtain ⟨w2, hw2⟩ : ∃ w2, w2 = (w1.alloc (.cells #[.pointer (some ⟨g, 0, none⟩)] 89)).alloc (.cells #[.bool true] 4) := ⟨_, rfl⟩
    have hb2 : Below w.heap.size w w2 := by rw [hw2]; exact (hb1.alloc hb1.size _).alloc (by have := hb1.size; simp; omega) _
    have HP2 : Hid (∃ D, PSr w1.heap.size (w1.heap.size + 1) g w2 (s0, true) D) := by
      refine ⟨_, ⟨?_, ?_, ⟨R0, C0, hrow0.of_row ?_, hbl0⟩, HF0.out, by omega, by omega, by omega, rfl⟩⟩
      · rw [hw2]; exact (Below.heap_alloc _ _ _ (by simp)).trans (heap_alloc_new _ _)
      · rw [hw2]
        have := heap_alloc_new (w1.alloc (.cells #[.pointer (some ⟨g, 0, none⟩)] 89)) (.cells #[.bool true] 4)
        simpa using this
      · rw [hw2]; exact (Below.heap_alloc _ _ _ (by simp; omega)).trans (Below.heap_alloc _ _ _ hgl)
    have HSZ : Hid (w.heap.size ≤ g ∧ g < w1.heap.size ∧ w2.heap.size = w1.heap.size + 2 ∧ w.heap.size ≤ w1.heap.size) := ⟨hg, hgl, by rw [hw2]; simp, hb1.size⟩
    have HB2 : Hid (Below w.heap.size w w2) := hb2
    have HW2 : Hid (w2 = _) := hw2
    clear hg hrow0 hbl0 hgl hw2 hb2 hb1 HD HF0
    go_wp2_with fail
    rw [← HW2.out]
    have HTY : Hid (∀ k b d l h w, tokP k b d l h → Calls Try.prog 54 #[.agg #[.int .i64 k, .int .i64 b, .int .i64 d, .int .i64 l], .int .i64 h] w fun e w' => e = .returned (.bool true) ∧ Below w.heap.size w w') := fun k b d l h w hp => tok_yes k b d l h w hp
    have HTN : Hid (∀ k b d l h w, ¬ tokP k b d l h → Calls Try.prog 54 #[.agg #[.int .i64 k, .int .i64 b, .int .i64 d, .int .i64 l], .int .i64 h] w fun e w' => e = .returned (.bool false) ∧ Below w.heap.size w w') := fun k b d l h w hp => tok_no k b d l h w hp
    have HWT : Hid (∀ (o : List Nat) (t : TkI) (B : Nat) (v : Value) (w : World), o.length ≤ 4000 → AllB o → tokP t.k t.b t.d t.l (o.length : Int) → w.ownsRow B 5 1 v o.length (bL o) → B ≤ w.heap.size →
      Calls Try.prog 55 #[v, .agg #[.int .i64 t.k, .int .i64 t.b, .int .i64 t.d, .int .i64 t.l]] w fun e w' => ∃ v', e = .returned v' ∧ w'.ownsRow B 5 1 v' (tkOut o t).length (bL (tkOut o t)) ∧ Below B w w' ∧ (∀ (k : Nat) (cs : Array Value), w.heap[k]? = some (.cells cs 95 (0, 0)) → w'.heap[k]? = some (.cells cs 95 (0, 0)))) := fun o t B v w h1 h2 h3 h4 h5 => withK_any o t B v w h1 h2 h3 h4 h5
    have hnI : (n : Int) ≤ 4000 := by omega
    go_loopw [9, 10] (fun v x wr => ∃ (k a : Nat) (o : List Nat) (s : DS × Bool) (D : Nat → Prop), x = .int .i64 (a : Int) ∧ a < 2 ∧ n ≤ o.length + k ∧ Hid (R = mkRun n k s a o) ∧ Hid (AllB o) ∧ Hid (PSr w1.heap.size (w1.heap.size + 1) g wr s D) ∧ Hid (wr.ownsRow w2.heap.size 5 1 v o.length (bL o)) ∧ Hid (Below w.heap.size w wr ∧ w2.heap.size ≤ wr.heap.size)) (fun v _ _ => n - mLen v)
    case atStart =>
      obtain ⟨D, hD⟩ := HP2.out
      exact ⟨n, 0, [], (s0, true), D, rfl, by decide, by show n ≤ 0 + n; omega, HM, fun x hx => (by cases hx), hD, ⟨rfl, Or.inl ⟨rfl, rfl⟩⟩, HB2.out, Nat.le_refl _⟩
    case round =>
      clear HP2 HM HB2 HW2
      obtain ⟨k, a, o, s, D, rfl, ha, hk, HR, HAB, HP, HO, HB⟩ := hrel
      obtain ⟨ra, rc, rfl⟩ := own_len1 HO.out
      by_cases hlt : o.length < n
      · have hltI : (o.length : Int) < (n : Int) := by omega
        obtain ⟨k, rfl⟩ : ∃ j, k = j + 1 := ⟨k - 1, by omega⟩
        have HTH : Hid (Calls Try.prog 53 #[.agg #[.int .i64 0, .int .i64 0, .int .i64 0, .int .i64 0], .int .i64 (a : Int), .func (.func 51) #[] #[.pointer (some ⟨w1.heap.size, 0, none⟩), .pointer (some ⟨w1.heap.size + 1, 0, none⟩)]] wr fun e w' => (∃ t, t = (mkTok s a).2 ∧ e = .returned (.agg #[.int .i64 (t.k : Int), .int .i64 (t.b : Int), .int .i64 (t.d : Int), .int .i64 (t.l : Int)])) ∧ ∃ D', PSr w1.heap.size (w1.heap.size + 1) g w' (mkTok s a).1 D' ∧ Kpt D wr D' w') := rthru _ _ g a ha s D wr HP.out
        have HKK : Hid ((mkTok s a).2.k < 2) := mkTok_k s a
        have HST : Hid (mkStep s a o = open Classical in if (mkTok s a).1.2 = true ∧ tokP ((mkTok s a).2.k : Int) ((mkTok s a).2.b : Int) ((mkTok s a).2.d : Int) ((mkTok s a).2.l : Int) (o.length : Int) then some ((mkTok s a).1, (mkTok s a).2.k, tkOut o ⟨((mkTok s a).2.k : Int), ((mkTok s a).2.b : Int), ((mkTok s a).2.d : Int), ((mkTok s a).2.l : Int)⟩) else none) := rfl
        generalize (mkTok s a).2 = t at *
        generalize (mkTok s a).1 = sn at *
        go_wp2_with fail
        refine HTH.out.mono ?_
        rintro e w3 ⟨⟨tt, rfl, rfl⟩, D3, hp3, hk3⟩
        have hdom : ∀ k, D k → w.heap.size ≤ k ∧ k < w2.heap.size := fun k hk => by
          have h1 := HP.out.dom
          have h2 := HSZ.out
          rw [h1] at hk
          rcases hk with rfl | rfl | rfl <;> omega
        have hb3 : Below w.heap.size w w3 := bl_trans3 HB.out.1 (hk3.toBelow HB.out.1.size (fun k hk => (hdom k hk).1)) (Nat.le_refl _)
        have hz3 : w2.heap.size ≤ w3.heap.size := Nat.le_trans HB.out.2 hk3.size
        have ho3 : w3.ownsRow w2.heap.size 5 1 (.slice ra o.length rc) o.length (bL o) := owns_row_of HO.out (fun k hk => hk3.block k (HO.out.lt k hk).2 (fun c => by have := (hdom k c).2; have := (HO.out.lt k hk).1; omega))
        obtain ⟨fl, hfl⟩ : ∃ fl, fl = sn.2 := ⟨_, rfl⟩
        have hro := hp3.ro
        rw [← hfl] at hro HST
        have hlo := (Array.getElem?_eq_some_iff.1 hro).1
        have y0 : (w3.alloc (.cells #[.int .i64 (tt.k : Int), .int .i64 (tt.b : Int), .int .i64 (tt.d : Int), .int .i64 (tt.l : Int)] 95)).cell? ⟨w1.heap.size + 1, 0, none⟩ = some (.bool fl) :=
          cell_of_row _ _ _ _ _ _ ((Below.heap_alloc _ _ _ hlo).trans hro)
        have HP3 : Hid (PSr w1.heap.size (w1.heap.size + 1) g w3 sn D3) := hp3
        have HB3 : Hid (Below w.heap.size w w3 ∧ w2.heap.size ≤ w3.heap.size) := ⟨hb3, hz3⟩
        have HO3 : Hid (w3.ownsRow w2.heap.size 5 1 (.slice ra o.length rc) o.length (bL o)) := ho3
        clear hdom hb3 hz3 ho3 hro hlo hp3 hk3 HP HB HO HTH hfl
        have hkk := HKK.out
        cases fl with
        | false =>
          have HN : Hid (R = none) := by
            show R = none
            rw [HR.out]
            exact mkRun_none hlt (by rw [HST.out, if_neg (by rintro ⟨c, _⟩; cases c)])
          clear HST HR
          go_wp2_with fail
          go_ret2
          exact ⟨by rw [HN.out]; rfl, HB3.out.1.alloc HB3.out.1.size _⟩
        | true =>
          go_wp2_with fail
          by_cases hp : tokP (tt.k : Int) (tt.b : Int) (tt.d : Int) (tt.l : Int) (o.length : Int)
          · refine (HTY.out _ _ _ _ _ _ hp).mono ?_
            rintro e w5 ⟨rfl, hb5⟩
            obtain ⟨q, hq⟩ : ∃ q : TkI, q = ⟨(tt.k : Int), (tt.b : Int), (tt.d : Int), (tt.l : Int)⟩ := ⟨_, rfl⟩
            have hr5 : w5.heap[w3.heap.size]? = some (.cells #[.int .i64 (tt.k : Int), .int .i64 (tt.b : Int), .int .i64 (tt.d : Int), .int .i64 (tt.l : Int)] 95 (0, 0)) := (hb5.block _ (by simp)).trans (heap_alloc_new w3 _)
            have HR5 : Hid _ := hr5
            have hz5 : w3.heap.size + 1 ≤ w5.heap.size := by have := hb5.size; simpa using this
            have HO5 : Hid (w5.ownsRow w2.heap.size 5 1 (.slice ra o.length rc) o.length (bL o)) := owns_call1 (HO3.out.alloc _) hb5
            have HP5 : Hid (PSr w1.heap.size (w1.heap.size + 1) g w5 sn D3) := HP3.out.stay (fun k hk => (hb5.block k (by have := HP3.out.lt k hk; simp; omega)).trans (Below.heap_alloc _ _ _ (HP3.out.lt k hk)))
            have HB5 : Hid (Below w.heap.size w w5 ∧ w2.heap.size ≤ w5.heap.size) := ⟨bl_trans3 (HB3.out.1.alloc HB3.out.1.size _) hb5 (by have := HB3.out.1.size; simp; omega), by have := HB3.out.2; omega⟩
            have HCW : Hid (Calls Try.prog 55 #[.slice ra o.length rc, .agg #[.int .i64 (tt.k : Int), .int .i64 (tt.b : Int), .int .i64 (tt.d : Int), .int .i64 (tt.l : Int)]] w5 fun e w' => ∃ v', e = .returned v' ∧ w'.ownsRow w2.heap.size 5 1 v' (tkOut o q).length (bL (tkOut o q)) ∧ Below w2.heap.size w5 w' ∧ (∀ (k : Nat) (cs : Array Value), w5.heap[k]? = some (.cells cs 95 (0, 0)) → w'.heap[k]? = some (.cells cs 95 (0, 0)))) := by
              have h := HWT.out o ⟨(tt.k : Int), (tt.b : Int), (tt.d : Int), (tt.l : Int)⟩ w2.heap.size (.slice ra o.length rc) w5 (by omega) HAB.out hp HO5.out HB5.out.2
              rw [hq]; exact h
            have HRN : Hid (R = mkRun n k sn tt.k (tkOut o q)) := by
              show R = _
              rw [HR.out]
              exact mkRun_some hlt (by rw [HST.out, if_pos ⟨rfl, hp⟩, hq])
            have HMO : Hid (o.length < (tkOut o q).length ∧ AllB (tkOut o q)) := ⟨tkOut_more (by rw [hq]; exact hp), HAB.out.tk (by rw [hq]; exact hp)⟩
            have hit : Option.map (·.size) (Try.prog.info? 95) = some 4 := by kernel_rfl
            have hmo := HMO.out.1
            generalize tkOut o q = o2 at HCW HRN HMO hmo
            clear hb5 HR HST hp hq HO3 HP3 HB3 y0 HAB hr5
            go_wp2_with (refine wpList_load_row rfl 95 _ rfl (w3.heap.size) rfl 95 #[.int .i64 (tt.k : Int), .int .i64 (tt.b : Int), .int .i64 (tt.d : Int), .int .i64 (tt.l : Int)] (0, 0) _ HR5.out Try.underlying95 rfl hit ?_)
            refine HCW.out.mono ?_
            rintro e w6 ⟨v', rfl, ho6, hb6, hk6⟩
            obtain ⟨ra2, rc2, rfl⟩ := own_len1 ho6
            have x0 : w6.cell? ⟨w3.heap.size, 0, none⟩ = some (.int .i64 (tt.k : Int)) := cell_of_row _ _ _ _ _ _ (hk6 _ _ HR5.out)
            have HO6 : Hid (w6.ownsRow w2.heap.size 5 1 (.slice ra2 o2.length rc2) o2.length (bL o2)) := ho6
            have HP6 : Hid (PSr w1.heap.size (w1.heap.size + 1) g w6 sn D3) := HP5.out.stay (fun k hk => hb6.block k (by
              have h1 := HP5.out.dom
              have h2 := HSZ.out
              rw [h1] at hk
              rcases hk with rfl | rfl | rfl <;> omega))
            have HB6 : Hid (Below w.heap.size w w6 ∧ w2.heap.size ≤ w6.heap.size) := ⟨bl_trans3 HB5.out.1 hb6 (by have := HSZ.out; omega), Nat.le_trans HB5.out.2 hb6.size⟩
            clear ho6 hb6 hk6 HO5 HP5 HB5 HR5 HCW hz5
            go_wp2_with fail
            go_roundw
            case rel => exact ⟨k, tt.k, o2, sn, D3, rfl, hkk, by omega, HRN, HMO.out.2, HP6.out, HO6.out, HB6.out⟩
            case measure => simp [mLen]; omega
          · refine (HTN.out _ _ _ _ _ _ hp).mono ?_
            rintro e w5 ⟨rfl, hb5⟩
            have HN : Hid (R = none) := by
              show R = none
              rw [HR.out]
              exact mkRun_none hlt (by rw [HST.out, if_neg (by rintro ⟨_, c⟩; exact hp c)])
            have HB5 : Hid (Below w.heap.size w w5) := bl_trans3 (HB3.out.1.alloc HB3.out.1.size _) hb5 (by have := HB3.out.1.size; simp; omega)
            clear HST HR hb5 hp
            go_wp2_with fail
            go_ret2
            exact ⟨by rw [HN.out]; rfl, HB5.out⟩
      · have HN : Hid (R = some o) := by rw [HR.out]; exact mkRun_enough (by omega)
        have HCV : Hid ((convert 25 9 (.slice ra o.length rc)).run Try.prog wr = .ok (.string (strL o)) wr) := own_str HAB.out HO.out
        have hcv := HCV.out
        clear HR HO HCV HP
        go_wp2_with fail
        go_ret2
        exact ⟨by rw [HN.out]; rfl, HB.out.1⟩
  · have HN : Hid (made S n = none) := by show _ = _; unfold made; rw [if_neg hst]
    have HD : Hid (∀ w, Calls Try.prog 50 #[.string S] w fun e w' => e = .returned (.tuple #[.pointer none, .bool false]) ∧ Below w.heap.size w w') := fun w => startD_no S w hs hst
    generalize made S n = R at HN ⊢
    clear hst hs
    go_enter Try.func27, Try.ntmps27
    go_wp2_with fail
    refine (HD.out _).mono ?_
    rintro e w1 ⟨rfl, hb1⟩
    go_wp2_with fail
    go_ret2
    exact ⟨by rw [HN.out]; rfl, (hb1.alloc hb1.size _).alloc (by have := hb1.size; simp; omega) _⟩
end Go.Proofs.Ytibciflmalfbjaa

/-!   Packs: the code's and the specification's. -/
namespace Go.Proofs.Ytibciflmalfbjaa
open Go.RowKit
set_option linter.unusedVariables false
set_option linter.unusedSimpArgs false
def chF (L : List (Nat × Nat)) (i : Nat) : Int × Int := (((L.getD i (0, 0)).1 : Int), ((L.getD i (0, 0)).2 : Int))
theorem chF_at {L : List (Nat × Nat)} {i : Nat} (h : i < L.length) : chF L i = ((L[i].1 : Int), (L[i].2 : Int)) := by
  unfold chF; rw [List.getD_eq_getElem?_getD, List.getElem?_eq_getElem h]; rfl
theorem chL_chF (L : List (Nat × Nat)) : chL (chF L) L.length = L := by
  apply List.ext_getElem
  · simp [chL]
  · intro i h1 h2
    simp only [chL, List.getElem_map, List.getElem_range, chF_at h2, Int.toNat_natCast]
theorem own_form2' {w : World} {B n : Nat} {v : Value} {xs : List Value} (h : w.ownsRow B 106 2 v n xs) (h0 : 0 < n) :
    ∃ g cap cur, v = .slice (some ⟨g, 0, none⟩) n cap ∧ B ≤ g ∧ w.heap[g]? = some (.cells cur 106 (0, 0)) ∧ 2 * n ≤ cur.size ∧ ∀ (j : Nat) (u : Value), xs[j]? = some u → cur[j]? = some u := by
  obtain ⟨hl, ⟨_, h1⟩ | ⟨g, cap, cur, h1, h2, h3, h4, h5, h6, h7⟩⟩ := h
  · omega
  · refine ⟨g, cap, cur, h1, h2, h3, by omega, fun j u hj => ?_⟩
    rw [← h7, List.getElem?_take] at hj
    split at hj
    · simpa using hj
    · cases hj
theorem own_zero2' {w : World} {B : Nat} {v : Value} {xs : List Value} (h : w.ownsRow B 106 2 v 0 xs) : ∃ a c, v = .slice a 0 c := by
  obtain ⟨hl, ⟨h0, _⟩ | ⟨g, cap, cur, h1, _⟩⟩ := h
  · exact ⟨_, _, h0⟩
  · exact ⟨_, _, h1⟩
theorem own_chArg {w : World} {B : Nat} {v : Value} {L : List (Nat × Nat)} (h : w.ownsRow B 106 2 v L.length (cC L)) : ChArg w v L.length (chF L) := by
  by_cases h0 : 0 < L.length
  · obtain ⟨g, cap, cur, rfl, _, h3, _, h5⟩ := own_form2' h h0
    refine ⟨_, _, rfl, fun _ => ⟨g, rfl, (Array.getElem?_eq_some_iff.1 h3).1, fun i hi => ?_, fun i hi => ?_⟩⟩
    · rw [chF_at hi]; exact (cell_of_row _ _ _ _ _ _ h3).trans (h5 _ _ (cC_at L i hi).1)
    · rw [chF_at hi]; exact (cell_of_row _ _ _ _ _ _ h3).trans (h5 _ _ (cC_at L i hi).2)
  · have e : L.length = 0 := by omega
    rw [e] at h ⊢
    obtain ⟨a, c, rfl⟩ := own_zero2' h
    exact ⟨a, c, rfl, fun h => absurd h (by omega)⟩
theorem choS_chOk {s : ByteArray} (hs : s.size ≤ 4000) : chOk (chF (choS s)) (choS s).length :=
  ⟨by have := choS_len hs; omega, fun i hi => by
    rw [chF_at hi]
    have h := choS_ok hs (choS s)[i] (List.getElem_mem hi)
    exact ⟨⟨by show (0 : Int) ≤ ((choS s)[i].1 : Int); omega, by show ((choS s)[i].1 : Int) < 512; omega⟩, by show ((choS s)[i].2 : Int) = 0 ∨ ((choS s)[i].2 : Int) = 1; omega⟩⟩
/-- the bytes behind a pack's number -/
def pckR (s : ByteArray) : ByteArray := encB (RS.start.run (choS s))
def pckB (s : ByteArray) : ByteArray := ⟨(put s.size).toArray⟩ ++ pckR s
theorem bigL_len4 (n : Nat) : (bigL n 4).length = 4 := rfl
theorem pckR_size {s : ByteArray} (hs : s.size ≤ 4000) : (pckR s).size ≤ 72005 := by
  have h1 := run_len (chF (choS s)) (choS s).length
  rw [chL_chF] at h1
  have h2 := choS_len hs
  have e : (pckR s).size = (RS.start.run (choS s)).out.length + 4 := by
    unfold pckR encB
    rw [ByteArray.size_append]
    have e1 : ∀ l : List UInt8, (⟨l.toArray⟩ : ByteArray).size = l.length := fun l => by show l.toArray.size = _; simp
    rw [e1, e1, List.length_map, bigL_len4]
  omega
theorem putB_size {n : Nat} (h : n < 18446744073709551616) : (⟨(put n).toArray⟩ : ByteArray).size ≤ 10 := by
  have := put_ten h
  show ((put n).toArray).size ≤ _
  simpa using this
set_option maxRecDepth 100000 in
set_option maxHeartbeats 600000 in
theorem spack_yes (s : ByteArray) (w : World) (hs : s.size ≤ 4000) :
    Calls Try.prog 25 #[.string s] w fun e w' => e = .returned (.tuple #[.string (pckB s), .bool true]) ∧ Below w.heap.size w w' := by
  have HC : Hid (∀ w, Calls Try.prog 47 #[.string s] w fun e w' => (∃ v, e = .returned (.tuple #[v, .bool true]) ∧ ChArg w' v (choS s).length (chF (choS s))) ∧ Below w.heap.size w w') := fun w => (schoices_any s w hs).mono (by rintro e w' ⟨⟨v, rfl, h⟩, hb⟩; exact ⟨⟨v, rfl, own_chArg h⟩, hb⟩)
  have HR : Hid (∀ v w, ChArg w v (choS s).length (chF (choS s)) → Calls Try.prog 49 #[v] w fun e w' => e = .returned (.string (pckR s)) ∧ Below w.heap.size w w') := fun v w h => by
    obtain ⟨a, c, rfl, hr⟩ := h
    have h2 := sencode_any a c _ _ w (choS_chOk hs).1 hr (choS_chOk hs).2
    rw [chL_chF] at h2
    exact h2
  have HL : Hid (∀ w, Calls Try.prog 48 #[.int .i64 (s.size : Int)] w fun e w' => e = .returned (.string (⟨(put s.size).toArray⟩ : ByteArray)) ∧ Below w.heap.size w w') := fun w => by
    have hw : IntKind.u64.wrap (s.size : Int) = (s.size : Int) := by rw [IntKind.wrap_u64]; omega
    have HP : Hid (∀ w, Calls Try.prog 71 #[.int .u64 (s.size : Int)] w fun e w' => e = .returned (.string (⟨(put s.size).toArray⟩ : ByteArray)) ∧ Below w.heap.size w w') := fun w => sput_any s.size w (by omega)
    go_enter Try.func48, Try.ntmps48
    go_wp2_with fail
    refine (HP.out _).mono ?_
    rintro e w1 ⟨rfl, hb1⟩
    go_wp2_with fail
    go_ret
    exact ⟨rfl, hb1⟩
  have h1 := pckR_size hs
  have h2 := putB_size (n := s.size) (by omega)
  have HE : Hid (pckB s = (⟨(put s.size).toArray⟩ : ByteArray) ++ pckR s) := rfl
  generalize pckB s = Z at *
  generalize pckR s = Y at *
  generalize hX : (⟨(put s.size).toArray⟩ : ByteArray) = X at *
  generalize (choS s).length = N at *
  generalize chF (choS s) = F at *
  clear hs hX
  go_enter Try.func25, Try.ntmps25
  go_wp2_with fail
  refine (HC.out _).mono ?_
  rintro e w1 ⟨⟨v, rfl, ha⟩, hb1⟩
  have HA : Hid (ChArg w1 v N F) := ha
  clear ha
  go_wp2_with fail
  refine (HL.out _).mono ?_
  rintro e w2 ⟨rfl, hb2⟩
  have HA2 : Hid (ChArg w2 v N F) := HA.out.below hb2
  have hb2' := bl_trans3 hb1 hb2 hb1.size
  go_wp2_with fail
  refine (HR.out _ _ HA2.out).mono ?_
  rintro e w3 ⟨rfl, hb3⟩
  go_wp2_with fail
  go_ret2
  exact ⟨by rw [HE.out]; first | rfl | simp, bl_trans3 hb2' hb3 hb2'.size⟩
set_option maxRecDepth 100000 in
set_option maxHeartbeats 600000 in
theorem pack_yes (s : ByteArray) (w : World) (hs : s.size ≤ 4000) :
    Calls Try.prog 11 #[.string s] w fun e w' => e = .returned (.tuple #[.string (pckB s), .bool true]) ∧ Below w.heap.size w w' := by
  have HC : Hid (∀ w, Calls Try.prog 31 #[.string s] w fun e w' => (∃ v, e = .returned (.tuple #[v, .bool true]) ∧ ChArg w' v (choS s).length (chF (choS s))) ∧ Below w.heap.size w w') := fun w => (choices_any s w hs).mono (by rintro e w' ⟨⟨v, rfl, h⟩, hb⟩; exact ⟨⟨v, rfl, own_chArg h⟩, hb⟩)
  have HR : Hid (∀ v w, ChArg w v (choS s).length (chF (choS s)) → Calls Try.prog 32 #[v] w fun e w' => e = .returned (.tuple #[.string (pckR s), .bool true]) ∧ Below w.heap.size w w') := fun v w h => by
    have h2 := encode_any v _ _ w h
    obtain ⟨e1, e2⟩ := encAns_yes (choS_chOk hs)
    rw [e1, e2, chL_chF] at h2
    exact h2
  have HL : Hid (∀ w, Calls Try.prog 33 #[.int .u64 (s.size : Int)] w fun e w' => e = .returned (.string (⟨(put s.size).toArray⟩ : ByteArray)) ∧ Below w.heap.size w w') := fun w => cput_any s.size w (by omega)
  have hw : IntKind.u64.wrap (s.size : Int) = (s.size : Int) := by rw [IntKind.wrap_u64]; omega
  have h1 := pckR_size hs
  have h2 := putB_size (n := s.size) (by omega)
  have HE : Hid (pckB s = (⟨(put s.size).toArray⟩ : ByteArray) ++ pckR s) := rfl
  generalize pckB s = Z at *
  generalize pckR s = Y at *
  generalize hX : (⟨(put s.size).toArray⟩ : ByteArray) = X at *
  generalize (choS s).length = N at *
  generalize chF (choS s) = F at *
  clear hs hX
  go_enter Try.func11, Try.ntmps11
  go_wp2_with fail
  refine (HC.out _).mono ?_
  rintro e w1 ⟨⟨v, rfl, ha⟩, hb1⟩
  have HA : Hid (ChArg w1 v N F) := ha
  clear ha
  go_wp2_with fail
  refine (HR.out _ _ HA.out).mono ?_
  rintro e w2 ⟨rfl, hb2⟩
  have hb2' := bl_trans3 hb1 hb2 hb1.size
  go_wp2_with fail
  refine (HL.out _).mono ?_
  rintro e w3 ⟨rfl, hb3⟩
  go_wp2_with fail
  go_ret2
  exact ⟨by rw [HE.out]; first | rfl | simp, bl_trans3 hb2' hb3 hb2'.size⟩
set_option maxRecDepth 100000 in
theorem spack_no (s : ByteArray) (w : World) (hs : ¬ s.size ≤ 4000) :
    Calls Try.prog 25 #[.string s] w fun e w' => e = .returned (.tuple #[.string ⟨#[]⟩, .bool false]) ∧ w' = w := by
  have H : Hid (∀ w, _) := fun w => schoices_no s w hs
  clear hs
  go_enter Try.func25, Try.ntmps25
  go_wp2_with fail
  refine (H.out _).mono ?_
  rintro e w1 ⟨rfl, rfl⟩
  go_wp2_with fail
  go_ret2
  exact ⟨rfl, rfl⟩
set_option maxRecDepth 100000 in
theorem pack_no (s : ByteArray) (w : World) (hs : ¬ s.size ≤ 4000) :
    Calls Try.prog 11 #[.string s] w fun e w' => e = .returned (.tuple #[.string ⟨#[]⟩, .bool false]) ∧ w' = w := by
  have H : Hid (∀ w, _) := fun w => choices_no s w hs
  clear hs
  go_enter Try.func11, Try.ntmps11
  go_wp2_with fail
  refine (H.out _).mono ?_
  rintro e w1 ⟨rfl, rfl⟩
  go_wp2_with fail
  go_ret2
  exact ⟨rfl, rfl⟩
end Go.Proofs.Ytibciflmalfbjaa

/-!   What was coded, and the coder that reads it from the beginning. -/
namespace Go.Proofs.Ytibciflmalfbjaa
set_option linter.unusedVariables false
theorem bsOf_bl {S : ByteArray} {i : Nat} (h : i < S.size) : (bl S)[i]? = some (bsOf S i) := by
  have h2 : i < S.data.toList.length := by rw [← Lib.size_eq]; exact h
  unfold bl
  rw [List.getElem?_map, List.getElem?_eq_getElem h2]
  have hb := bsOf_at S i h
  have e : S.data.toList[i] = S[i] := rfl
  rw [e]
  simp only [Option.map_some, Option.some.injEq]
  omega
theorem bl_rest (S : ByteArray) (k : Nat) : bl (S.extract k S.size) = (bl S).drop k := by
  unfold bl
  rw [Lib.extract_to_end, List.map_drop]
theorem bl_len (S : ByteArray) : (bl S).length = S.size := by unfold bl; rw [List.length_map, ← Lib.size_eq]
theorem val_bigL (n : Nat) (h : n < 4294967296) : val ((bigL n 4).map (·.toNat)) = n ∧ (bigL n 4).length = 4 := by
  have e : bigL n 4 = [UInt8.ofNat (n / 256 / 256 / 256), UInt8.ofNat (n / 256 / 256), UInt8.ofNat (n / 256), UInt8.ofNat n] := rfl
  rw [e]
  refine ⟨?_, rfl⟩
  simp only [List.map_cons, List.map_nil, UInt8.toNat_ofNat', val, List.length_cons, List.length_nil]
  omega
theorem encB_bl (s : RS) (h : s.Fine) : bl (encB s) = s.out ++ (bigL (s.low % 4294967296) 4).map (·.toNat) := by
  unfold encB bl
  have e : ((⟨(s.out.map UInt8.ofNat).toArray⟩ ++ ⟨(bigL (s.low % 4294967296) 4).toArray⟩ : ByteArray)).data.toList = s.out.map UInt8.ofNat ++ bigL (s.low % 4294967296) 4 := by simp
  rw [e, List.map_append, List.map_map]
  congr 1
  have : ∀ l : List Nat, (∀ x ∈ l, x < 256) → l.map ((fun x => x.toNat) ∘ UInt8.ofNat) = l := by
    intro l hl
    induction l with
    | nil => rfl
    | cons a l ih =>
      rw [List.map_cons, ih (fun x hx => hl x (List.mem_cons_of_mem _ hx))]
      have ha := hl a (List.mem_cons_self ..)
      congr 1
      simp; omega
  exact this _ h.outs
theorem val_enc (s : RS) (h : s.Fine) : val (bl (encB s)) = s.N ∧ (bl (encB s)).length = s.out.length + 4 := by
  obtain ⟨h1, h2⟩ := val_bigL (s.low % 4294967296) (by omega)
  rw [encB_bl s h]
  refine ⟨?_, by rw [List.length_append, List.length_map, h2]⟩
  rw [val_append, List.length_map, h2, h1]
  unfold RS.N
  omega
/-- the coder that reads, behind the first choices -/
def dq (S : ByteArray) (F : Nat → Int × Int) : Nat → DS
  | 0 => DS.start (code0 S) (bl (rest0 S))
  | i + 1 => (dq S F i).go (F i).1.toNat
set_option maxRecDepth 100000 in
theorem dq_fine (S : ByteArray) (F : Nat → Int × Int) (i : Nat) : (dq S F i).Fine := by
  induction i with
  | zero => exact DS.start_fine (pt4_lt (bsOf_lt _) 0) (bl_lt _)
  | succ i ih => exact ih.go _
theorem okC_ch {F : Nat → Int × Int} {n : Nat} (h : ∀ i, i < n → okCh (F i)) : OkC (chL F n) := by
  intro c hc
  obtain ⟨j, hj, rfl⟩ := List.mem_map.1 hc
  obtain ⟨⟨h1, h2⟩, h3⟩ := h j (List.mem_range.1 hj)
  exact ⟨by show (F j).1.toNat < 512; omega, by show (F j).2.toNat = 0 ∨ (F j).2.toNat = 1; omega⟩
theorem chL_take (F : Nat → Int × Int) (n k : Nat) (h : k ≤ n) : chL F n = chL F k ++ (chL F n).drop k := by
  have e : (chL F n).take k = chL F k := by
    unfold chL
    rw [← List.map_take, List.take_range, Nat.min_eq_left h]
  rw [← e, List.take_append_drop]
set_option maxRecDepth 100000 in
theorem five_val {l : List Nat} (h : l.length = 5) (hb : ∀ x ∈ l, x < 256) (hv : val l < 4294967296) : ∃ b1 b2 b3 b4, l = [0, b1, b2, b3, b4] ∧ val l = ((b1 * 256 + b2) * 256 + b3) * 256 + b4 := by
  match l, h with
  | [b0, b1, b2, b3, b4], _ =>
    have e : val [b0, b1, b2, b3, b4] = b0 * 4294967296 + (((b1 * 256 + b2) * 256 + b3) * 256 + b4) := by
      simp only [val, List.length_cons, List.length_nil]; omega
    have : b0 = 0 := by omega
    subst this
    exact ⟨b1, b2, b3, b4, rfl, by rw [e, Nat.zero_mul, Nat.zero_add]⟩
set_option maxRecDepth 100000 in
theorem enc_start (F : Nat → Int × Int) (n : Nat) (hok : ∀ i, i < n → okCh (F i)) :
    startOk (encB (RS.start.run (chL F n))) ∧ At (val (bl (encB (RS.start.run (chL F n))))) (bl (encB (RS.start.run (chL F n)))) RS.start (code0 (encB (RS.start.run (chL F n)))) (bl (rest0 (encB (RS.start.run (chL F n))))) := by
  have hs0 : 16777216 ≤ RS.start.width := by show 16777216 ≤ 4294967295; omega
  obtain ⟨hf, hw⟩ := run_fine RS.start_fine hs0 (chL F n)
  obtain ⟨k, hk⟩ := sub_run RS.start_fine hs0 (okC_ch hok)
  obtain ⟨hv, hl⟩ := val_enc _ hf
  generalize RS.start.run (chL F n) = t at *
  obtain ⟨c, hA⟩ := at_of_sub (Y := bl (encB t)) hk (by omega) hl hv
  have ho : RS.start.out.length = 1 := rfl
  have hN : RS.start.N = 0 := by unfold RS.N; rw [show RS.start.out = [0] from rfl]; rfl
  rw [ho] at hA
  have hle := hA.le
  have hn := hA.n
  have hlt := hA.lt
  rw [ho] at hle hn
  rw [hN, Nat.zero_add] at hn
  have hlt2 : c < 4294967295 := hlt
  clear hlt ho hN
  generalize encB t = S at *
  have hb := bl_lt S
  have hsz := bl_len S
  have e1 : bl S = (bl S).take 5 ++ (bl S).drop 5 := (List.take_append_drop 5 _).symm
  have e2 : val (bl S) = val ((bl S).take 5) * 256 ^ ((bl S).length - 5) + val ((bl S).drop 5) := by
    have : val (bl S) = val ((bl S).take 5 ++ (bl S).drop 5) := by rw [← e1]
    rw [this, val_append, List.length_drop]
  have hr : val ((bl S).drop 5) < 256 ^ ((bl S).length - 5) := by
    have := val_lt ((bl S).drop 5) (fun x hx => hb x (List.mem_of_mem_drop hx))
    rwa [List.length_drop] at this
  have hc : val ((bl S).take 5) = c := by
    rw [← hn, e2]
    have hp : 0 < 256 ^ ((bl S).length - 5) := Nat.pow_pos (by omega)
    rw [Nat.add_comm, Nat.add_mul_div_right _ _ hp, Nat.div_eq_of_lt hr]; omega
  obtain ⟨b1, b2, b3, b4, e3, e4⟩ := five_val (l := (bl S).take 5) (by rw [List.length_take]; omega) (fun x hx => hb x (List.mem_of_mem_take hx)) (by omega)
  have hat : ∀ i, i < 5 → bsOf S i = ([0, b1, b2, b3, b4] : List Nat).getD i 0 := fun i hi => by
    have h1 := bsOf_bl (S := S) (i := i) (by omega)
    have h2 : ((bl S).take 5)[i]? = (bl S)[i]? := by rw [List.getElem?_take, if_pos hi]
    rw [e3, h1] at h2
    rw [List.getD_eq_getElem?_getD, h2]; rfl
  have hx : ∀ i, i < 4 → bsOf (S.extract 1 S.size) i = bsOf S (i + 1) := fun i hi => by
    have h1 := bsOf_bl (S := S.extract 1 S.size) (i := i) (by rw [ByteArray.size_extract]; omega)
    have h2 := bsOf_bl (S := S) (i := i + 1) (by omega)
    rw [bl_rest, List.getElem?_drop, Nat.add_comm 1 i, h2] at h1
    exact (Option.some.inj h1).symm
  have hcode : code0 S = c := by
    unfold code0
    have e : pt (bsOf (S.extract 1 S.size)) 0 4 = ((bsOf (S.extract 1 S.size) 0 * 256 + bsOf (S.extract 1 S.size) 1) * 256 + bsOf (S.extract 1 S.size) 2) * 256 + bsOf (S.extract 1 S.size) 3 := by
      simp [pt]
    rw [e, hx 0 (by omega), hx 1 (by omega), hx 2 (by omega), hx 3 (by omega), hat 1 (by omega), hat 2 (by omega), hat 3 (by omega), hat 4 (by omega), ← hc, e4]
    rfl
  have hrest : bl (rest0 S) = (bl S).drop 5 := by unfold rest0; exact bl_rest S 5
  refine ⟨⟨by omega, by rw [hat 0 (by omega)]; rfl⟩, ?_⟩
  rw [hcode, hrest]
  exact hA
/-- he reads what was written, choice by choice -/
theorem dq_at (F : Nat → Int × Int) (n : Nat) (hok : ∀ i, i < n → okCh (F i)) (S : ByteArray) (hS : S = encB (RS.start.run (chL F n))) : ∀ i, i ≤ n →
    (∃ c r, At (val (bl S)) (bl S) (RS.start.run (chL F i)) c r ∧ dq S F i = ⟨(RS.start.run (chL F i)).width, c, (RS.start.run (chL F i)).probs, r⟩) ∧
    (∀ j, j < i → (dq S F j).ok (F j).1.toNat = true ∧ (dq S F j).tell (F j).1.toNat = (F j).2.toNat) := by
  intro i
  induction i with
  | zero =>
    intro _
    refine ⟨⟨code0 S, bl (rest0 S), by rw [hS]; exact (enc_start F n hok).2, rfl⟩, fun j hj => absurd hj (by omega)⟩
  | succ i ih =>
    intro hi
    obtain ⟨⟨c, r, hA, hD⟩, hT⟩ := ih (by omega)
    obtain ⟨hf, hw⟩ := run_fine RS.start_fine (by decide) (chL F i)
    obtain ⟨hft, hwt⟩ := run_fine RS.start_fine (by decide) (chL F n)
    obtain ⟨hv, hl⟩ := val_enc _ hft
    rw [← hS] at hv hl
    have hO := okC_ch hok
    have e1 : RS.start.run (chL F n) = (RS.start.run (chL F (i + 1))).run ((chL F n).drop (i + 1)) := by rw [← run_append, ← chL_take F n (i + 1) hi]
    obtain ⟨hf2, hw2⟩ := run_fine RS.start_fine (by decide) (chL F (i + 1))
    obtain ⟨k, hk⟩ := sub_run hf2 hw2 (l := (chL F n).drop (i + 1)) (fun d hd => hO d (List.mem_of_mem_drop hd))
    rw [← e1, run_succ] at hk
    obtain ⟨⟨h1, h2⟩, h3⟩ := hok i (by omega)
    obtain ⟨c', r', a', t', o', g'⟩ := at_go rfl (bl_lt S) hA hf hw (by omega : (F i).2.toNat = 0 ∨ (F i).2.toNat = 1) hk (by omega) hl hv
    rw [← hD] at t' o' g'
    refine ⟨⟨c', r', by rw [run_succ]; exact a', by rw [run_succ]; exact g'⟩, fun j hj => ?_⟩
    by_cases e : j = i
    · subst e; exact ⟨o', t'⟩
    · exact hT j (by omega)
end Go.Proofs.Ytibciflmalfbjaa

/-!   What was packed is made again: as plain mathematics. -/
namespace Go.Proofs.Ytibciflmalfbjaa
open Go.RowKit
set_option linter.unusedVariables false
theorem treeN_all (v : Nat) : ∀ k nd, treeN v k nd = nd * 2 ^ k + v % 2 ^ k
  | 0, nd => by simp [treeN, Nat.mod_one]
  | k + 1, nd => by
    show treeN v k (2 * nd + v / 2 ^ k % 2) = _
    rw [treeN_all v k, Nat.mod_pow_succ, Nat.pow_succ, Nat.add_mul]
    have e1 : 2 * nd * 2 ^ k = nd * (2 ^ k * 2) := by rw [Nat.mul_comm 2 nd, Nat.mul_assoc, Nat.mul_comm 2]
    rw [e1, Nat.mul_comm (v / 2 ^ k % 2)]
    omega
/-- who reads these choices, one by one -/
def Reads (Q : Nat → DS × Bool) (L : List (Nat × Nat)) : Prop := ∀ j c b t, L[j]? = some (c, b) → bitR (Q j) c t = b ∧ nxtR (Q j) c t = Q (j + 1)
theorem rdT {Q : Nat → DS × Bool} {L : List (Nat × Nat)} (H : Reads Q L) (f v : Nat) (z : Int) : ∀ (k nd j : Nat), (∀ i, i < k → L[j + i]? = (treeL f v k nd)[i]?) → thT bitR nxtR f z k nd (Q j) = (Q (j + k), treeN v k nd)
  | 0, nd, j, _ => rfl
  | k + 1, nd, j, h => by
    have h0 : L[j]? = some (f + nd, v / 2 ^ k % 2) := by have := h 0 (by omega); simpa [treeL] using this
    obtain ⟨e1, e2⟩ := H j _ _ (tvT z k) h0
    show thT bitR nxtR f z k (2 * nd + bitR (Q j) (f + nd) (tvT z k)) (nxtR (Q j) (f + nd) (tvT z k)) = _
    rw [e1, e2, rdT H f v z k (2 * nd + v / 2 ^ k % 2) (j + 1) (fun i hi => by
      have := h (i + 1) (by omega)
      rw [show j + (i + 1) = j + 1 + i by omega] at this
      rw [this]; simp [treeL])]
    rw [show j + 1 + k = j + (k + 1) by omega]
    rfl
def TkEx (t : TkN) : Prop := (t.k = 0 ∧ t.b < 256 ∧ t.d = 0 ∧ t.l = 0) ∨ (t.k = 1 ∧ t.b = 0 ∧ 1 ≤ t.d ∧ t.d ≤ 4096 ∧ 3 ≤ t.l ∧ t.l ≤ 66)
theorem rdTok {Q : Nat → DS × Bool} {L : List (Nat × Nat)} (H : Reads Q L) (a : Nat) (t : TkN) (ht : TkEx t) (j : Nat) (h : ∀ i, i < (tokCh a t).length → L[j + i]? = (tokCh a t)[i]?) : mkTok (Q j) a = (Q (j + (tokCh a t).length), t) := by
  obtain ⟨k, b, d, l⟩ := t
  rcases ht with ⟨h1, h2, h3, h4⟩ | ⟨h1, h2, h3, h4, h5, h6⟩
  · simp only at h1 h2 h3 h4
    subst h1; subst h3; subst h4
    have e : tokCh a ⟨0, b, 0, 0⟩ = (a, 0) :: treeL 1 b 8 1 := by unfold tokCh; rw [if_pos rfl]
    rw [e] at h ⊢
    have hl : ((a, 0) :: treeL 1 b 8 1).length = 9 := by rw [List.length_cons, treeL_len]
    rw [hl] at h ⊢
    obtain ⟨e1, e2⟩ := H j a 0 0 (by have := h 0 (by omega); simpa using this)
    unfold mkTok thTok
    rw [e1, e2, if_pos rfl, rdT H 1 b 0 8 1 (j + 1) (fun i hi => by
      have := h (i + 1) (by omega)
      rw [show j + (i + 1) = j + 1 + i by omega] at this
      rw [this]; simp), treeN_all, Nat.mod_eq_of_lt (by simpa using h2)]
    simp [Nat.add_assoc]
  · simp only at h1 h2 h3 h4 h5 h6
    subst h1; subst h2
    have e : tokCh a ⟨1, 0, d, l⟩ = (a, 1) :: (treeL 260 (l - 3) 6 1 ++ treeL 330 ((d - 1) / 64) 6 1 ++ treeL 400 ((d - 1) % 64) 6 1) := by unfold tokCh; rw [if_neg (show ¬ (1 : Nat) = 0 by decide)]
    rw [e] at h ⊢
    have hl : ((a, 1) :: (treeL 260 (l - 3) 6 1 ++ treeL 330 ((d - 1) / 64) 6 1 ++ treeL 400 ((d - 1) % 64) 6 1)).length = 19 := by simp [treeL_len]
    rw [hl] at h ⊢
    obtain ⟨e1, e2⟩ := H j a 1 0 (by have := h 0 (by omega); simpa using this)
    have hA : ∀ i, i < 6 → L[j + 1 + i]? = (treeL 260 (l - 3) 6 1)[i]? := fun i hi => by
      have := h (i + 1) (by omega)
      rw [show j + (i + 1) = j + 1 + i by omega] at this
      rw [this, List.getElem?_cons_succ, List.append_assoc, List.getElem?_append_left (by rw [treeL_len]; exact hi)]
    have hB : ∀ i, i < 6 → L[j + 1 + 6 + i]? = (treeL 330 ((d - 1) / 64) 6 1)[i]? := fun i hi => by
      have := h (i + 7) (by omega)
      rw [show j + (i + 7) = j + 1 + 6 + i by omega] at this
      rw [this, show i + 7 = (i + 6) + 1 by omega, List.getElem?_cons_succ, List.append_assoc, List.getElem?_append_right (by rw [treeL_len]; omega), treeL_len, show i + 6 - 6 = i by omega, List.getElem?_append_left (by rw [treeL_len]; exact hi)]
    have hC : ∀ i, i < 6 → L[j + 1 + 6 + 6 + i]? = (treeL 400 ((d - 1) % 64) 6 1)[i]? := fun i hi => by
      have := h (i + 13) (by omega)
      rw [show j + (i + 13) = j + 1 + 6 + 6 + i by omega] at this
      rw [this, show i + 13 = (i + 12) + 1 by omega, List.getElem?_cons_succ, List.getElem?_append_right (by simp [treeL_len]), List.length_append, treeL_len, treeL_len, show i + 12 - (6 + 6) = i by omega]
    unfold mkTok thTok
    rw [e1, e2, if_neg (show ¬ (1 : Nat) = 0 by decide)]
    simp only [rdT H 260 (l - 3) _ 6 1 (j + 1) hA, rdT H 330 ((d - 1) / 64) _ 6 1 (j + 1 + 6) hB, rdT H 400 ((d - 1) % 64) _ 6 1 (j + 1 + 6 + 6) hC, treeN_all]
    rw [Nat.mod_eq_of_lt (show l - 3 < 2 ^ 6 by omega), Nat.mod_eq_of_lt (show (d - 1) / 64 < 2 ^ 6 by omega), Nat.mod_eq_of_lt (show (d - 1) % 64 < 2 ^ 6 by omega)]
    have q1 : (1 * 2 ^ 6 + (d - 1) / 64 - 2 ^ 6) * 64 + (1 * 2 ^ 6 + (d - 1) % 64 - 2 ^ 6) + 1 = d := by omega
    have q2 : 1 * 2 ^ 6 + (l - 3) - 2 ^ 6 + 3 = l := by omega
    rw [q1, q2]
theorem tkG_ex {s : ByteArray} (hs : s.size ≤ 4000) (i : Nat) (h : i < (tkL s).length) : TkEx (tkG s i) ∧ tokP ((tkG s i).k : Int) ((tkG s i).b : Int) ((tkG s i).d : Int) ((tkG s i).l : Int) ((bytesL s (atS s i)).length : Int) ∧ tkOut (bytesL s (atS s i)) ⟨((tkG s i).k : Int), ((tkG s i).b : Int), ((tkG s i).d : Int), ((tkG s i).l : Int)⟩ = bytesL s (atS s (i + 1)) ∧ atS s i < s.size := by
  obtain ⟨q1, q2, q3⟩ := (tkL_shape s).1 i h
  have e : tkG s i = tokAt s (atS s i) := by unfold tkG; rw [List.getD_eq_getElem?_getD, q2]; rfl
  obtain ⟨h0, h2⟩ := tok_ok hs q1
  rw [← e] at h0 h2
  rw [q3, bytesL_len]
  refine ⟨?_, h0, h2, q1⟩
  obtain ⟨_, h1⟩ := h0
  generalize tkG s i = t at h1
  obtain ⟨k, b, d, l⟩ := t
  simp only [tkI] at h1
  unfold TkEx
  show (k = 0 ∧ b < 256 ∧ d = 0 ∧ l = 0) ∨ (k = 1 ∧ b = 0 ∧ 1 ≤ d ∧ d ≤ 4096 ∧ 3 ≤ l ∧ l ≤ 66)
  rcases h1 with ⟨h1, h2, h3, h4⟩ | ⟨h1, h2, h3, h4, _, h5, h6⟩
  · exact Or.inl ⟨by omega, by omega, by omega, by omega⟩
  · exact Or.inr ⟨by omega, by omega, by omega, by omega, by omega, by omega⟩
theorem choUp_pre (G : Nat → TkN) (i : Nat) : ∀ m, ∃ r, (choUp G (i + m)).1 = (choUp G i).1 ++ r
  | 0 => ⟨[], by simp⟩
  | m + 1 => by
    obtain ⟨r, hr⟩ := choUp_pre G i m
    exact ⟨r ++ tokCh (choUp G (i + m)).2 (G (i + m)), by show (choUp G (i + m)).1 ++ _ = _; rw [hr, List.append_assoc]; rfl⟩
theorem run_made {s : ByteArray} (hs : s.size ≤ 4000) {Q : Nat → DS × Bool} (H : Reads Q (choS s)) (hQ : ∀ j, (Q j).2 = true) : ∀ (m i k : Nat), i + m = (tkL s).length → s.size ≤ atS s i + k →
    mkRun s.size k (Q (choUp (tkG s) i).1.length) (choUp (tkG s) i).2 (bytesL s (atS s i)) = some (bytesL s s.size)
  | 0, i, k, hi, hk => by
    have e : atS s i = s.size := by rw [show i = (tkL s).length by omega]; exact (tkL_shape s).2.1
    rw [e, mkRun_enough (by rw [bytesL_len]; exact Nat.le_refl _)]
  | m + 1, i, k, hi, hk => by
    obtain ⟨g1, g2, g3, g4⟩ := tkG_ex hs i (by omega)
    obtain ⟨k, rfl⟩ : ∃ q, k = q + 1 := ⟨k - 1, by omega⟩
    have hp : ∀ x, x < (tokCh (choUp (tkG s) i).2 (tkG s i)).length → (choS s)[(choUp (tkG s) i).1.length + x]? = (tokCh (choUp (tkG s) i).2 (tkG s i))[x]? := fun x hx => by
      obtain ⟨r, hr⟩ := choUp_pre (tkG s) (i + 1) m
      have e : choS s = ((choUp (tkG s) i).1 ++ tokCh (choUp (tkG s) i).2 (tkG s i)) ++ r := by
        unfold choS; rw [← hi, show i + (m + 1) = i + 1 + m by omega, hr]; rfl
      rw [e, List.append_assoc, List.getElem?_append_right (by omega), show (choUp (tkG s) i).1.length + x - (choUp (tkG s) i).1.length = x by omega, List.getElem?_append_left hx]
    have hT := rdTok H (choUp (tkG s) i).2 (tkG s i) g1 (choUp (tkG s) i).1.length hp
    have hst : mkStep (Q (choUp (tkG s) i).1.length) (choUp (tkG s) i).2 (bytesL s (atS s i)) = some (Q ((choUp (tkG s) i).1.length + (tokCh (choUp (tkG s) i).2 (tkG s i)).length), (tkG s i).k, bytesL s (atS s (i + 1))) := by
      unfold mkStep
      rw [hT]
      simp only []
      rw [if_pos ⟨hQ _, g2⟩, g3]
    rw [mkRun_some (by rw [bytesL_len]; exact g4) hst]
    have e2 : (choUp (tkG s) i).1.length + (tokCh (choUp (tkG s) i).2 (tkG s i)).length = (choUp (tkG s) (i + 1)).1.length := by
      show _ = ((choUp (tkG s) i).1 ++ tokCh (choUp (tkG s) i).2 (tkG s i)).length
      rw [List.length_append]
    rw [e2]
    have hat : atS s i < atS s (i + 1) := by
      obtain ⟨q1, q2, q3⟩ := (tkL_shape s).1 i (by omega)
      have := tkOut_more (t := ⟨((tkG s i).k : Int), ((tkG s i).b : Int), ((tkG s i).d : Int), ((tkG s i).l : Int)⟩) g2
      rw [g3, bytesL_len, bytesL_len] at this
      exact this
    exact run_made hs H hQ m (i + 1) k (by omega) (by omega)
/-- what was packed is made again -/
theorem made_pack {s : ByteArray} (hs : s.size ≤ 4000) : made (pckR s) s.size = some (bytesL s s.size) := by
  have hok := (choS_chOk hs).2
  have hst := (enc_start (chF (choS s)) (choS s).length hok).1
  rw [chL_chF] at hst
  have hT := (dq_at (chF (choS s)) (choS s).length hok (pckR s) (by rw [chL_chF]; rfl) (choS s).length (Nat.le_refl _)).2
  have H : Reads (fun j => (dq (pckR s) (chF (choS s)) j, true)) (choS s) := fun j c b t hj => by
    obtain ⟨hl, hg⟩ := List.getElem?_eq_some_iff.1 hj
    obtain ⟨o1, o2⟩ := hT j hl
    rw [chF_at hl, hg] at o1 o2
    simp only [Int.toNat_natCast] at o1 o2
    refine ⟨o2, ?_⟩
    show ((dq (pckR s) (chF (choS s)) j).go c, true && (dq (pckR s) (chF (choS s)) j).ok c) = ((dq (pckR s) (chF (choS s)) j).go (chF (choS s) j).1.toNat, true)
    rw [o1, chF_at hl, hg]; rfl
  unfold made
  rw [if_pos (show startOk (pckR s) from hst)]
  exact run_made hs H (fun _ => rfl) (tkL s).length 0 s.size (by omega) (by omega)
end Go.Proofs.Ytibciflmalfbjaa

/-!   What was packed comes back: the code's Unpack. -/
namespace Go.Proofs.Ytibciflmalfbjaa
open Go.RowKit
set_option linter.unusedVariables false
set_option linter.unusedSimpArgs false



set_option maxRecDepth 100000 in
set_option maxHeartbeats 1000000 in
theorem unpack_pack (s : ByteArray) (w : World) (hs : s.size ≤ 4000) :
    Calls Try.prog 8 #[.string (pckB s)] w fun e w' => e = .returned (.tuple #[.string s, .bool true]) ∧ Below w.heap.size w w' := by
  have h1 := pckR_size hs
  have h2 := putB_size (n := s.size) (by omega)
  have hps : (pckB s).size ≤ 72015 := by unfold pckB; rw [ByteArray.size_append]; omega
  obtain ⟨u, hu⟩ : ∃ u, u = (put s.size).length := ⟨_, rfl⟩
  have hu1 : 1 ≤ u := by rw [hu]; exact put_pos _
  have hu2 : u ≤ (pckB s).size := by
    unfold pckB; rw [ByteArray.size_append, hu]
    have : (⟨(put s.size).toArray⟩ : ByteArray).size = (put s.size).length := by show (put s.size).toArray.size = _; simp
    omega
  have HRN : Hid (∀ w, Calls Try.prog 26 #[.string (pckB s)] w fun e w' => e = .returned (.tuple #[.int .u64 (s.size : Int), .int .i64 (u : Int)]) ∧ w' = w) := fun w => by
    have h := read_any (pckB s) w (by unfold maxLen; omega)
    rw [numOut_some (show num (pckB s) = some ((s.size : Int), (put s.size).length) from num_put s.size (by omega) (pckR s)), ← hu] at h
    exact h
  have hext : (pckB s).extract u (pckB s).size = pckR s := by rw [hu]; exact ext_tail2 _ _
  have HMD : Hid (∀ w, Calls Try.prog 27 #[.string (pckR s), .int .i64 (s.size : Int)] w fun e w' => e = .returned (.tuple #[.string s, .bool true]) ∧ Below w.heap.size w w') := fun w => by
    have h := madeBy_any (pckR s) s.size w hs (by omega)
    rw [made_pack hs] at h
    have e : unAns (some (bytesL s s.size)) = .tuple #[.string s, .bool true] := by show Value.tuple #[.string (strL (bytesL s s.size)), .bool true] = _; rw [strL_bytes]
    rw [e] at h
    exact h
  have HPK : Hid (∀ w, Calls Try.prog 11 #[.string s] w fun e w' => e = .returned (.tuple #[.string (pckB s), .bool true]) ∧ Below w.heap.size w w') := fun w => pack_yes s w hs
  have hw : IntKind.i64.wrap (s.size : Int) = (s.size : Int) := by rw [IntKind.wrap_i64]; omega
  have hub : ((u : Int) == 0) = false := by simp; omega
  have hdb : decide ((4000 : Int) < (s.size : Int)) = false := by simp; omega
  have huI : (u : Int) ≤ ((pckB s).size : Int) := by omega
  generalize pckR s = R at *
  generalize pckB s = P at *
  clear hs hu
  go_enter Try.func8, Try.ntmps8
  go_wp2_with fail
  refine (HRN.out _).mono ?_
  rintro e w1 ⟨rfl, hw1⟩
  subst w1
  go_wp2_with fail
  refine (HMD.out _).mono ?_
  rintro e w2 ⟨rfl, hb2⟩
  go_wp2_with fail
  refine (HPK.out _).mono ?_
  rintro e w3 ⟨rfl, hb3⟩
  go_wp2_with fail
  go_ret2
  exact ⟨rfl, bl_trans3 hb2 hb3 hb2.size⟩
end Go.Proofs.Ytibciflmalfbjaa
