/-
  Several texts of this seat as one: NoteK, ThrN, ThrB.
-/
import Derived.Test.YtbkjcngehhdchaaPk10
import Derived.Test.YtbkjcngehhdchaaPk05
import Derived.Test.YtbkjcngehhdchaaPk04
import Derived.BigRegion

/-!   A number in a tree, bit by bit, whoever tells the bits. -/
namespace Go.Proofs.Ytbkjcngehhdchaa
open Go.RowKit
set_option linter.unusedVariables false
def nIntT : Value → Int | .int _ q => q | _ => 0
/-- the bit of a number -/
def tvT (v : Int) (k : Nat) : Nat := (v / (2 : Int) ^ k % 2).toNat
def thT {σ : Type} (bit : σ → Nat → Nat → Nat) (nxt : σ → Nat → Nat → σ) (f : Nat) (v : Int) : Nat → Nat → σ → σ × Nat
  | 0, nd, s => (s, nd)
  | k + 1, nd, s => thT bit nxt f v k (2 * nd + bit s (f + nd) (tvT v k)) (nxt s (f + nd) (tvT v k))
theorem div_bd {v : Int} (h1 : -4611686018427387904 ≤ v) (h2 : v < 4611686018427387904) (j : Nat) : -4611686018427387904 ≤ v / (2 : Int) ^ j ∧ v / (2 : Int) ^ j < 4611686018427387904 := by
  have hp : (1 : Int) ≤ (2 : Int) ^ j := by
    have : 0 < (2 : Int) ^ j := Int.pow_pos (by decide)
    omega
  generalize (2 : Int) ^ j = P at hp
  constructor
  · rw [Int.le_ediv_iff_mul_le (by omega)]
    omega
  · rw [Int.ediv_lt_iff_lt_mul (by omega)]
    omega
theorem i64_and1 (n : Int) (h1 : -9223372036854775808 ≤ n) (h2 : n < 9223372036854775808) : bits .and .i64 n 1 = n % 2 := by
  have h32 : (BitVec.ofInt 64 1).toNat = 2 ^ 1 - 1 := by decide
  have key : (BitVec.ofInt 64 n &&& BitVec.ofInt 64 1).toNat = (n % ((2 ^ 64 : Nat) : Int)).toNat % 2 ^ 1 := by
    rw [BitVec.toNat_and, BitVec.toNat_ofInt, h32, Nat.and_two_pow_sub_one_eq_mod]
  show IntKind.i64.wrap ((BitVec.ofInt 64 n &&& BitVec.ofInt 64 1).toNat : Nat) = n % 2
  rw [key, IntKind.wrap_i64]
  omega
end Go.Proofs.Ytbkjcngehhdchaa

/-!   The code's way through the bits of a token, by a closure that is handed on. -/
namespace Go.Proofs.Ytbkjcngehhdchaa
open Go.RowKit
set_option linter.unusedVariables false
set_option linter.unusedSimpArgs false
set_option maxRecDepth 100000 in
set_option maxHeartbeats 1000000 in
theorem ntree_any {σ : Type} (PS : World → σ → (Nat → Prop) → Prop) (bit : σ → Nat → Nat → Nat) (nxt : σ → Nat → Nat → σ) (sz : σ → Nat) (lim : Nat) (bx : Nat)
    (hP : ∀ w s D c t, PS w s D → sz s ≤ lim → c < 512 → t < 2 → Calls Try.prog 78 #[.int .i64 ((c : Nat) : Int), .int .i64 ((t : Nat) : Int), .pointer (some ⟨bx, 0, none⟩)] w fun e w' => e = .returned (.int .i64 ((bit s c t : Nat) : Int)) ∧ ∃ D', PS w' (nxt s c t) D' ∧ Kpt D w D' w')
    (hB : ∀ s c t, t < 2 → bit s c t < 2) (hS : ∀ w w' s D, PS w s D → (∀ k, D k → w'.heap[k]? = w.heap[k]?) → PS w' s D)
    (hZ : ∀ s c t, sz (nxt s c t) ≤ sz s + 1) (p5 f nb : Nat) (fI nbI v : Int) (s : σ) (D : Nat → Prop) (w : World) (hfI : fI = (f : Int)) (hnI : nbI = (nb : Int)) (hnb : nb = 8 ∨ nb = 6) (hf : f ≤ 400 ∧ (nb = 8 → f ≤ 1)) (hv : -4611686018427387904 ≤ v ∧ v < 4611686018427387904) (hps : PS w s D) (hsz : sz s + 8 ≤ lim) (hp5 : w.cell? ⟨p5, 0, none⟩ = some (.func (.func 78) #[] #[.pointer (some ⟨bx, 0, none⟩)])) (hn5 : ¬ D p5) :
    Calls Try.prog 96 #[.int .i64 fI, .int .i64 nbI, .int .i64 v, .pointer (some ⟨p5, 0, none⟩)] w fun e w' => e = .returned (.int .i64 (((thT bit nxt f v nb 1 s).2 - 2 ^ nb : Nat) : Int)) ∧ ∃ D', PS w' (thT bit nxt f v nb 1 s).1 D' ∧ Kpt D w D' w' := by
  have HP : Hid (∀ w s D c t, PS w s D → sz s ≤ lim → c < 512 → t < 2 → Calls Try.prog 78 #[.int .i64 ((c : Nat) : Int), .int .i64 ((t : Nat) : Int), .pointer (some ⟨bx, 0, none⟩)] w fun e w' => e = .returned (.int .i64 ((bit s c t : Nat) : Int)) ∧ ∃ D', PS w' (nxt s c t) D' ∧ Kpt D w D' w') := hP
  have HB : Hid (∀ s c t, t < 2 → bit s c t < 2) := hB
  have HS : Hid (∀ w w' s D, PS w s D → (∀ k, D k → w'.heap[k]? = w.heap[k]?) → PS w' s D) := hS
  obtain ⟨R, hR⟩ : ∃ R, R = thT bit nxt f v nb 1 s := ⟨_, rfl⟩
  have HR : Hid (R = thT bit nxt f v nb 1 s) := hR
  rw [← hR]
  have HPS : Hid (PS w s D) := hps
  have HZ : Hid (∀ s c t, sz (nxt s c t) ≤ sz s + 1) := hZ
  have HSZ : Hid (sz s + 8 ≤ lim) := hsz
  have HP5 : Hid (w.cell? ⟨p5, 0, none⟩ = some (.func (.func 78) #[] #[.pointer (some ⟨bx, 0, none⟩)]) ∧ ¬ D p5) := ⟨hp5, hn5⟩
  have HFB : Hid (nb ≤ 8 ∧ ∀ j d, j < nb → d < 2 ^ (nb - j) → f + d < 512) := by
    rcases hnb with rfl | rfl
    · refine ⟨by omega, fun j d hj hd => ?_⟩
      have := hf.2 rfl
      have : 2 ^ (8 - j) ≤ 2 ^ 8 := Nat.pow_le_pow_right (by omega) (by omega)
      omega
    · refine ⟨by omega, fun j d hj hd => ?_⟩
      have : 2 ^ (6 - j) ≤ 2 ^ 6 := Nat.pow_le_pow_right (by omega) (by omega)
      omega
  have HN : Hid (nb = 8 ∨ nb = 6) := hnb
  have hnb8 : nb ≤ 8 := HFB.out.1
  have hf4 := hf.1
  obtain ⟨hv1, hv2⟩ := hv
  subst hfI
  subst hnI
  clear hP hB hS hR hps hZ hsz hp5 hn5 hnb hf
  go_enter Try.func96, Try.ntmps96
  go_wp2_with fail
  go_loopw [8, 9] (fun x i wr => ∃ (k d : Nat) (s1 : σ) (D1 : Nat → Prop), x = .int .i64 (d : Int) ∧ i = .int .i64 ((k : Int) - 1) ∧ k ≤ nb ∧ d < 2 ^ (nb - k + 1) ∧ 2 ^ (nb - k) ≤ d ∧ Hid (R = thT bit nxt f v k d s1) ∧ Hid (PS wr s1 D1 ∧ Kpt D w D1 wr) ∧ Hid (sz s1 + k ≤ sz s + nb)) (fun _ i _ => (nIntT i + 1).toNat)
  case atStart => exact ⟨nb, 1, s, D, rfl, rfl, Nat.le_refl _, by rw [Nat.sub_self]; decide, by rw [Nat.sub_self]; decide, HR, ⟨HPS.out, Kpt.refl _ _⟩, Nat.le_refl _⟩
  case round =>
    obtain ⟨k, d, s1, D1, rfl, rfl, hk, hd, hd1, HRR, HK, HZ1⟩ := hrel
    have hd9 : d < 512 := Nat.lt_of_lt_of_le hd (Nat.pow_le_pow_right (by omega) (by omega : nb - k + 1 ≤ 9))
    by_cases hk0 : k = 0
    · subst hk0
      have HF : Hid (R = (s1, d) ∧ 2 ^ nb ≤ d ∧ PS wr s1 D1 ∧ Kpt D w D1 wr) := ⟨HRR.out, hd1, HK.out⟩
      clear hd hd1 HRR HK hk HZ1
      rcases HN.out with e | e
      · subst e
        have hge : (256 : Nat) ≤ d := HF.out.2.1
        have hsb : (d : Int) - 256 = ((d - 256 : Nat) : Int) := by omega
        have hsw : IntKind.i64.wrap ((d : Int) - 256) = ((d - 256 : Nat) : Int) := by rw [IntKind.wrap_i64]; omega
        go_wp2_with fail
        go_ret
        exact ⟨by rw [HF.out.1]; first | rfl | (simp only []; rw [← hsb]; rfl), by rw [HF.out.1]; exact ⟨D1, HF.out.2.2⟩⟩
      · subst e
        have hge : (64 : Nat) ≤ d := HF.out.2.1
        have hsb : (d : Int) - 64 = ((d - 64 : Nat) : Int) := by omega
        have hsw : IntKind.i64.wrap ((d : Int) - 64) = ((d - 64 : Nat) : Int) := by rw [IntKind.wrap_i64]; omega
        go_wp2_with fail
        go_ret
        exact ⟨by rw [HF.out.1]; first | rfl | (simp only []; rw [← hsb]; rfl), by rw [HF.out.1]; exact ⟨D1, HF.out.2.2⟩⟩
    · obtain ⟨j, rfl⟩ : ∃ j, k = j + 1 := ⟨k - 1, by omega⟩
      have e1 : ((j + 1 : Nat) : Int) - 1 = (j : Int) := by omega
      rw [e1]
      obtain ⟨q, hq⟩ : ∃ q, q = v / (2 : Int) ^ j := ⟨_, rfl⟩
      obtain ⟨t, ht⟩ : ∃ t, t = tvT v j := ⟨_, rfl⟩
      have hshr : v / (2 : Int) ^ j = q := hq.symm
      have htq : q % 2 = (t : Int) := by rw [ht, hq]; unfold tvT; omega
      have ht2 : t < 2 := by omega
      have hqb : -4611686018427387904 ≤ q ∧ q < 4611686018427387904 := by rw [hq]; exact div_bd hv1 hv2 j
      have hand : bits .and .i64 q 1 = (t : Int) := by rw [i64_and1 _ (by omega) (by omega)]; exact htq
      obtain ⟨z, hz⟩ : ∃ z, z = f + d := ⟨_, rfl⟩
      have hz5 : z < 512 := by
        have := HFB.out.2 j d (by omega) (by have e : nb - j = nb - (j + 1) + 1 := by omega
                                             rw [e]; exact hd)
        omega
      have hw1 : IntKind.i64.wrap ((f : Int) + (d : Int)) = (z : Int) := by rw [IntKind.wrap_i64]; omega
      have hw1b : (f : Int) + (d : Int) = (z : Int) := by omega
      have hw2 : IntKind.i64.wrap (2 * (d : Int)) = 2 * (d : Int) := by rw [IntKind.wrap_i64]; omega
      have hb := HB.out s1 z t ht2
      obtain ⟨bt, hbt⟩ : ∃ bt, bt = bit s1 z t := ⟨_, rfl⟩
      rw [← hbt] at hb
      obtain ⟨nd, hnd⟩ : ∃ nd, nd = 2 * d + bt := ⟨_, rfl⟩
      have hw3b : 2 * (d : Int) + (bt : Int) = (nd : Int) := by omega
      have hw3 : IntKind.i64.wrap (nd : Int) = (nd : Int) := by rw [IntKind.wrap_i64]; omega
      have HRN : Hid (R = thT bit nxt f v j nd (nxt s1 z t)) := by
        show R = _
        rw [HRR.out, thT, ← ht, ← hz, ← hbt, ← hnd]
      have HPC : Hid (Calls Try.prog 78 #[.int .i64 (z : Int), .int .i64 (t : Int), .pointer (some ⟨bx, 0, none⟩)] wr.drew fun e w' => e = .returned (.int .i64 (bt : Int)) ∧ ∃ D', PS w' (nxt s1 z t) D' ∧ Kpt D1 wr.drew D' w') := by
        have h := HP.out wr.drew s1 D1 z t (HS.out wr wr.drew s1 D1 HK.out.1 (fun _ _ => rfl)) (by have h1 := HZ1.out; have h2 := HSZ.out; omega) hz5 ht2
        rw [← hbt] at h
        exact h
      have hnd2 : nd < 2 ^ (nb - j + 1) ∧ 2 ^ (nb - j) ≤ nd := by
        have e : nb - j = nb - (j + 1) + 1 := by omega
        rw [e, Nat.pow_succ, Nat.pow_succ]
        rw [Nat.pow_succ] at hd
        omega
      have hlt5 : p5 < w.heap.size := World.block_lt_of_cell? w ⟨p5, 0, none⟩ HP5.out.1
      have x5 : wr.cell? ⟨p5, 0, none⟩ = some (.func (.func 78) #[] #[.pointer (some ⟨bx, 0, none⟩)]) := (World.cell?_of_block (a := ⟨p5, 0, none⟩) (HK.out.2.block p5 hlt5 HP5.out.2)).trans HP5.out.1
      have H5 : Hid (p5 < wr.heap.size ∧ ¬ D1 p5) := ⟨Nat.lt_of_lt_of_le hlt5 HK.out.2.size, HK.out.2.out hlt5 HP5.out.2⟩
      have HZN : Hid (sz (nxt s1 z t) + j ≤ sz s + nb) := by
        have h1 := HZ1.out
        have h2 := HZ.out s1 z t
        show _ ≤ _
        omega
      clear hd hd1 HRR HZ1 hq ht hz hbt hnd htq hqb hlt5 hz5 e1
      go_wp2_with fail
      obtain ⟨S, hSS⟩ : ∃ S : World → Prop, S = fun w' => w'.cell? ⟨p5, 0, none⟩ = some (.func (.func 78) #[] #[.pointer (some ⟨bx, 0, none⟩)]) := ⟨_, rfl⟩
      have HSS : Hid (S = fun w' => w'.cell? ⟨p5, 0, none⟩ = some (.func (.func 78) #[] #[.pointer (some ⟨bx, 0, none⟩)])) := hSS
      have hSd : S wr.drew := by rw [hSS]; exact x5
      have HX5 : Hid (∀ w', S w' → w'.cell? ⟨p5, 0, none⟩ = some (.func (.func 78) #[] #[.pointer (some ⟨bx, 0, none⟩)])) := fun w' h => by rw [hSS] at h; exact h
      clear hSS x5
      refine wp_region_held (S := S) (by kernel_rfl) ?_
      change wpAnyH _ _ _ _ _ _ _ _ (World.drew _)
      refine wpAnyH_take (i := 0) (v := .int .i64 (d : Int)) rfl (by kernel_rfl) (by kernel_rfl) (by kernel_rfl) (fun _ _ _ h => h) (Or.inl ⟨by rfl, by intro w' hS'; go_simp <;> (first | omega | (rw [IntKind.wrap_i64]; omega) | (rw [IntKind.wrap_u64]; omega) | (rw [IntKind.wrap_u32]; omega) | (rw [Int.tmod_eq_emod_of_nonneg (by omega)]))⟩) hSd ?_
      (try simp only [List.getElem_toArray, List.getElem_cons_succ, List.getElem_cons_zero, Act.put, List.setIfInBounds_toArray, List.set_cons_zero, List.set_cons_succ])
      refine wpAnyH_take (i := 1) (v := .int .i64 (2 * (d : Int))) rfl (by kernel_rfl) (by kernel_rfl) (by kernel_rfl) (fun _ _ _ h => h) (Or.inl ⟨by rfl, by intro w' hS'; go_simp <;> (first | omega | (rw [IntKind.wrap_i64]; omega) | (rw [IntKind.wrap_u64]; omega) | (rw [IntKind.wrap_u32]; omega) | (rw [Int.tmod_eq_emod_of_nonneg (by omega)]))⟩) hSd ?_
      (try simp only [List.getElem_toArray, List.getElem_cons_succ, List.getElem_cons_zero, Act.put, List.setIfInBounds_toArray, List.set_cons_zero, List.set_cons_succ])
      refine wpAnyH_take (i := 2) (v := .func (.func 78) #[] #[.pointer (some ⟨bx, 0, none⟩)]) rfl (by kernel_rfl) (by kernel_rfl) (by kernel_rfl) (fun _ _ _ h => h) (Or.inl ⟨by rfl, by intro w' hS'; have hxx := HX5.out w' hS'; go_simp <;> (first | omega | (rw [IntKind.wrap_i64]; omega) | (rw [IntKind.wrap_u64]; omega) | (rw [IntKind.wrap_u32]; omega) | (rw [Int.tmod_eq_emod_of_nonneg (by omega)]))⟩) hSd ?_
      (try simp only [List.getElem_toArray, List.getElem_cons_succ, List.getElem_cons_zero, Act.put, List.setIfInBounds_toArray, List.set_cons_zero, List.set_cons_succ])
      refine wpAnyH_take (i := 3) (v := .int .i64 (f : Int)) rfl (by kernel_rfl) (by kernel_rfl) (by kernel_rfl) (fun _ _ _ h => h) (Or.inl ⟨by rfl, by intro w' hS'; go_simp <;> (first | omega | (rw [IntKind.wrap_i64]; omega) | (rw [IntKind.wrap_u64]; omega) | (rw [IntKind.wrap_u32]; omega) | (rw [Int.tmod_eq_emod_of_nonneg (by omega)]))⟩) hSd ?_
      (try simp only [List.getElem_toArray, List.getElem_cons_succ, List.getElem_cons_zero, Act.put, List.setIfInBounds_toArray, List.set_cons_zero, List.set_cons_succ])
      refine wpAnyH_take (i := 4) (v := .int .i64 (d : Int)) rfl (by kernel_rfl) (by kernel_rfl) (by kernel_rfl) (fun _ _ _ h => h) (Or.inl ⟨by rfl, by intro w' hS'; go_simp <;> (first | omega | (rw [IntKind.wrap_i64]; omega) | (rw [IntKind.wrap_u64]; omega) | (rw [IntKind.wrap_u32]; omega) | (rw [Int.tmod_eq_emod_of_nonneg (by omega)]))⟩) hSd ?_
      (try simp only [List.getElem_toArray, List.getElem_cons_succ, List.getElem_cons_zero, Act.put, List.setIfInBounds_toArray, List.set_cons_zero, List.set_cons_succ])
      refine wpAnyH_take (i := 5) (v := .int .i64 (z : Int)) rfl (by kernel_rfl) (by kernel_rfl) (by kernel_rfl) (fun _ _ _ h => h) (Or.inl ⟨by rfl, by intro w' hS'; go_simp <;> (first | omega | (rw [IntKind.wrap_i64]; omega) | (rw [IntKind.wrap_u64]; omega) | (rw [IntKind.wrap_u32]; omega) | (rw [Int.tmod_eq_emod_of_nonneg (by omega)]))⟩) hSd ?_
      (try simp only [List.getElem_toArray, List.getElem_cons_succ, List.getElem_cons_zero, Act.put, List.setIfInBounds_toArray, List.set_cons_zero, List.set_cons_succ])
      refine wpAnyH_take (i := 6) (v := .int .i64 v) rfl (by kernel_rfl) (by kernel_rfl) (by kernel_rfl) (fun _ _ _ h => h) (Or.inl ⟨by rfl, by intro w' hS'; go_simp <;> (first | omega | (rw [IntKind.wrap_i64]; omega) | (rw [IntKind.wrap_u64]; omega) | (rw [IntKind.wrap_u32]; omega) | (rw [Int.tmod_eq_emod_of_nonneg (by omega)]))⟩) hSd ?_
      (try simp only [List.getElem_toArray, List.getElem_cons_succ, List.getElem_cons_zero, Act.put, List.setIfInBounds_toArray, List.set_cons_zero, List.set_cons_succ])
      refine wpAnyH_take (i := 7) (v := .int .i64 (j : Int)) rfl (by kernel_rfl) (by kernel_rfl) (by kernel_rfl) (fun _ _ _ h => h) (Or.inl ⟨by rfl, by intro w' hS'; go_simp <;> (first | omega | (rw [IntKind.wrap_i64]; omega) | (rw [IntKind.wrap_u64]; omega) | (rw [IntKind.wrap_u32]; omega) | (rw [Int.tmod_eq_emod_of_nonneg (by omega)]))⟩) hSd ?_
      (try simp only [List.getElem_toArray, List.getElem_cons_succ, List.getElem_cons_zero, Act.put, List.setIfInBounds_toArray, List.set_cons_zero, List.set_cons_succ])
      refine wpAnyH_take (i := 8) (v := .int .i64 q) rfl (by kernel_rfl) (by kernel_rfl) (by kernel_rfl) (fun _ _ _ h => h) (Or.inl ⟨by rfl, by intro w' hS'; go_simp <;> (first | omega | (rw [IntKind.wrap_i64]; omega) | (rw [IntKind.wrap_u64]; omega) | (rw [IntKind.wrap_u32]; omega) | (rw [Int.tmod_eq_emod_of_nonneg (by omega)]))⟩) hSd ?_
      (try simp only [List.getElem_toArray, List.getElem_cons_succ, List.getElem_cons_zero, Act.put, List.setIfInBounds_toArray, List.set_cons_zero, List.set_cons_succ])
      refine wpAnyH_take (i := 9) (v := .int .i64 (t : Int)) rfl (by kernel_rfl) (by kernel_rfl) (by kernel_rfl) (fun _ _ _ h => h) (Or.inl ⟨by rfl, by intro w' hS'; go_simp <;> (first | omega | (rw [IntKind.wrap_i64]; omega) | (rw [IntKind.wrap_u64]; omega) | (rw [IntKind.wrap_u32]; omega) | (rw [Int.tmod_eq_emod_of_nonneg (by omega)]))⟩) hSd ?_
      (try simp only [List.getElem_toArray, List.getElem_cons_succ, List.getElem_cons_zero, Act.put, List.setIfInBounds_toArray, List.set_cons_zero, List.set_cons_succ])
      refine held_stepS (i := 10) (by kernel_rfl) rfl (by rfl) ?_
      go_simp
      refine HPC.out.mono ?_
      rintro e w5 ⟨rfl, D2, hp5, hk5⟩
      have hkk : Kpt D w D2 w5 := HK.out.2.trans (⟨hk5.os, hk5.tape, hk5.output, hk5.size, hk5.block, hk5.sub⟩ : Kpt D1 wr D2 w5)
      have hS5 : S w5 := by rw [HSS.out]; exact (World.cell?_of_block (a := ⟨p5, 0, none⟩) (hk5.block p5 H5.out.1 H5.out.2)).trans (HX5.out _ hSd)
      refine ⟨hS5, ?_⟩
      (try simp only [List.getElem_toArray, List.getElem_cons_succ, List.getElem_cons_zero, Act.put, List.setIfInBounds_toArray, List.set_cons_zero, List.set_cons_succ])
      refine wpAnyH_take (i := 11) (v := .int .i64 (nd : Int)) rfl (by kernel_rfl) (by kernel_rfl) (by kernel_rfl) (fun _ _ _ h => h) (Or.inl ⟨by rfl, by intro w' hS'; go_simp <;> (first | omega | (rw [IntKind.wrap_i64]; omega) | (rw [IntKind.wrap_u64]; omega) | (rw [IntKind.wrap_u32]; omega) | (rw [Int.tmod_eq_emod_of_nonneg (by omega)]))⟩) hS5 ?_
      (try simp only [List.getElem_toArray, List.getElem_cons_succ, List.getElem_cons_zero, Act.put, List.setIfInBounds_toArray, List.set_cons_zero, List.set_cons_succ])
      refine wpAnyH_take (i := 12) (v := .int .i64 (nd : Int)) rfl (by kernel_rfl) (by kernel_rfl) (by kernel_rfl) (fun _ _ _ h => h) (Or.inl ⟨by rfl, by intro w' hS'; go_simp <;> (first | omega | (rw [IntKind.wrap_i64]; omega) | (rw [IntKind.wrap_u64]; omega) | (rw [IntKind.wrap_u32]; omega) | (rw [Int.tmod_eq_emod_of_nonneg (by omega)]))⟩) hS5 ?_
      (try simp only [List.getElem_toArray, List.getElem_cons_succ, List.getElem_cons_zero, Act.put, List.setIfInBounds_toArray, List.set_cons_zero, List.set_cons_succ])
      refine wpAnyH_done (by kernel_rfl) ?_ _
      have HK5 : Hid (PS w5 (nxt s1 z t) D2 ∧ Kpt D w D2 w5) := ⟨hp5, hkk⟩
      clear hp5 hk5 hkk hS5 hSd HX5 HSS HPC HK H5
      go_wp2_with fail
      go_roundw
      case rel => exact ⟨j, nd, nxt s1 z t, D2, rfl, rfl, by omega, hnd2.1, hnd2.2, HRN, HK5.out, HZN.out⟩
      case measure => simp [nIntT] <;> omega
end Go.Proofs.Ytbkjcngehhdchaa

/-!   The code's way through a token, by a closure that is handed on. -/
namespace Go.Proofs.Ytbkjcngehhdchaa
open Go.RowKit
set_option linter.unusedVariables false
set_option linter.unusedSimpArgs false
/-- the boxes of the walk through a token -/
structure TB (A : Nat) (k b d l : Int) (pv : Value) (D : Nat → Prop) (w : World) : Prop where
  r0 : w.heap[A]? = some (.cells #[.int .i64 k, .int .i64 b, .int .i64 d, .int .i64 l] 106 (0, 0))
  r1 : w.heap[A + 1]? = some (.cells #[pv] 143 (0, 0))
  r2 : w.heap[A + 1 + 1]? = some (.cells #[.int .i64 0, .int .i64 0, .int .i64 0, .int .i64 0] 106 (0, 0))
  n0 : ¬ D A
  n1 : ¬ D (A + 1)
  n2 : ¬ D (A + 1 + 1)
theorem TB.next {A : Nat} {k b d l : Int} {pv : Value} {D D' : Nat → Prop} {w w' : World} (h : TB A k b d l pv D w) (hk : Kpt D w D' w') : TB A k b d l pv D' w' :=
  have l0 := (Array.getElem?_eq_some_iff.1 h.r0).1
  have l1 := (Array.getElem?_eq_some_iff.1 h.r1).1
  have l2 := (Array.getElem?_eq_some_iff.1 h.r2).1
  ⟨(hk.block _ l0 h.n0).trans h.r0, (hk.block _ l1 h.n1).trans h.r1, (hk.block _ l2 h.n2).trans h.r2, hk.out l0 h.n0, hk.out l1 h.n1, hk.out l2 h.n2⟩
/-- a token's bits, and what it is afterwards -/
def thTok {σ : Type} (bit : σ → Nat → Nat → Nat) (nxt : σ → Nat → Nat → σ) (a k : Nat) (b d l : Int) (s : σ) : σ × TkN :=
  if bit s a k = 0 then ((thT bit nxt 1 b 8 1 (nxt s a k)).1, ⟨0, (thT bit nxt 1 b 8 1 (nxt s a k)).2 - 2 ^ 8, 0, 0⟩)
  else
    let r1 := thT bit nxt 260 (l - 3) 6 1 (nxt s a k)
    let r2 := thT bit nxt 330 ((d - 1).tdiv 64) 6 1 r1.1
    let r3 := thT bit nxt 400 ((d - 1).tmod 64) 6 1 r2.1
    (r3.1, ⟨1, 0, (r2.2 - 2 ^ 6) * 64 + (r3.2 - 2 ^ 6) + 1, r1.2 - 2 ^ 6 + 3⟩)
theorem thT_sz {σ : Type} {bit : σ → Nat → Nat → Nat} {nxt : σ → Nat → Nat → σ} {sz : σ → Nat} (hZ : ∀ s c t, sz (nxt s c t) ≤ sz s + 1) (f : Nat) (v : Int) : ∀ (k nd : Nat) (s : σ), sz (thT bit nxt f v k nd s).1 ≤ sz s + k
  | 0, _, _ => Nat.le_refl _
  | k + 1, nd, s => by
    have h1 := hZ s (f + nd) (tvT v k)
    have h2 := thT_sz hZ (bit := bit) f v k (2 * nd + bit s (f + nd) (tvT v k)) (nxt s (f + nd) (tvT v k))
    show sz (thT bit nxt f v k _ _).1 ≤ _
    omega
theorem thT_lt {σ : Type} {bit : σ → Nat → Nat → Nat} {nxt : σ → Nat → Nat → σ} (hB : ∀ s c t, t < 2 → bit s c t < 2) (f : Nat) (v : Int) : ∀ (k nd m : Nat) (s : σ), nd < 2 ^ m → (thT bit nxt f v k nd s).2 < 2 ^ (m + k)
  | 0, _, _, _, h => h
  | k + 1, nd, m, s, h => by
    have ht : tvT v k < 2 := by unfold tvT; omega
    have hb := hB s (f + nd) _ ht
    have := thT_lt (nxt := nxt) hB f v k (2 * nd + bit s (f + nd) (tvT v k)) (m + 1) (nxt s (f + nd) (tvT v k)) (by rw [Nat.pow_succ]; omega)
    rw [show m + 1 + k = m + (k + 1) by omega] at this
    exact this
set_option maxRecDepth 100000 in
set_option maxHeartbeats 1000000 in
theorem nthrough_any {σ : Type} (PS : World → σ → (Nat → Prop) → Prop) (bit : σ → Nat → Nat → Nat) (nxt : σ → Nat → Nat → σ) (sz : σ → Nat) (lim : Nat) (bx : Nat)
    (hP : ∀ w s D c t, PS w s D → sz s ≤ lim → c < 512 → t < 2 → Calls Try.prog 78 #[.int .i64 ((c : Nat) : Int), .int .i64 ((t : Nat) : Int), .pointer (some ⟨bx, 0, none⟩)] w fun e w' => e = .returned (.int .i64 ((bit s c t : Nat) : Int)) ∧ ∃ D', PS w' (nxt s c t) D' ∧ Kpt D w D' w')
    (hB : ∀ s c t, t < 2 → bit s c t < 2) (hS : ∀ w w' s D, PS w s D → (∀ k, D k → w'.heap[k]? = w.heap[k]?) → PS w' s D) (hLT : ∀ w s D, PS w s D → ∀ k, D k → k < w.heap.size)
    (hZ : ∀ s c t, sz (nxt s c t) ≤ sz s + 1) (a k : Nat) (aI kI b d l : Int) (s : σ) (D : Nat → Prop) (w : World) (ha : a < 2) (hk : k < 2) (haI : aI = (a : Int)) (hkI : kI = (k : Int)) (hb : 0 ≤ b ∧ b ≤ 5000) (hd : 0 ≤ d ∧ d ≤ 5000) (hl : 0 ≤ l ∧ l ≤ 5000) (hps : PS w s D) (hsz : sz s + 21 ≤ lim) :
    Calls Try.prog 79 #[.agg #[.int .i64 kI, .int .i64 b, .int .i64 d, .int .i64 l], .int .i64 aI, .func (.func 78) #[] #[.pointer (some ⟨bx, 0, none⟩)]] w fun e w' => (∃ t, t = (thTok bit nxt a k b d l s).2 ∧ e = .returned (.agg #[.int .i64 (t.k : Int), .int .i64 (t.b : Int), .int .i64 (t.d : Int), .int .i64 (t.l : Int)])) ∧ ∃ D', PS w' (thTok bit nxt a k b d l s).1 D' ∧ Kpt D w D' w' := by
  have HTR : Hid (∀ (p5 f nb : Nat) (fI nbI v : Int) (s : σ) (D : Nat → Prop) (w : World) (n : Nat) (r : σ), n = (thT bit nxt f v nb 1 s).2 - 2 ^ nb → r = (thT bit nxt f v nb 1 s).1 → fI = (f : Int) → nbI = (nb : Int) → (nb = 8 ∨ nb = 6) → (f ≤ 400 ∧ (nb = 8 → f ≤ 1)) → (-4611686018427387904 ≤ v ∧ v < 4611686018427387904) → PS w s D → sz s + 8 ≤ lim → w.cell? ⟨p5, 0, none⟩ = some (.func (.func 78) #[] #[.pointer (some ⟨bx, 0, none⟩)]) → ¬ D p5 →
      Calls Try.prog 96 #[.int .i64 fI, .int .i64 nbI, .int .i64 v, .pointer (some ⟨p5, 0, none⟩)] w fun e w' => e = .returned (.int .i64 (n : Int)) ∧ ∃ D', PS w' r D' ∧ Kpt D w D' w') :=
    fun p5 f nb fI nbI v s D w n r e1 e2 h1 h2 h3 h4 h5 h6 h7 h8 h9 => by subst e1; subst e2; exact ntree_any PS bit nxt sz lim bx hP hB hS hZ p5 f nb fI nbI v s D w h1 h2 h3 h4 h5 h6 h7 h8 h9
  have HSS : Hid (∀ (D D' : Nat → Prop) (w w' : World) (s : σ) (B : Nat) (v0 v1 v2 v3 : Value), PS w' s D' → Kpt D w D' w' → ¬ D' B → w.heap.size ≤ B →
      PS ((((w'.setCell ⟨B, 0, none⟩ v0).setCell ⟨B, 1, none⟩ v1).setCell ⟨B, 2, none⟩ v2).setCell ⟨B, 3, none⟩ v3) s D' ∧ Kpt D w D' ((((w'.setCell ⟨B, 0, none⟩ v0).setCell ⟨B, 1, none⟩ v1).setCell ⟨B, 2, none⟩ v2).setCell ⟨B, 3, none⟩ v3)) :=
    fun D D' w w' s B v0 v1 v2 v3 h1 h2 h3 h4 => ⟨hS _ _ _ _ h1 (fun q hq => by
      have hn : q ≠ B := fun e => h3 (e ▸ hq)
      rw [heap_setCell_other _ _ _ _ hn, heap_setCell_other _ _ _ _ hn, heap_setCell_other _ _ _ _ hn, heap_setCell_other _ _ _ _ hn]), (((h2.setNew h4).setNew h4).setNew h4).setNew h4⟩
  have HLT : Hid (∀ f v s, (thT bit nxt f v 6 1 s).2 < 2 ^ 7) := fun f v s => thT_lt hB f v 6 1 1 s (by decide)
  obtain ⟨b0, hb0⟩ : ∃ b0, b0 = bit s a k := ⟨_, rfl⟩
  obtain ⟨s1, hs1⟩ : ∃ s1, s1 = nxt s a k := ⟨_, rfl⟩
  have hb2 : b0 < 2 := by rw [hb0]; exact hB s a k hk
  have hz1 : sz s1 ≤ sz s + 1 := by rw [hs1]; exact hZ s a k
  have HZT : Hid (∀ f v s, sz (thT bit nxt f v 6 1 s).1 ≤ sz s + 6) := fun f v s => thT_sz hZ f v 6 1 s
  obtain ⟨R, hR⟩ : ∃ R, R = thTok bit nxt a k b d l s := ⟨_, rfl⟩
  have HR : Hid (R = if b0 = 0 then ((thT bit nxt 1 b 8 1 s1).1, (⟨0, (thT bit nxt 1 b 8 1 s1).2 - 2 ^ 8, 0, 0⟩ : TkN))
      else ((thT bit nxt 400 ((d - 1).tmod 64) 6 1 (thT bit nxt 330 ((d - 1).tdiv 64) 6 1 (thT bit nxt 260 (l - 3) 6 1 s1).1).1).1, (⟨1, 0, ((thT bit nxt 330 ((d - 1).tdiv 64) 6 1 (thT bit nxt 260 (l - 3) 6 1 s1).1).2 - 2 ^ 6) * 64 + ((thT bit nxt 400 ((d - 1).tmod 64) 6 1 (thT bit nxt 330 ((d - 1).tdiv 64) 6 1 (thT bit nxt 260 (l - 3) 6 1 s1).1).1).2 - 2 ^ 6) + 1, (thT bit nxt 260 (l - 3) 6 1 s1).2 - 2 ^ 6 + 3⟩ : TkN))) := by
    show R = _
    rw [hR, hb0, hs1]; rfl
  rw [← hR]
  obtain ⟨w3, hw3⟩ : ∃ w3, w3 = ((w.alloc (.cells #[.int .i64 (k : Int), .int .i64 b, .int .i64 d, .int .i64 l] 106)).alloc (.cells #[.func (.func 78) #[] #[.pointer (some ⟨bx, 0, none⟩)]] 143)).alloc (.cells #[.int .i64 0, .int .i64 0, .int .i64 0, .int .i64 0] 106) := ⟨_, rfl⟩
  have hbl : Below w.heap.size w w3 := by
    rw [hw3]
    exact ((((Below.refl _ w).alloc (Nat.le_refl _) _).alloc (by simp <;> omega) _).alloc (by simp <;> omega) _)
  have HK3 : Hid (Kpt D w D w3) := Kpt.below hbl
  have hps3 : PS w3 s D := hS w w3 s D hps (fun q hq => hbl.block q (hLT w s D hps q hq))
  have HT3 : Hid (TB w.heap.size k b d l (.func (.func 78) #[] #[.pointer (some ⟨bx, 0, none⟩)]) D w3) := by
    have hno : ∀ j, ¬ D (w.heap.size + j) := fun j hj => by have := hLT w s D hps _ hj; omega
    refine ⟨?_, ?_, ?_, hno 0, hno 1, (by have := hno 2; simpa using this)⟩
    · rw [hw3]
      refine (Below.heap_alloc _ _ _ (by simp <;> omega)).trans ((Below.heap_alloc _ _ _ (by simp <;> omega)).trans (heap_alloc_new _ _))
    · rw [hw3]
      refine (Below.heap_alloc _ _ _ (by simp <;> omega)).trans ?_
      have := heap_alloc_new (w.alloc (.cells #[.int .i64 (k : Int), .int .i64 b, .int .i64 d, .int .i64 l] 106)) (.cells #[.func (.func 78) #[] #[.pointer (some ⟨bx, 0, none⟩)]] 143)
      simpa using this
    · rw [hw3]
      have := heap_alloc_new ((w.alloc (.cells #[.int .i64 (k : Int), .int .i64 b, .int .i64 d, .int .i64 l] 106)).alloc (.cells #[.func (.func 78) #[] #[.pointer (some ⟨bx, 0, none⟩)]] 143)) (.cells #[.int .i64 0, .int .i64 0, .int .i64 0, .int .i64 0] 106)
      simpa using this
  have HPC : Hid (Calls Try.prog 78 #[.int .i64 (a : Int), .int .i64 (k : Int), .pointer (some ⟨bx, 0, none⟩)] w3 fun e w' => e = .returned (.int .i64 (b0 : Int)) ∧ ∃ D', PS w' s1 D' ∧ Kpt D w3 D' w') := by
    have h := hP w3 s D a k hps3 (by omega) (by omega) hk
    rw [← hb0, ← hs1] at h
    exact h
  subst haI
  subst hkI
  have HW3 : Hid (w3 = _) := hw3
  obtain ⟨hb1, hb2'⟩ := hb
  obtain ⟨hd1, hd2⟩ := hd
  obtain ⟨hl1, hl2⟩ := hl
  clear hP hB hS hLT hZ hps hR hb0 hs1 hbl hps3 hw3
  go_enter Try.func79, Try.ntmps79
  go_wp2_with fail
  rw [← HW3.out]
  refine HPC.out.mono ?_
  rintro e w5 ⟨rfl, D5, hp5, hk5⟩
  have hT5 := HT3.out.next hk5
  have HS5 : Hid (PS w5 s1 D5 ∧ Kpt D w D5 w5) := ⟨hp5, HK3.out.trans hk5⟩
  have HT5 : Hid (TB w.heap.size k b d l (.func (.func 78) #[] #[.pointer (some ⟨bx, 0, none⟩)]) D5 w5) := hT5
  have x1 : w5.cell? ⟨w.heap.size, 1, none⟩ = some (.int .i64 b) := cell_of_row _ _ _ _ _ _ hT5.r0
  have x2 : w5.cell? ⟨w.heap.size, 2, none⟩ = some (.int .i64 d) := cell_of_row _ _ _ _ _ _ hT5.r0
  have x3 : w5.cell? ⟨w.heap.size, 3, none⟩ = some (.int .i64 l) := cell_of_row _ _ _ _ _ _ hT5.r0
  clear hT5 HT3 HK3 HPC hp5 hk5 HW3 ha hk
  by_cases h0 : b0 = 0
  · subst h0
    have HRR : Hid _ := HR.out
    simp only [if_pos] at HRR
    obtain ⟨n6, hn6⟩ : ∃ n, n = (thT bit nxt 1 b 8 1 s1).2 - 2 ^ 8 := ⟨_, rfl⟩
    obtain ⟨s6, hs6⟩ : ∃ s6, s6 = (thT bit nxt 1 b 8 1 s1).1 := ⟨_, rfl⟩
    have HC : Hid (Calls Try.prog 96 #[.int .i64 1, .int .i64 8, .int .i64 b, .pointer (some ⟨w.heap.size + 1, 0, none⟩)] w5 fun e w' => e = .returned (.int .i64 (n6 : Int)) ∧ ∃ D', PS w' s6 D' ∧ Kpt D5 w5 D' w') := HTR.out (w.heap.size + 1) 1 8 1 8 b s1 D5 w5 n6 s6 hn6 hs6 rfl rfl (Or.inl rfl) ⟨by omega, by omega⟩ ⟨by omega, by omega⟩ HS5.out.1 (by omega) (cell_of_row _ _ _ _ _ _ HT5.out.r1) HT5.out.n1
    rw [← hn6, ← hs6] at HRR
    clear HTR HR hn6 hs6 HZT hz1 hsz
    go_wp2_with fail
    refine HC.out.mono ?_
    rintro e w6 ⟨rfl, D6, hp6, hk6⟩
    have hT6 := HT5.out.next hk6
    have HS6 : Hid (PS w6 s6 D6 ∧ Kpt D w D6 w6 ∧ ¬ D6 (w.heap.size + 1 + 1)) := ⟨hp6, HS5.out.2.trans hk6, hT6.n2⟩
    have HR2 : Hid _ := hT6.r2
    have y0 : w6.cell? ⟨w.heap.size + 1 + 1, 0, none⟩ = some (.int .i64 0) := cell_of_row _ _ _ _ _ _ hT6.r2
    have z0 : w6.frozen? ⟨w.heap.size + 1 + 1, 0, none⟩ = false := frozen_of_row w6 (w.heap.size + 1 + 1) 0 _ _ hT6.r2
    have y1 : w6.cell? ⟨w.heap.size + 1 + 1, 1, none⟩ = some (.int .i64 0) := cell_of_row _ _ _ _ _ _ hT6.r2
    have z1 : w6.frozen? ⟨w.heap.size + 1 + 1, 1, none⟩ = false := frozen_of_row w6 (w.heap.size + 1 + 1) 1 _ _ hT6.r2
    have y2 : w6.cell? ⟨w.heap.size + 1 + 1, 2, none⟩ = some (.int .i64 0) := cell_of_row _ _ _ _ _ _ hT6.r2
    have z2 : w6.frozen? ⟨w.heap.size + 1 + 1, 2, none⟩ = false := frozen_of_row w6 (w.heap.size + 1 + 1) 2 _ _ hT6.r2
    have y3 : w6.cell? ⟨w.heap.size + 1 + 1, 3, none⟩ = some (.int .i64 0) := cell_of_row _ _ _ _ _ _ hT6.r2
    have z3 : w6.frozen? ⟨w.heap.size + 1 + 1, 3, none⟩ = false := frozen_of_row w6 (w.heap.size + 1 + 1) 3 _ _ hT6.r2
    clear HC HT5 HS5 hT6 hp6 hk6 x1 x2 x3
    go_wp2_with fail
    refine bodyPost_ret (results_cell_row rfl _ _ (w.heap.size + 1 + 1) 106 #[.int .i64 0, .int .i64 (n6 : Int), .int .i64 0, .int .i64 0] (0, 0) _ rfl (heap_setCell_same _ _ _ _ _ _ (heap_setCell_same _ _ _ _ _ _ (heap_setCell_same _ _ _ _ _ _ (heap_setCell_same _ _ _ _ _ _ HR2.out)))) Try.underlying106 rfl (by kernel_rfl)) rfl ⟨⟨R.2, rfl, ?_⟩, ?_⟩
    · rw [HRR.out]; first | rfl | simp
    · rw [HRR.out]; exact ⟨D6, HSS.out _ _ _ _ _ _ _ _ _ _ HS6.out.1 HS6.out.2.1 HS6.out.2.2 (by omega)⟩
  · have h0I : ¬ (b0 : Int) = 0 := by omega
    have HRR : Hid _ := HR.out
    simp only [if_neg h0] at HRR
    obtain ⟨d1, hd1e⟩ : ∃ d1, d1 = (d - 1).tdiv 64 := ⟨_, rfl⟩
    obtain ⟨d2, hd2e⟩ : ∃ d2, d2 = (d - 1).tmod 64 := ⟨_, rfl⟩
    have hdb : -5000 ≤ d1 ∧ d1 ≤ 5000 ∧ -5000 ≤ d2 ∧ d2 ≤ 5000 := by
      rw [hd1e, hd2e]
      by_cases hd0 : d = 0
      · subst hd0; decide
      · rw [Int.tdiv_eq_ediv_of_nonneg (by omega), Int.tmod_eq_emod_of_nonneg (by omega)]; omega
    obtain ⟨hq1, hq2, hq3, hq4⟩ := hdb
    have hv1 : (d - 1).tdiv 64 = d1 := hd1e.symm
    have hv2 : (d - 1).tmod 64 = d2 := hd2e.symm
    rw [← hd1e, ← hd2e] at HRR
    clear hd1e hd2e
    obtain ⟨n6, hn6⟩ : ∃ n, n = (thT bit nxt 260 (l - 3) 6 1 s1).2 - 2 ^ 6 := ⟨_, rfl⟩
    obtain ⟨s6, hs6⟩ : ∃ s6, s6 = (thT bit nxt 260 (l - 3) 6 1 s1).1 := ⟨_, rfl⟩
    rw [← hn6, ← hs6] at HRR
    obtain ⟨n7, hn7⟩ : ∃ n, n = (thT bit nxt 330 d1 6 1 s6).2 - 2 ^ 6 := ⟨_, rfl⟩
    obtain ⟨s7, hs7⟩ : ∃ q, q = (thT bit nxt 330 d1 6 1 s6).1 := ⟨_, rfl⟩
    rw [← hn7, ← hs7] at HRR
    obtain ⟨n8, hn8⟩ : ∃ n, n = (thT bit nxt 400 d2 6 1 s7).2 - 2 ^ 6 := ⟨_, rfl⟩
    obtain ⟨s8, hs8⟩ : ∃ q, q = (thT bit nxt 400 d2 6 1 s7).1 := ⟨_, rfl⟩
    rw [← hn8, ← hs8] at HRR
    have hz6 : sz s6 ≤ sz s + 7 := by rw [hs6]; have := HZT.out 260 (l - 3) s1; omega
    have hz7 : sz s7 ≤ sz s + 13 := by rw [hs7]; have := HZT.out 330 d1 s6; omega
    have hm6 : n6 < 64 := by have h := HLT.out 260 (l - 3) s1; rw [show (2 : Nat) ^ 7 = 128 by decide] at h; rw [hn6, show (2 : Nat) ^ 6 = 64 by decide]; omega
    have hm7 : n7 < 64 := by have h := HLT.out 330 d1 s6; rw [show (2 : Nat) ^ 7 = 128 by decide] at h; rw [hn7, show (2 : Nat) ^ 6 = 64 by decide]; omega
    have hm8 : n8 < 64 := by have h := HLT.out 400 d2 s7; rw [show (2 : Nat) ^ 7 = 128 by decide] at h; rw [hn8, show (2 : Nat) ^ 6 = 64 by decide]; omega
    have HC : Hid (Calls Try.prog 96 #[.int .i64 260, .int .i64 6, .int .i64 (l - 3), .pointer (some ⟨w.heap.size + 1, 0, none⟩)] w5 fun e w' => e = .returned (.int .i64 (n6 : Int)) ∧ ∃ D', PS w' s6 D' ∧ Kpt D5 w5 D' w') := HTR.out (w.heap.size + 1) 260 6 260 6 (l - 3) s1 D5 w5 n6 s6 hn6 hs6 rfl rfl (Or.inr rfl) ⟨by omega, by omega⟩ ⟨by omega, by omega⟩ HS5.out.1 (by omega) (cell_of_row _ _ _ _ _ _ HT5.out.r1) HT5.out.n1
    have HC7 : Hid (∀ w6 D6, PS w6 s6 D6 → TB w.heap.size k b d l (.func (.func 78) #[] #[.pointer (some ⟨bx, 0, none⟩)]) D6 w6 → Calls Try.prog 96 #[.int .i64 330, .int .i64 6, .int .i64 d1, .pointer (some ⟨w.heap.size + 1, 0, none⟩)] w6 fun e w' => e = .returned (.int .i64 (n7 : Int)) ∧ ∃ D', PS w' s7 D' ∧ Kpt D6 w6 D' w') := fun w6 D6 hp ht => HTR.out (w.heap.size + 1) 330 6 330 6 d1 s6 D6 w6 n7 s7 hn7 hs7 rfl rfl (Or.inr rfl) ⟨by omega, by omega⟩ ⟨by omega, by omega⟩ hp (by omega) (cell_of_row _ _ _ _ _ _ ht.r1) ht.n1
    have HC8 : Hid (∀ w6 D6, PS w6 s7 D6 → TB w.heap.size k b d l (.func (.func 78) #[] #[.pointer (some ⟨bx, 0, none⟩)]) D6 w6 → Calls Try.prog 96 #[.int .i64 400, .int .i64 6, .int .i64 d2, .pointer (some ⟨w.heap.size + 1, 0, none⟩)] w6 fun e w' => e = .returned (.int .i64 (n8 : Int)) ∧ ∃ D', PS w' s8 D' ∧ Kpt D6 w6 D' w') := fun w6 D6 hp ht => HTR.out (w.heap.size + 1) 400 6 400 6 d2 s7 D6 w6 n8 s8 hn8 hs8 rfl rfl (Or.inr rfl) ⟨by omega, by omega⟩ ⟨by omega, by omega⟩ hp (by omega) (cell_of_row _ _ _ _ _ _ ht.r1) ht.n1
    clear HTR HR hn6 hs6 hn7 hs7 hn8 hs8 HLT HZT hz1 hz6 hz7 hsz
    go_wp2_with fail
    refine HC.out.mono ?_
    rintro e w6 ⟨rfl, D6, hp6, hk6⟩
    have HT6 : Hid (TB w.heap.size k b d l (.func (.func 78) #[] #[.pointer (some ⟨bx, 0, none⟩)]) D6 w6) := HT5.out.next hk6
    have HS6 : Hid (PS w6 s6 D6 ∧ Kpt D w D6 w6) := ⟨hp6, HS5.out.2.trans hk6⟩
    clear HC HT5 HS5 hp6 hk6 x1 x2 x3
    have x2 : w6.cell? ⟨w.heap.size, 2, none⟩ = some (.int .i64 d) := cell_of_row _ _ _ _ _ _ HT6.out.r0
    have HC := HC7.out w6 D6 HS6.out.1 HT6.out
    have HC : Hid (Calls Try.prog 96 #[.int .i64 330, .int .i64 6, .int .i64 d1, .pointer (some ⟨w.heap.size + 1, 0, none⟩)] w6 fun e w' => e = .returned (.int .i64 (n7 : Int)) ∧ ∃ D', PS w' s7 D' ∧ Kpt D6 w6 D' w') := HC
    go_wp2_with fail
    refine HC.out.mono ?_
    rintro e w7 ⟨rfl, D7, hp7, hk7⟩
    have HT7 : Hid (TB w.heap.size k b d l (.func (.func 78) #[] #[.pointer (some ⟨bx, 0, none⟩)]) D7 w7) := HT6.out.next hk7
    have HS7 : Hid (PS w7 s7 D7 ∧ Kpt D w D7 w7) := ⟨hp7, HS6.out.2.trans hk7⟩
    clear HC HT6 HS6 hp7 hk7 x2 HC7
    have x2 : w7.cell? ⟨w.heap.size, 2, none⟩ = some (.int .i64 d) := cell_of_row _ _ _ _ _ _ HT7.out.r0
    have HC : Hid (Calls Try.prog 96 #[.int .i64 400, .int .i64 6, .int .i64 d2, .pointer (some ⟨w.heap.size + 1, 0, none⟩)] w7 fun e w' => e = .returned (.int .i64 (n8 : Int)) ∧ ∃ D', PS w' s8 D' ∧ Kpt D7 w7 D' w') := HC8.out w7 D7 HS7.out.1 HT7.out
    go_wp2_with fail
    refine HC.out.mono ?_
    rintro e w8 ⟨rfl, D8, hp8, hk8⟩
    have hT8 := HT7.out.next hk8
    have HS8 : Hid (PS w8 s8 D8 ∧ Kpt D w D8 w8) := ⟨hp8, HS7.out.2.trans hk8⟩
    have HR2 : Hid (TB w.heap.size k b d l (.func (.func 78) #[] #[.pointer (some ⟨bx, 0, none⟩)]) D8 w8) := hT8
    have y0 : w8.cell? ⟨w.heap.size + 1 + 1, 0, none⟩ = some (.int .i64 0) := cell_of_row _ _ _ _ _ _ hT8.r2
    have z0 : w8.frozen? ⟨w.heap.size + 1 + 1, 0, none⟩ = false := frozen_of_row w8 (w.heap.size + 1 + 1) 0 _ _ hT8.r2
    have y1 : w8.cell? ⟨w.heap.size + 1 + 1, 1, none⟩ = some (.int .i64 0) := cell_of_row _ _ _ _ _ _ hT8.r2
    have z1 : w8.frozen? ⟨w.heap.size + 1 + 1, 1, none⟩ = false := frozen_of_row w8 (w.heap.size + 1 + 1) 1 _ _ hT8.r2
    have y2 : w8.cell? ⟨w.heap.size + 1 + 1, 2, none⟩ = some (.int .i64 0) := cell_of_row _ _ _ _ _ _ hT8.r2
    have z2 : w8.frozen? ⟨w.heap.size + 1 + 1, 2, none⟩ = false := frozen_of_row w8 (w.heap.size + 1 + 1) 2 _ _ hT8.r2
    have y3 : w8.cell? ⟨w.heap.size + 1 + 1, 3, none⟩ = some (.int .i64 0) := cell_of_row _ _ _ _ _ _ hT8.r2
    have z3 : w8.frozen? ⟨w.heap.size + 1 + 1, 3, none⟩ = false := frozen_of_row w8 (w.heap.size + 1 + 1) 3 _ _ hT8.r2
    clear HC HT7 HS7 hT8 hp8 hk8 x2 HC8
    obtain ⟨m, hm⟩ : ∃ m, m = n7 * 64 + n8 + 1 := ⟨_, rfl⟩
    obtain ⟨u, hu⟩ : ∃ u, u = n6 + 3 := ⟨_, rfl⟩
    have hu1 : (n7 : Int) * 64 + (n8 : Int) + 1 = (m : Int) := by omega
    have hu2 : (n6 : Int) + 3 = (u : Int) := by omega
    have hw1 : IntKind.i64.wrap (m : Int) = (m : Int) := by rw [IntKind.wrap_i64]; omega
    have hw2 : IntKind.i64.wrap (u : Int) = (u : Int) := by rw [IntKind.wrap_i64]; omega
    rw [← hm, ← hu] at HRR
    clear hm hu
    go_wp2_with fail
    refine bodyPost_ret (results_cell_row rfl _ _ (w.heap.size + 1 + 1) 106 #[.int .i64 1, .int .i64 0, .int .i64 (m : Int), .int .i64 (u : Int)] (0, 0) _ rfl (heap_setCell_same _ _ _ _ _ _ (heap_setCell_same _ _ _ _ _ _ (heap_setCell_same _ _ _ _ _ _ (heap_setCell_same _ _ _ _ _ _ HR2.out.r2)))) Try.underlying106 rfl (by kernel_rfl)) rfl ⟨⟨R.2, rfl, ?_⟩, ?_⟩
    · rw [HRR.out]; first | rfl | simp
    · rw [HRR.out]; exact ⟨D8, HSS.out _ _ _ _ _ _ _ _ _ _ HS8.out.1 HS8.out.2 HR2.out.n2 (by omega)⟩
end Go.Proofs.Ytbkjcngehhdchaa
