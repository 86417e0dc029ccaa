/-
  Several texts of this seat as one: LonC3, UnW, UnC.
-/
import Derived.Test.YtbkjcngehhdchaaPk09
import Derived.Test.YtbkjcngehhdchaaPk12
import Derived.Laws.AppendOwn
import Derived.OwnWalk

/-!   A copy along the chain: the code's. -/
namespace Go.Proofs.Ytbkjcngehhdchaa
open Go.RowKit
set_option linter.unusedVariables false
set_option linter.unusedSimpArgs false

theorem wrap_in {x : Int} (h1 : -9223372036854775808 ≤ x) (h2 : x ≤ 9223372036854775807) : IntKind.i64.wrap x = x := by rw [IntKind.wrap_i64]; omega
set_option maxRecDepth 100000 in
set_option maxHeartbeats 2000000 in
theorem copy_any (s : ByteArray) (a g c : Nat) (st : Nat → Nat) (w : World) (ha : a < s.size) (hs : s.size ≤ 4000) (hst : StOk (bsOf s) s.size st) (hle : ∀ j, j < s.size → st j ≤ 4000)
    (hc : ∀ j, j < s.size → w.cell? ⟨g, j, none⟩ = some (.int .i64 (st j : Nat))) (hg : g < w.heap.size) :
    Calls Try.prog 95 #[.string s, .slice (some ⟨g, 0, none⟩) s.size c, .int .i64 (a : Int)] w fun e w' => (∃ d n : Nat, IsB (g3 (lonF s a)) a d n ∧ n ≤ 66 ∧ e = .returned (.tuple #[.int .i64 (d : Int), .int .i64 (n : Int)])) ∧ Below w.heap.size w w' := by
  obtain ⟨M, hM⟩ : ∃ M, M = min 66 (s.size - a) := ⟨_, rfl⟩
  have hfM : lonF s a = mlen (bsOf s) M a := by unfold lonF; rw [hM]
  have HSAME : Hid (∀ (x y : ByteArray) (w : World), y.size ≤ x.size → x.size ≤ 4000 → _) := fun x y w h1 h2 => same_any x y w h1 h2
  have HST : Hid (∀ p d n, p ≤ a → (p = a ∨ (3 ≤ M ∧ T3 (bsOf s) a p)) → 0 < st p → IsB (g3 (lonF s a)) (a - p) d n → _) := fun p d n h1 h2 h3 h4 => by
    rw [hfM] at h4
    exact chain_step hst ha hM h1 h2 h3 h4
  have HEND : Hid (∀ p d n, p ≤ a → (p = a ∨ (3 ≤ M ∧ T3 (bsOf s) a p)) → (M ≤ n ∨ st p = 0) → IsB (g3 (lonF s a)) (a - p) d n → IsB (g3 (lonF s a)) a d n) := fun p d n h1 h2 h3 h4 => by
    rw [hfM] at h4 ⊢
    exact chain_end hst ha hM h1 h2 h3 h4
  have HEQ : Hid (∀ e n, n ≤ M → (∀ j, j < n → bsOf s (a + j - e) = bsOf s (a + j)) → (n = M ∨ bsOf s (a + n - e) ≠ bsOf s (a + n)) → mlen (bsOf s) M a e = n) := fun e n h1 h2 h3 => mlen_eq h1 h2 h3
  have HC : Hid (∀ j, j < s.size → w.cell? ⟨g, j, none⟩ = some (.int .i64 (st j : Nat))) := hc
  have HG : Hid (g < w.heap.size) := hg
  have HLE : Hid (∀ j, j < s.size → st j ≤ 4000) := hle
  have HFM : Hid _ := hfM
  have hsz : (s.size : Int) ≤ 4000 := by omega
  have haI : (a : Int) < (s.size : Int) := by omega
  have hM1 : M ≤ s.size - a := by omega
  have hM2 : M ≤ 66 := by omega
  have hw0 : IntKind.i64.wrap ((s.size : Int) - (a : Int)) = (s.size : Int) - (a : Int) := wrap_in (by omega) (by omega)
  have HMM : Hid (M = min 66 (s.size - a)) := hM
  clear hst hle hc hg hfM hM
  by_cases hm : 66 ≤ s.size - a
  · have hmi : 66 ≤ (s.size : Int) - (a : Int) := by omega
    have HMI : Hid ((66 : Int) = (M : Int)) := by have := HMM.out; show (66 : Int) = (M : Int); omega
    go_enter Try.func95, Try.ntmps95
    go_wp2_with fail
    rw [HMI.out]
    go_loopw [8, 9, 11] (fun x y c wr => ∃ d n p : Nat, p ≤ a ∧ n ≤ 66 ∧ x = .int .i64 (d : Int) ∧ y = .int .i64 (n : Int) ∧ c = .int .i64 (p : Int) ∧ Hid ((p = a ∨ (3 ≤ M ∧ T3 (bsOf s) a p)) ∧ IsB (g3 (lonF s a)) (a - p) d n) ∧ Below w.heap.size w wr) (fun _ _ c _ => (lonIntOf c).toNat)
    case atStart => exact ⟨0, 0, a, Nat.le_refl _, by omega, rfl, rfl, rfl, ⟨Or.inl rfl, by rw [Nat.sub_self]; exact IsB.zero _⟩, Below.refl _ _⟩
    case round =>
      obtain ⟨d, n, p, hp, hn66, rfl, rfl, rfl, HI, hb⟩ := hrel
      have hpL : p < s.size := by omega
      have hpI : (p : Int) < (s.size : Int) := by omega
      have hcell : wr.cell? ⟨g, p, none⟩ = some (.int .i64 (st p : Nat)) := (hb.cell (p := ⟨g, p, none⟩) HG.out).trans (HC.out p hpL)
      have hstp := HLE.out p hpL
      by_cases h1 : n < M
      · have h1I : (n : Int) < (M : Int) := by omega
        by_cases h2 : 0 < st p
        · obtain ⟨hq1, hM3, hT, hB, hg⟩ := HST.out p d n hp HI.out.1 h2 HI.out.2
          obtain ⟨q, hq⟩ : ∃ q, q = p - st p := ⟨_, rfl⟩
          rw [← hq] at hT hB hg
          have h2I : 0 < ((st p : Nat) : Int) := by omega
          have hqI : IntKind.i64.wrap ((p : Int) - ((st p : Nat) : Int)) = (q : Int) := by rw [IntKind.wrap_i64]; omega
          have hqp : q < p := by omega
          obtain ⟨u, hu⟩ : ∃ u, u = a + M := ⟨_, rfl⟩
          have hw1 : IntKind.i64.wrap ((a : Int) + (M : Int)) = (u : Int) := by rw [IntKind.wrap_i64]; omega
          have hx1 : q ≤ s.size := by omega
          have hx2 : u ≤ s.size := by omega
          have hx3 : a ≤ u := by omega
          have hx1I : (q : Int) ≤ (s.size : Int) := by omega
          have hx2I : (u : Int) ≤ (s.size : Int) := by omega
          have hx3I : (a : Int) ≤ (u : Int) := by omega
          have hz1 : (s.extract q s.size).size = s.size - q := by simp
          have hz2 : (s.extract a u).size = M := by simp; omega
          have haq : (a : Int) - (q : Int) = ((a - q : Nat) : Int) := by omega
          have HCS : Hid (∀ w, Calls Try.prog 102 #[.string (s.extract q s.size), .string (s.extract a u)] w fun e w' => (∃ k : Nat, k ≤ M ∧ g3 (lonF s a) (a - q) = k ∧ e = .returned (.int .i64 (k : Int))) ∧ Below w.heap.size w w') := fun w => by
            refine (HSAME.out (s.extract q s.size) (s.extract a u) w (by omega) (by omega)).mono ?_
            rintro e w' ⟨⟨k, hk1, hk2, hk3, rfl⟩, hb⟩
            rw [hz2] at hk1 hk3
            refine ⟨⟨k, hk1, ?_, rfl⟩, hb⟩
            rw [HFM.out, hg]
            refine HEQ.out (a - q) k hk1 (fun j hj => ?_) ?_
            · have := hk2 j hj
              rw [bsOf_ext _ _ _ _ (by omega), bsOf_ext _ _ _ _ (by omega)] at this
              rw [show a + j - (a - q) = q + j by omega]; exact this
            · by_cases hkM : k = M
              · exact Or.inl hkM
              · rcases hk3 with hk3 | hk3
                · exact Or.inl hk3
                · rw [bsOf_ext _ _ _ _ (by omega), bsOf_ext _ _ _ _ (by omega)] at hk3
                  exact Or.inr (by rw [show a + k - (a - q) = q + k by omega]; exact hk3)
          have HNEXT : Hid (3 ≤ M ∧ T3 (bsOf s) a q ∧ IsB (g3 (lonF s a)) (a - q - 1) d n) := ⟨hM3, hT, by rw [HFM.out]; exact hB⟩
          have HQ : Hid (q < p ∧ p ≤ a) := ⟨hqp, hp⟩
          clear hq hu hT hB hg hM3 hq1 hz1 hz2
          generalize st p = stp at *
          obtain ⟨S, hSS⟩ : ∃ S : World → Prop, S = fun w' => Below w.heap.size w w' := ⟨_, rfl⟩
          have hSd : S wr.drew := by rw [hSS]; exact hb.drew
          have HS : Hid _ := hSS
          clear hSS
          go_wp2_with fail
          refine wp_region_held (S := S) (by kernel_rfl) ?_
          change wpAnyH _ _ _ _ _ _ _ _ (World.drew _)
          refine wpAnyH_take (i := 0) (v := .string s) rfl (by kernel_rfl) (by kernel_rfl) (by kernel_rfl) (fun _ _ _ h => h) (Or.inl ⟨by rfl, by intro w' hS'; go_simp <;> (first | omega | (rw [IntKind.wrap_i64]; omega) | (rw [IntKind.wrap_u64]; omega) | (rw [IntKind.wrap_u32]; omega) | (rw [Int.tmod_eq_emod_of_nonneg (by omega)]))⟩) hSd ?_
          (try simp only [List.getElem_toArray, List.getElem_cons_succ, List.getElem_cons_zero, Act.put, List.setIfInBounds_toArray, List.set_cons_zero, List.set_cons_succ])
          refine wpAnyH_take (i := 1) (v := .int .i64 (q : Int)) rfl (by kernel_rfl) (by kernel_rfl) (by kernel_rfl) (fun _ _ _ h => h) (Or.inl ⟨by rfl, by intro w' hS'; go_simp <;> (first | omega | (rw [IntKind.wrap_i64]; omega) | (rw [IntKind.wrap_u64]; omega) | (rw [IntKind.wrap_u32]; omega) | (rw [Int.tmod_eq_emod_of_nonneg (by omega)]))⟩) hSd ?_
          (try simp only [List.getElem_toArray, List.getElem_cons_succ, List.getElem_cons_zero, Act.put, List.setIfInBounds_toArray, List.set_cons_zero, List.set_cons_succ])
          refine wpAnyH_take (i := 2) (v := .string (s.extract q s.size)) rfl (by kernel_rfl) (by kernel_rfl) (by kernel_rfl) (fun _ _ _ h => h) (Or.inl ⟨by rfl, by intro w' hS'; go_simp <;> (first | omega | (rw [IntKind.wrap_i64]; omega) | (rw [IntKind.wrap_u64]; omega) | (rw [IntKind.wrap_u32]; omega) | (rw [Int.tmod_eq_emod_of_nonneg (by omega)]))⟩) hSd ?_
          (try simp only [List.getElem_toArray, List.getElem_cons_succ, List.getElem_cons_zero, Act.put, List.setIfInBounds_toArray, List.set_cons_zero, List.set_cons_succ])
          refine wpAnyH_take (i := 3) (v := .string s) rfl (by kernel_rfl) (by kernel_rfl) (by kernel_rfl) (fun _ _ _ h => h) (Or.inl ⟨by rfl, by intro w' hS'; go_simp <;> (first | omega | (rw [IntKind.wrap_i64]; omega) | (rw [IntKind.wrap_u64]; omega) | (rw [IntKind.wrap_u32]; omega) | (rw [Int.tmod_eq_emod_of_nonneg (by omega)]))⟩) hSd ?_
          (try simp only [List.getElem_toArray, List.getElem_cons_succ, List.getElem_cons_zero, Act.put, List.setIfInBounds_toArray, List.set_cons_zero, List.set_cons_succ])
          refine wpAnyH_take (i := 4) (v := .int .i64 (a : Int)) rfl (by kernel_rfl) (by kernel_rfl) (by kernel_rfl) (fun _ _ _ h => h) (Or.inl ⟨by rfl, by intro w' hS'; go_simp <;> (first | omega | (rw [IntKind.wrap_i64]; omega) | (rw [IntKind.wrap_u64]; omega) | (rw [IntKind.wrap_u32]; omega) | (rw [Int.tmod_eq_emod_of_nonneg (by omega)]))⟩) hSd ?_
          (try simp only [List.getElem_toArray, List.getElem_cons_succ, List.getElem_cons_zero, Act.put, List.setIfInBounds_toArray, List.set_cons_zero, List.set_cons_succ])
          refine wpAnyH_take (i := 5) (v := .int .i64 (a : Int)) rfl (by kernel_rfl) (by kernel_rfl) (by kernel_rfl) (fun _ _ _ h => h) (Or.inl ⟨by rfl, by intro w' hS'; go_simp <;> (first | omega | (rw [IntKind.wrap_i64]; omega) | (rw [IntKind.wrap_u64]; omega) | (rw [IntKind.wrap_u32]; omega) | (rw [Int.tmod_eq_emod_of_nonneg (by omega)]))⟩) hSd ?_
          (try simp only [List.getElem_toArray, List.getElem_cons_succ, List.getElem_cons_zero, Act.put, List.setIfInBounds_toArray, List.set_cons_zero, List.set_cons_succ])
          refine wpAnyH_take (i := 6) (v := .int .i64 (M : Int)) rfl (by kernel_rfl) (by kernel_rfl) (by kernel_rfl) (fun _ _ _ h => h) (Or.inl ⟨by rfl, by intro w' hS'; go_simp <;> (first | omega | (rw [IntKind.wrap_i64]; omega) | (rw [IntKind.wrap_u64]; omega) | (rw [IntKind.wrap_u32]; omega) | (rw [Int.tmod_eq_emod_of_nonneg (by omega)]))⟩) hSd ?_
          (try simp only [List.getElem_toArray, List.getElem_cons_succ, List.getElem_cons_zero, Act.put, List.setIfInBounds_toArray, List.set_cons_zero, List.set_cons_succ])
          refine wpAnyH_take (i := 7) (v := .int .i64 (u : Int)) rfl (by kernel_rfl) (by kernel_rfl) (by kernel_rfl) (fun _ _ _ h => h) (Or.inl ⟨by rfl, by intro w' hS'; go_simp <;> (first | omega | (rw [IntKind.wrap_i64]; omega) | (rw [IntKind.wrap_u64]; omega) | (rw [IntKind.wrap_u32]; omega) | (rw [Int.tmod_eq_emod_of_nonneg (by omega)]) | exact hw1)⟩) hSd ?_
          (try simp only [List.getElem_toArray, List.getElem_cons_succ, List.getElem_cons_zero, Act.put, List.setIfInBounds_toArray, List.set_cons_zero, List.set_cons_succ])
          refine wpAnyH_take (i := 8) (v := .string (s.extract a u)) rfl (by kernel_rfl) (by kernel_rfl) (by kernel_rfl) (fun _ _ _ h => h) (Or.inl ⟨by rfl, by intro w' hS'; go_simp <;> (first | omega | (rw [IntKind.wrap_i64]; omega) | (rw [IntKind.wrap_u64]; omega) | (rw [IntKind.wrap_u32]; omega) | (rw [Int.tmod_eq_emod_of_nonneg (by omega)]))⟩) hSd ?_
          (try simp only [List.getElem_toArray, List.getElem_cons_succ, List.getElem_cons_zero, Act.put, List.setIfInBounds_toArray, List.set_cons_zero, List.set_cons_succ])
          refine held_step (i := 9) (by kernel_rfl) rfl (by rfl) ?_
          go_simp
          refine (HCS.out _).mono ?_
          rintro e wq ⟨⟨k, hk, hgk, rfl⟩, hbk⟩
          have hb0 : Below w.heap.size w wr.drew := by have h := hSd; rw [HS.out] at h; exact h
          have hb1 := bl_trans3 hb0 hbk hb0.size
          have hS1 : S wq := by rw [HS.out]; exact hb1
          clear hb0 hbk
          refine ⟨hS1, ?_⟩
          (try simp only [List.getElem_toArray, List.getElem_cons_succ, List.getElem_cons_zero, Act.put, List.setIfInBounds_toArray, List.set_cons_zero, List.set_cons_succ])
          refine wpAnyH_take (i := 10) (v := .int .i64 (k : Int)) rfl (by kernel_rfl) (by kernel_rfl) (by kernel_rfl) (fun _ _ _ h => h) (Or.inl ⟨by rfl, by intro w' hS'; go_simp <;> (first | omega | (rw [IntKind.wrap_i64]; omega) | (rw [IntKind.wrap_u64]; omega) | (rw [IntKind.wrap_u32]; omega) | (rw [Int.tmod_eq_emod_of_nonneg (by omega)]))⟩) hS1 ?_
          (try simp only [List.getElem_toArray, List.getElem_cons_succ, List.getElem_cons_zero, Act.put, List.setIfInBounds_toArray, List.set_cons_zero, List.set_cons_succ])
          refine wpAnyH_done (by kernel_rfl) ?_ _
          have HGK : Hid (g3 (lonF s a) (a - q) = k) := hgk
          clear hgk
          by_cases h3 : n < k
          · have h3I : (n : Int) < (k : Int) := by omega
            go_wp2_with fail
            go_roundw
            case rel => exact ⟨a - q, k, q, by have := HQ.out; omega, by omega, by first | rfl | (rw [← haq]), rfl, rfl, ⟨Or.inr ⟨HNEXT.out.1, HNEXT.out.2.1⟩, by
              have hm := HNEXT.out.2.2.more (by rw [show a - q - 1 + 1 = a - q by have := HQ.out; omega, HGK.out]; exact h3)
              rw [show a - q - 1 + 1 = a - q by have := HQ.out; omega, HGK.out] at hm
              exact hm⟩, hb1⟩
            case measure => simp [lonIntOf]; have := HQ.out; omega
          · have h3I : ¬ (n : Int) < (k : Int) := by omega
            go_wp2_with fail
            go_roundw
            case rel => exact ⟨d, n, q, by have := HQ.out; omega, hn66, rfl, rfl, rfl, ⟨Or.inr ⟨HNEXT.out.1, HNEXT.out.2.1⟩, by
              have hm := HNEXT.out.2.2.less (by rw [show a - q - 1 + 1 = a - q by have := HQ.out; omega, HGK.out]; omega)
              rw [show a - q - 1 + 1 = a - q by have := HQ.out; omega] at hm
              exact hm⟩, hb1⟩
            case measure => simp [lonIntOf]; have := HQ.out; omega
        · have h20 : st p = 0 := by omega
          have HE : Hid _ := HEND.out p d n hp HI.out.1 (Or.inr h20) HI.out.2
          have h2I : ¬ 0 < ((st p : Nat) : Int) := by omega
          clear h20 HI
          generalize st p = stp at *
          go_wp2_with fail
          go_ret2
          exact ⟨⟨d, n, HE.out, hn66, rfl⟩, hb⟩
      · have h1I : ¬ (n : Int) < (M : Int) := by omega
        have HE : Hid _ := HEND.out p d n hp HI.out.1 (Or.inl (by omega)) HI.out.2
        clear HI
        generalize st p = stp at *
        go_wp2_with fail
        go_ret2
        exact ⟨⟨d, n, HE.out, hn66, rfl⟩, hb⟩
  · have hmi : ¬ 66 ≤ (s.size : Int) - (a : Int) := by omega
    have HMI : Hid ((s.size : Int) - (a : Int) = (M : Int)) := by have := HMM.out; show (s.size : Int) - (a : Int) = (M : Int); omega
    go_enter Try.func95, Try.ntmps95
    go_wp2_with fail
    rw [HMI.out]
    go_loopw [8, 9, 11] (fun x y c wr => ∃ d n p : Nat, p ≤ a ∧ n ≤ 66 ∧ x = .int .i64 (d : Int) ∧ y = .int .i64 (n : Int) ∧ c = .int .i64 (p : Int) ∧ Hid ((p = a ∨ (3 ≤ M ∧ T3 (bsOf s) a p)) ∧ IsB (g3 (lonF s a)) (a - p) d n) ∧ Below w.heap.size w wr) (fun _ _ c _ => (lonIntOf c).toNat)
    case atStart => exact ⟨0, 0, a, Nat.le_refl _, by omega, rfl, rfl, rfl, ⟨Or.inl rfl, by rw [Nat.sub_self]; exact IsB.zero _⟩, Below.refl _ _⟩
    case round =>
      obtain ⟨d, n, p, hp, hn66, rfl, rfl, rfl, HI, hb⟩ := hrel
      have hpL : p < s.size := by omega
      have hpI : (p : Int) < (s.size : Int) := by omega
      have hcell : wr.cell? ⟨g, p, none⟩ = some (.int .i64 (st p : Nat)) := (hb.cell (p := ⟨g, p, none⟩) HG.out).trans (HC.out p hpL)
      have hstp := HLE.out p hpL
      by_cases h1 : n < M
      · have h1I : (n : Int) < (M : Int) := by omega
        by_cases h2 : 0 < st p
        · obtain ⟨hq1, hM3, hT, hB, hg⟩ := HST.out p d n hp HI.out.1 h2 HI.out.2
          obtain ⟨q, hq⟩ : ∃ q, q = p - st p := ⟨_, rfl⟩
          rw [← hq] at hT hB hg
          have h2I : 0 < ((st p : Nat) : Int) := by omega
          have hqI : IntKind.i64.wrap ((p : Int) - ((st p : Nat) : Int)) = (q : Int) := by rw [IntKind.wrap_i64]; omega
          have hqp : q < p := by omega
          obtain ⟨u, hu⟩ : ∃ u, u = a + M := ⟨_, rfl⟩
          have hw1 : IntKind.i64.wrap ((a : Int) + (M : Int)) = (u : Int) := by rw [IntKind.wrap_i64]; omega
          have hx1 : q ≤ s.size := by omega
          have hx2 : u ≤ s.size := by omega
          have hx3 : a ≤ u := by omega
          have hx1I : (q : Int) ≤ (s.size : Int) := by omega
          have hx2I : (u : Int) ≤ (s.size : Int) := by omega
          have hx3I : (a : Int) ≤ (u : Int) := by omega
          have hz1 : (s.extract q s.size).size = s.size - q := by simp
          have hz2 : (s.extract a u).size = M := by simp; omega
          have haq : (a : Int) - (q : Int) = ((a - q : Nat) : Int) := by omega
          have HCS : Hid (∀ w, Calls Try.prog 102 #[.string (s.extract q s.size), .string (s.extract a u)] w fun e w' => (∃ k : Nat, k ≤ M ∧ g3 (lonF s a) (a - q) = k ∧ e = .returned (.int .i64 (k : Int))) ∧ Below w.heap.size w w') := fun w => by
            refine (HSAME.out (s.extract q s.size) (s.extract a u) w (by omega) (by omega)).mono ?_
            rintro e w' ⟨⟨k, hk1, hk2, hk3, rfl⟩, hb⟩
            rw [hz2] at hk1 hk3
            refine ⟨⟨k, hk1, ?_, rfl⟩, hb⟩
            rw [HFM.out, hg]
            refine HEQ.out (a - q) k hk1 (fun j hj => ?_) ?_
            · have := hk2 j hj
              rw [bsOf_ext _ _ _ _ (by omega), bsOf_ext _ _ _ _ (by omega)] at this
              rw [show a + j - (a - q) = q + j by omega]; exact this
            · by_cases hkM : k = M
              · exact Or.inl hkM
              · rcases hk3 with hk3 | hk3
                · exact Or.inl hk3
                · rw [bsOf_ext _ _ _ _ (by omega), bsOf_ext _ _ _ _ (by omega)] at hk3
                  exact Or.inr (by rw [show a + k - (a - q) = q + k by omega]; exact hk3)
          have HNEXT : Hid (3 ≤ M ∧ T3 (bsOf s) a q ∧ IsB (g3 (lonF s a)) (a - q - 1) d n) := ⟨hM3, hT, by rw [HFM.out]; exact hB⟩
          have HQ : Hid (q < p ∧ p ≤ a) := ⟨hqp, hp⟩
          clear hq hu hT hB hg hM3 hq1 hz1 hz2
          generalize st p = stp at *
          obtain ⟨S, hSS⟩ : ∃ S : World → Prop, S = fun w' => Below w.heap.size w w' := ⟨_, rfl⟩
          have hSd : S wr.drew := by rw [hSS]; exact hb.drew
          have HS : Hid _ := hSS
          clear hSS
          go_wp2_with fail
          refine wp_region_held (S := S) (by kernel_rfl) ?_
          change wpAnyH _ _ _ _ _ _ _ _ (World.drew _)
          refine wpAnyH_take (i := 0) (v := .string s) rfl (by kernel_rfl) (by kernel_rfl) (by kernel_rfl) (fun _ _ _ h => h) (Or.inl ⟨by rfl, by intro w' hS'; go_simp <;> (first | omega | (rw [IntKind.wrap_i64]; omega) | (rw [IntKind.wrap_u64]; omega) | (rw [IntKind.wrap_u32]; omega) | (rw [Int.tmod_eq_emod_of_nonneg (by omega)]))⟩) hSd ?_
          (try simp only [List.getElem_toArray, List.getElem_cons_succ, List.getElem_cons_zero, Act.put, List.setIfInBounds_toArray, List.set_cons_zero, List.set_cons_succ])
          refine wpAnyH_take (i := 1) (v := .int .i64 (q : Int)) rfl (by kernel_rfl) (by kernel_rfl) (by kernel_rfl) (fun _ _ _ h => h) (Or.inl ⟨by rfl, by intro w' hS'; go_simp <;> (first | omega | (rw [IntKind.wrap_i64]; omega) | (rw [IntKind.wrap_u64]; omega) | (rw [IntKind.wrap_u32]; omega) | (rw [Int.tmod_eq_emod_of_nonneg (by omega)]))⟩) hSd ?_
          (try simp only [List.getElem_toArray, List.getElem_cons_succ, List.getElem_cons_zero, Act.put, List.setIfInBounds_toArray, List.set_cons_zero, List.set_cons_succ])
          refine wpAnyH_take (i := 2) (v := .string (s.extract q s.size)) rfl (by kernel_rfl) (by kernel_rfl) (by kernel_rfl) (fun _ _ _ h => h) (Or.inl ⟨by rfl, by intro w' hS'; go_simp <;> (first | omega | (rw [IntKind.wrap_i64]; omega) | (rw [IntKind.wrap_u64]; omega) | (rw [IntKind.wrap_u32]; omega) | (rw [Int.tmod_eq_emod_of_nonneg (by omega)]))⟩) hSd ?_
          (try simp only [List.getElem_toArray, List.getElem_cons_succ, List.getElem_cons_zero, Act.put, List.setIfInBounds_toArray, List.set_cons_zero, List.set_cons_succ])
          refine wpAnyH_take (i := 3) (v := .string s) rfl (by kernel_rfl) (by kernel_rfl) (by kernel_rfl) (fun _ _ _ h => h) (Or.inl ⟨by rfl, by intro w' hS'; go_simp <;> (first | omega | (rw [IntKind.wrap_i64]; omega) | (rw [IntKind.wrap_u64]; omega) | (rw [IntKind.wrap_u32]; omega) | (rw [Int.tmod_eq_emod_of_nonneg (by omega)]))⟩) hSd ?_
          (try simp only [List.getElem_toArray, List.getElem_cons_succ, List.getElem_cons_zero, Act.put, List.setIfInBounds_toArray, List.set_cons_zero, List.set_cons_succ])
          refine wpAnyH_take (i := 4) (v := .int .i64 (a : Int)) rfl (by kernel_rfl) (by kernel_rfl) (by kernel_rfl) (fun _ _ _ h => h) (Or.inl ⟨by rfl, by intro w' hS'; go_simp <;> (first | omega | (rw [IntKind.wrap_i64]; omega) | (rw [IntKind.wrap_u64]; omega) | (rw [IntKind.wrap_u32]; omega) | (rw [Int.tmod_eq_emod_of_nonneg (by omega)]))⟩) hSd ?_
          (try simp only [List.getElem_toArray, List.getElem_cons_succ, List.getElem_cons_zero, Act.put, List.setIfInBounds_toArray, List.set_cons_zero, List.set_cons_succ])
          refine wpAnyH_take (i := 5) (v := .int .i64 (a : Int)) rfl (by kernel_rfl) (by kernel_rfl) (by kernel_rfl) (fun _ _ _ h => h) (Or.inl ⟨by rfl, by intro w' hS'; go_simp <;> (first | omega | (rw [IntKind.wrap_i64]; omega) | (rw [IntKind.wrap_u64]; omega) | (rw [IntKind.wrap_u32]; omega) | (rw [Int.tmod_eq_emod_of_nonneg (by omega)]))⟩) hSd ?_
          (try simp only [List.getElem_toArray, List.getElem_cons_succ, List.getElem_cons_zero, Act.put, List.setIfInBounds_toArray, List.set_cons_zero, List.set_cons_succ])
          refine wpAnyH_take (i := 6) (v := .int .i64 (M : Int)) rfl (by kernel_rfl) (by kernel_rfl) (by kernel_rfl) (fun _ _ _ h => h) (Or.inl ⟨by rfl, by intro w' hS'; go_simp <;> (first | omega | (rw [IntKind.wrap_i64]; omega) | (rw [IntKind.wrap_u64]; omega) | (rw [IntKind.wrap_u32]; omega) | (rw [Int.tmod_eq_emod_of_nonneg (by omega)]))⟩) hSd ?_
          (try simp only [List.getElem_toArray, List.getElem_cons_succ, List.getElem_cons_zero, Act.put, List.setIfInBounds_toArray, List.set_cons_zero, List.set_cons_succ])
          refine wpAnyH_take (i := 7) (v := .int .i64 (u : Int)) rfl (by kernel_rfl) (by kernel_rfl) (by kernel_rfl) (fun _ _ _ h => h) (Or.inl ⟨by rfl, by intro w' hS'; go_simp <;> (first | omega | (rw [IntKind.wrap_i64]; omega) | (rw [IntKind.wrap_u64]; omega) | (rw [IntKind.wrap_u32]; omega) | (rw [Int.tmod_eq_emod_of_nonneg (by omega)]) | exact hw1)⟩) hSd ?_
          (try simp only [List.getElem_toArray, List.getElem_cons_succ, List.getElem_cons_zero, Act.put, List.setIfInBounds_toArray, List.set_cons_zero, List.set_cons_succ])
          refine wpAnyH_take (i := 8) (v := .string (s.extract a u)) rfl (by kernel_rfl) (by kernel_rfl) (by kernel_rfl) (fun _ _ _ h => h) (Or.inl ⟨by rfl, by intro w' hS'; go_simp <;> (first | omega | (rw [IntKind.wrap_i64]; omega) | (rw [IntKind.wrap_u64]; omega) | (rw [IntKind.wrap_u32]; omega) | (rw [Int.tmod_eq_emod_of_nonneg (by omega)]))⟩) hSd ?_
          (try simp only [List.getElem_toArray, List.getElem_cons_succ, List.getElem_cons_zero, Act.put, List.setIfInBounds_toArray, List.set_cons_zero, List.set_cons_succ])
          refine held_step (i := 9) (by kernel_rfl) rfl (by rfl) ?_
          go_simp
          refine (HCS.out _).mono ?_
          rintro e wq ⟨⟨k, hk, hgk, rfl⟩, hbk⟩
          have hb0 : Below w.heap.size w wr.drew := by have h := hSd; rw [HS.out] at h; exact h
          have hb1 := bl_trans3 hb0 hbk hb0.size
          have hS1 : S wq := by rw [HS.out]; exact hb1
          clear hb0 hbk
          refine ⟨hS1, ?_⟩
          (try simp only [List.getElem_toArray, List.getElem_cons_succ, List.getElem_cons_zero, Act.put, List.setIfInBounds_toArray, List.set_cons_zero, List.set_cons_succ])
          refine wpAnyH_take (i := 10) (v := .int .i64 (k : Int)) rfl (by kernel_rfl) (by kernel_rfl) (by kernel_rfl) (fun _ _ _ h => h) (Or.inl ⟨by rfl, by intro w' hS'; go_simp <;> (first | omega | (rw [IntKind.wrap_i64]; omega) | (rw [IntKind.wrap_u64]; omega) | (rw [IntKind.wrap_u32]; omega) | (rw [Int.tmod_eq_emod_of_nonneg (by omega)]))⟩) hS1 ?_
          (try simp only [List.getElem_toArray, List.getElem_cons_succ, List.getElem_cons_zero, Act.put, List.setIfInBounds_toArray, List.set_cons_zero, List.set_cons_succ])
          refine wpAnyH_done (by kernel_rfl) ?_ _
          have HGK : Hid (g3 (lonF s a) (a - q) = k) := hgk
          clear hgk
          by_cases h3 : n < k
          · have h3I : (n : Int) < (k : Int) := by omega
            go_wp2_with fail
            go_roundw
            case rel => exact ⟨a - q, k, q, by have := HQ.out; omega, by omega, by first | rfl | (rw [← haq]), rfl, rfl, ⟨Or.inr ⟨HNEXT.out.1, HNEXT.out.2.1⟩, by
              have hm := HNEXT.out.2.2.more (by rw [show a - q - 1 + 1 = a - q by have := HQ.out; omega, HGK.out]; exact h3)
              rw [show a - q - 1 + 1 = a - q by have := HQ.out; omega, HGK.out] at hm
              exact hm⟩, hb1⟩
            case measure => simp [lonIntOf]; have := HQ.out; omega
          · have h3I : ¬ (n : Int) < (k : Int) := by omega
            go_wp2_with fail
            go_roundw
            case rel => exact ⟨d, n, q, by have := HQ.out; omega, hn66, rfl, rfl, rfl, ⟨Or.inr ⟨HNEXT.out.1, HNEXT.out.2.1⟩, by
              have hm := HNEXT.out.2.2.less (by rw [show a - q - 1 + 1 = a - q by have := HQ.out; omega, HGK.out]; omega)
              rw [show a - q - 1 + 1 = a - q by have := HQ.out; omega] at hm
              exact hm⟩, hb1⟩
            case measure => simp [lonIntOf]; have := HQ.out; omega
        · have h20 : st p = 0 := by omega
          have HE : Hid _ := HEND.out p d n hp HI.out.1 (Or.inr h20) HI.out.2
          have h2I : ¬ 0 < ((st p : Nat) : Int) := by omega
          clear h20 HI
          generalize st p = stp at *
          go_wp2_with fail
          go_ret2
          exact ⟨⟨d, n, HE.out, hn66, rfl⟩, hb⟩
      · have h1I : ¬ (n : Int) < (M : Int) := by omega
        have HE : Hid _ := HEND.out p d n hp HI.out.1 (Or.inl (by omega)) HI.out.2
        clear HI
        generalize st p = stp at *
        go_wp2_with fail
        go_ret2
        exact ⟨⟨d, n, HE.out, hn66, rfl⟩, hb⟩
end Go.Proofs.Ytbkjcngehhdchaa

/-!   One token more: the code's. -/
namespace Go.Proofs.Ytbkjcngehhdchaa
open Go.RowKit
set_option linter.unusedVariables false
set_option linter.unusedSimpArgs false

theorem cell_at_new (w : World) (x : Value) (t : TypeId) (g : Nat) (hg : w.heap.size = g) : ∀ j u, [x][j]? = some u → (w.alloc (.cells #[x] t)).cell? ((⟨g, 0, none⟩ : Addr).add j) = some u := by
  subst hg; exact cell_one_new1 w x t
theorem own_apart {w : World} {B n g0 : Nat} {v : Value} {xs : List Value} {cs : Array Value} (h : w.ownsRow B 5 1 v n xs) (hb : w.heap[g0]? = some (.cells cs 106 (0, 0))) : some g0 ≠ v.ownBlock := by
  obtain ⟨hl, ⟨h0, hn⟩ | ⟨g, cap, cur, h1, h2, h3, _⟩⟩ := h
  · subst h0; intro c; cases c
  · subst h1
    intro c
    have c : some g0 = some g := c
    injection c with c
    subst c
    rw [h3] at hb
    injection hb with hb
    injection hb with _ hb _
    exact absurd hb (by decide)
structure UW (o : List Nat) (d j B g0 : Nat) (l : Int) (w wr : World) (v : Value) : Prop where
  own : wr.ownsRow B 5 1 v (o.length + j) (bL (cpI d o j))
  below : Below B w wr
  box : wr.heap[g0]? = some (.cells #[.int .i64 1, .int .i64 0, .int .i64 (d : Int), .int .i64 l] 106 (0, 0))
theorem UW.put {o : List Nat} {d j B g0 : Nat} {l : Int} {w wr w4 : World} {v v' : Value} (h : UW o d j B g0 l w wr v) (hB : B ≤ wr.heap.size) (X : Obj)
    (h1 : w4.ownsRow B 5 1 v' (o.length + j + 1) (bL (cpI d o j) ++ [.int .u8 (((cpI d o j).getD ((cpI d o j).length - d) 0 : Nat) : Int)]))
    (h2 : (wr.alloc X).grownBy w4 v.ownBlock) : UW o d (j + 1) B g0 l w w4 v' := by
  have hl := (Array.getElem?_eq_some_iff.1 h.box).1
  refine ⟨?_, (h.below.alloc hB _).grown h2 (by simp; omega) (fun k hk => (h.own.lt k hk).1), ?_⟩
  · rw [bL_snoc] at h1; exact h1
  · rw [h2.block g0 (by simp; omega) (own_apart h.own h.box), Below.heap_alloc _ _ _ hl]; exact h.box
set_option maxRecDepth 100000 in
set_option maxHeartbeats 2000000 in
theorem withT_byte (o : List Nat) (b B : Nat) (v : Value) (w : World) (hlen : o.length ≤ 4000) (hb : b < 256) (hown : w.ownsRow B 5 1 v o.length (bL o)) (hB : B ≤ w.heap.size) :
    Calls Try.prog 90 #[v, tokV 0 (b : Int) 0 0] w fun e w' => ∃ v', e = .returned v' ∧ w'.ownsRow B 5 1 v' (o.length + 1) (bL (o ++ [b])) ∧ Below B w w' := by
  unfold tokV
  obtain ⟨i0, hi, hz0, hz1, hz2⟩ := info_parts Try.infb8
  have hwb : IntKind.u8.wrap (b : Int) = (b : Int) := by rw [IntKind.wrap_u8]; omega
  go_enter Try.func90, Try.ntmps90
  go_wp2_with (at_builtin; (refine wpList_append_own _ rfl _ _ 36 rfl B 5 i0 _ 1 1 Try.underlying36 hi hz0 hz1 hz2 rfl (by decide) v o.length (bL o) rfl ((hown.alloc _).alloc _) ⟨w.heap.size + 1, 0, none⟩ 1 1 [_] rfl rfl (cell_at_new _ _ _ _ ?c1) ?c2 ?c3 ?c4 ?c5 ?_))
  case c1 => simp
  case c2 => exact byte_one _
  case c3 => unfold maxLen; omega
  case c4 => omega
  case c5 => simp; omega
  intro v' w4 hown' hgrow _
  have hb4 : Below B w w4 := (((Below.refl _ _).alloc hB _).alloc (by simp; omega) _).grown hgrow (by simp; omega) (fun k hk => (hown.lt k hk).1)
  rw [bL_snoc] at hown'
  have H4 : Hid (w4.ownsRow B 5 1 v' (o.length + 1) (bL (o ++ [b])) ∧ Below B w w4) := ⟨hown', hb4⟩
  clear hown' hgrow hown hb4
  go_wp2_with fail
  go_ret
  exact ⟨_, rfl, H4.out⟩
set_option maxRecDepth 100000 in
set_option maxHeartbeats 2000000 in
theorem withT_copy (o : List Nat) (d l B : Nat) (v : Value) (w : World) (hlen : o.length ≤ 4000) (hd1 : 1 ≤ d) (hd : d ≤ o.length) (hl : l ≤ 66) (ho : AllB o) (hown : w.ownsRow B 5 1 v o.length (bL o)) (hB : B ≤ w.heap.size) :
    Calls Try.prog 90 #[v, tokV 1 0 (d : Int) (l : Int)] w fun e w' => ∃ v', e = .returned v' ∧ w'.ownsRow B 5 1 v' (o.length + l) (bL (cpI d o l)) ∧ Below B w w' := by
  unfold tokV
  obtain ⟨i0, hi, hz0, hz1, hz2⟩ := info_parts Try.infb8
  have HU : Hid (UW o d 0 B w.heap.size l w (w.alloc (.cells #[.int .i64 1, .int .i64 0, .int .i64 (d : Int), .int .i64 (l : Int)] 106)) v) :=
    ⟨hown.alloc _, (Below.refl _ _).alloc hB _, heap_alloc_new w _⟩
  go_enter Try.func90, Try.ntmps90
  go_wp2_with fail
  go_loopw [0, 16] (fun v c wr => ∃ (j : Nat), j ≤ l ∧ c = .int .i64 (j : Int) ∧ Hid (UW o d j B w.heap.size l w wr v)) (fun _ c _ => l - (lonIntOf c).toNat)
  case atStart => exact ⟨0, by omega, rfl, HU⟩
  case round =>
    clear HU hown
    obtain ⟨j, hj, rfl, HU⟩ := hrel
    by_cases hlt : j < l
    · have hltI : (j : Int) < (l : Int) := by omega
      have hBw : B ≤ wr.heap.size := Nat.le_trans hB (by have := HU.out.below.size; omega)
      obtain ⟨g, cap, cur, rfl, _, _, hcell⟩ := own_form1 HU.out.own (by omega)
      obtain ⟨q, hq⟩ : ∃ q, o.length + j = q + d := ⟨o.length + j - d, by omega⟩
      have hcl := cpI_len d o j
      have x0 := hcell q _ (bL_at (cpI d o j) q (by omega))
      have x1 : wr.cell? ⟨w.heap.size, 2, none⟩ = some (.int .i64 (d : Int)) := cell_of_row wr _ 2 _ _ _ HU.out.box
      have hqe : (cpI d o j).length - d = q := by omega
      have HOW := HU.out.own
      have HNX : Hid (∀ v' w4, w4.ownsRow B 5 1 v' (o.length + j + 1) (bL (cpI d o j) ++ [.int .u8 (((cpI d o j).getD q 0 : Nat) : Int)]) → (wr.alloc (.cells #[.int .u8 (((cpI d o j).getD q 0 : Nat) : Int)] 5)).grownBy w4 (Value.slice (some ⟨g, 0, none⟩) (o.length + j) cap).ownBlock → UW o d (j + 1) B w.heap.size l w w4 v') := fun v' w4 h1 h2 => by
        refine HU.out.put hBw _ ?_ h2
        rw [hqe]; exact h1
      have hn4 : o.length + j ≤ 4066 := by omega
      generalize (cpI d o j).getD q 0 = c at x0 HNX
      generalize o.length + j = n at HOW hq x0 HNX hn4
      have hwn : IntKind.i64.wrap ((n : Int) - (d : Int)) = (q : Int) := by rw [IntKind.wrap_i64]; omega
      have hqn : (q : Int) < (n : Int) := by omega
      have hqN : q < n := by omega
      clear hcell hcl hqe hq
      go_wp2_with (at_builtin; (refine wpList_append_own _ rfl _ _ 36 rfl B 5 i0 _ 1 1 Try.underlying36 hi hz0 hz1 hz2 rfl (by decide) _ _ _ rfl (HOW.alloc _) ⟨wr.heap.size, 0, none⟩ 1 1 [_] rfl rfl (cell_at_new _ _ _ _ ?c1) ?c2 ?c3 ?c4 ?c5 ?_))
      case c1 => rfl
      case c2 => exact byte_one _
      case c3 => unfold maxLen; omega
      case c4 => omega
      case c5 => simp; omega
      intro v' w4 hown' hgrow _
      have H4 : Hid _ := HNX.out v' w4 hown' hgrow
      clear hown' hgrow HOW HNX
      go_wp2_with fail
      go_roundw
      case rel => exact ⟨j + 1, by omega, by go_num, H4⟩
      case measure => simp [lonIntOf]; omega
    · obtain rfl : j = l := by omega
      go_wp2_with fail
      go_ret
      exact ⟨_, rfl, HU.out.own, HU.out.below⟩
theorem withT_any (o : List Nat) (t : TkI) (B : Nat) (v : Value) (w : World) (hlen : o.length ≤ 4000) (ho : AllB o) (hp : tokP t.k t.b t.d t.l (o.length : Int)) (hown : w.ownsRow B 5 1 v o.length (bL o)) (hB : B ≤ w.heap.size) :
    Calls Try.prog 90 #[v, tokV t.k t.b t.d t.l] w fun e w' => ∃ v', e = .returned v' ∧ w'.ownsRow B 5 1 v' (tkOut o t).length (bL (tkOut o t)) ∧ Below B w w' := by
  obtain ⟨k, b, d, l⟩ := t
  obtain ⟨_, ⟨hk, h1, h2, hd, hl⟩ | ⟨hk, hb, h1, h2, h3, h4, h5⟩⟩ := hp
  · simp only at hk h1 h2 hd hl
    subst hk hd hl
    obtain ⟨n, rfl⟩ := Int.eq_ofNat_of_zero_le h1
    have := withT_byte o n B v w hlen (by omega) hown hB
    simpa [tkOut] using this
  · simp only at hk hb h1 h2 h3 h4 h5
    subst hk hb
    obtain ⟨n, rfl⟩ := Int.eq_ofNat_of_zero_le (a := d) (by omega)
    obtain ⟨m, rfl⟩ := Int.eq_ofNat_of_zero_le (a := l) (by omega)
    have := withT_copy o n m B v w hlen (by omega) (by omega) (by omega) ho hown hB
    simpa [tkOut, cpI_len] using this
end Go.Proofs.Ytbkjcngehhdchaa

/-!   The text of tokens: the code's. -/
namespace Go.Proofs.Ytbkjcngehhdchaa
open Go.RowKit
set_option linter.unusedVariables false
set_option linter.unusedSimpArgs false

/-- a slice of tokens, laid or made -/
structure TkRow (w : World) (g n : Nat) (F : Nat → TkI) : Prop where
  lt : g < w.heap.size
  c0 : ∀ i, i < n → w.cell? ⟨g, 4 * i, none⟩ = some (.int .i64 (F i).k)
  c1 : ∀ i, i < n → w.cell? ⟨g, 4 * i + 1, none⟩ = some (.int .i64 (F i).b)
  c2 : ∀ i, i < n → w.cell? ⟨g, 4 * i + 2, none⟩ = some (.int .i64 (F i).d)
  c3 : ∀ i, i < n → w.cell? ⟨g, 4 * i + 3, none⟩ = some (.int .i64 (F i).l)
theorem TkRow.below {w w' : World} {g n B : Nat} {F : Nat → TkI} (h : TkRow w g n F) (hb : Below B w w') (hg : g < B) : TkRow w' g n F :=
  ⟨Nat.lt_of_lt_of_le h.lt hb.size, fun i hi => (hb.cell hg).trans (h.c0 i hi), fun i hi => (hb.cell hg).trans (h.c1 i hi), fun i hi => (hb.cell hg).trans (h.c2 i hi), fun i hi => (hb.cell hg).trans (h.c3 i hi)⟩
def unAns : Option (List Nat) → Value
  | some o => .tuple #[.string (strL o), .bool true]
  | none => .tuple #[.string ⟨#[]⟩, .bool false]
/-- the code's, at whatever slice of tokens -/
def TkArg (w : World) (v : Value) (n : Nat) (F : Nat → TkI) : Prop := ∃ a c, v = .slice a n c ∧ (0 < n → ∃ g, a = some ⟨g, 0, none⟩ ∧ TkRow w g n F)
theorem TkArg.below {w w' : World} {v : Value} {n : Nat} {F : Nat → TkI} (h : TkArg w v n F) (hb : Below w.heap.size w w') : TkArg w' v n F := by
  obtain ⟨a, c, h1, h2⟩ := h
  exact ⟨a, c, h1, fun h0 => by obtain ⟨g, h3, h4⟩ := h2 h0; exact ⟨g, h3, h4.below hb h4.lt⟩⟩
noncomputable def unOf (F : Nat → TkI) (n : Nat) : Option (List Nat) := if n ≤ 4000 then unPre F n else none
end Go.Proofs.Ytbkjcngehhdchaa
