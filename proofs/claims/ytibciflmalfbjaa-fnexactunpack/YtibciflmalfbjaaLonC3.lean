/-
  A copy along the chain: the code's.
-/
import Derived.Test.YtibciflmalfbjaaLonC
import Derived.Test.YtibciflmalfbjaaLonH
namespace Go.Proofs.Ytibciflmalfbjaa
open Go.RowKit
set_option linter.unusedVariables false
set_option linter.unusedSimpArgs false

theorem wrap_in {x : Int} (h1 : -9223372036854775808 ≤ x) (h2 : x ≤ 9223372036854775807) : IntKind.i64.wrap x = x := by rw [IntKind.wrap_i64]; omega
set_option maxRecDepth 100000 in
set_option maxHeartbeats 2000000 in
theorem copy_any (s : ByteArray) (a g c : Nat) (st : Nat → Nat) (w : World) (ha : a < s.size) (hs : s.size ≤ 4000) (hst : StOk (bsOf s) s.size st) (hle : ∀ j, j < s.size → st j ≤ 4000)
    (hc : ∀ j, j < s.size → w.cell? ⟨g, j, none⟩ = some (.int .i64 (st j : Nat))) (hg : g < w.heap.size) :
    Calls Try.prog 80 #[.string s, .slice (some ⟨g, 0, none⟩) s.size c, .int .i64 (a : Int)] w fun e w' => (∃ d n : Nat, IsB (g3 (lonF s a)) a d n ∧ n ≤ 66 ∧ e = .returned (.tuple #[.int .i64 (d : Int), .int .i64 (n : Int)])) ∧ Below w.heap.size w w' := by
  obtain ⟨M, hM⟩ : ∃ M, M = min 66 (s.size - a) := ⟨_, rfl⟩
  have hfM : lonF s a = mlen (bsOf s) M a := by unfold lonF; rw [hM]
  have HSAME : Hid (∀ (x y : ByteArray) (w : World), y.size ≤ x.size → x.size ≤ 4000 → _) := fun x y w h1 h2 => same_any x y w h1 h2
  have HST : Hid (∀ p d n, p ≤ a → (p = a ∨ (3 ≤ M ∧ T3 (bsOf s) a p)) → 0 < st p → IsB (g3 (lonF s a)) (a - p) d n → _) := fun p d n h1 h2 h3 h4 => by
    rw [hfM] at h4
    exact chain_step hst ha hM h1 h2 h3 h4
  have HEND : Hid (∀ p d n, p ≤ a → (p = a ∨ (3 ≤ M ∧ T3 (bsOf s) a p)) → (M ≤ n ∨ st p = 0) → IsB (g3 (lonF s a)) (a - p) d n → IsB (g3 (lonF s a)) a d n) := fun p d n h1 h2 h3 h4 => by
    rw [hfM] at h4 ⊢
    exact chain_end hst ha hM h1 h2 h3 h4
  have HEQ : Hid (∀ e n, n ≤ M → (∀ j, j < n → bsOf s (a + j - e) = bsOf s (a + j)) → (n = M ∨ bsOf s (a + n - e) ≠ bsOf s (a + n)) → mlen (bsOf s) M a e = n) := fun e n h1 h2 h3 => mlen_eq h1 h2 h3
  have HC : Hid (∀ j, j < s.size → w.cell? ⟨g, j, none⟩ = some (.int .i64 (st j : Nat))) := hc
  have HG : Hid (g < w.heap.size) := hg
  have HLE : Hid (∀ j, j < s.size → st j ≤ 4000) := hle
  have HFM : Hid _ := hfM
  have hsz : (s.size : Int) ≤ 4000 := by omega
  have haI : (a : Int) < (s.size : Int) := by omega
  have hM1 : M ≤ s.size - a := by omega
  have hM2 : M ≤ 66 := by omega
  have hw0 : IntKind.i64.wrap ((s.size : Int) - (a : Int)) = (s.size : Int) - (a : Int) := wrap_in (by omega) (by omega)
  have HMM : Hid (M = min 66 (s.size - a)) := hM
  clear hst hle hc hg hfM hM
  by_cases hm : 66 ≤ s.size - a
  · have hmi : 66 ≤ (s.size : Int) - (a : Int) := by omega
    have HMI : Hid ((66 : Int) = (M : Int)) := by have := HMM.out; show (66 : Int) = (M : Int); omega
    go_enter Try.func80, Try.ntmps80
    go_wp2_with fail
    rw [HMI.out]
    go_loopw [8, 9, 11] (fun x y c wr => ∃ d n p : Nat, p ≤ a ∧ n ≤ 66 ∧ x = .int .i64 (d : Int) ∧ y = .int .i64 (n : Int) ∧ c = .int .i64 (p : Int) ∧ Hid ((p = a ∨ (3 ≤ M ∧ T3 (bsOf s) a p)) ∧ IsB (g3 (lonF s a)) (a - p) d n) ∧ Below w.heap.size w wr) (fun _ _ c _ => (lonIntOf c).toNat)
    case atStart => exact ⟨0, 0, a, Nat.le_refl _, by omega, rfl, rfl, rfl, ⟨Or.inl rfl, by rw [Nat.sub_self]; exact IsB.zero _⟩, Below.refl _ _⟩
    case round =>
      obtain ⟨d, n, p, hp, hn66, rfl, rfl, rfl, HI, hb⟩ := hrel
      have hpL : p < s.size := by omega
      have hpI : (p : Int) < (s.size : Int) := by omega
      have hcell : wr.cell? ⟨g, p, none⟩ = some (.int .i64 (st p : Nat)) := (hb.cell (p := ⟨g, p, none⟩) HG.out).trans (HC.out p hpL)
      have hstp := HLE.out p hpL
      by_cases h1 : n < M
      · have h1I : (n : Int) < (M : Int) := by omega
        by_cases h2 : 0 < st p
        · obtain ⟨hq1, hM3, hT, hB, hg⟩ := HST.out p d n hp HI.out.1 h2 HI.out.2
          obtain ⟨q, hq⟩ : ∃ q, q = p - st p := ⟨_, rfl⟩
          rw [← hq] at hT hB hg
          have h2I : 0 < ((st p : Nat) : Int) := by omega
          have hqI : IntKind.i64.wrap ((p : Int) - ((st p : Nat) : Int)) = (q : Int) := by rw [IntKind.wrap_i64]; omega
          have hqp : q < p := by omega
          obtain ⟨u, hu⟩ : ∃ u, u = a + M := ⟨_, rfl⟩
          have hw1 : IntKind.i64.wrap ((a : Int) + (M : Int)) = (u : Int) := by rw [IntKind.wrap_i64]; omega
          have hx1 : q ≤ s.size := by omega
          have hx2 : u ≤ s.size := by omega
          have hx3 : a ≤ u := by omega
          have hx1I : (q : Int) ≤ (s.size : Int) := by omega
          have hx2I : (u : Int) ≤ (s.size : Int) := by omega
          have hx3I : (a : Int) ≤ (u : Int) := by omega
          have hz1 : (s.extract q s.size).size = s.size - q := by simp
          have hz2 : (s.extract a u).size = M := by simp; omega
          have haq : (a : Int) - (q : Int) = ((a - q : Nat) : Int) := by omega
          have HCS : Hid (∀ w, Calls Try.prog 65 #[.string (s.extract q s.size), .string (s.extract a u)] w fun e w' => (∃ k : Nat, k ≤ M ∧ g3 (lonF s a) (a - q) = k ∧ e = .returned (.int .i64 (k : Int))) ∧ Below w.heap.size w w') := fun w => by
            refine (HSAME.out (s.extract q s.size) (s.extract a u) w (by omega) (by omega)).mono ?_
            rintro e w' ⟨⟨k, hk1, hk2, hk3, rfl⟩, hb⟩
            rw [hz2] at hk1 hk3
            refine ⟨⟨k, hk1, ?_, rfl⟩, hb⟩
            rw [HFM.out, hg]
            refine HEQ.out (a - q) k hk1 (fun j hj => ?_) ?_
            · have := hk2 j hj
              rw [bsOf_ext _ _ _ _ (by omega), bsOf_ext _ _ _ _ (by omega)] at this
              rw [show a + j - (a - q) = q + j by omega]; exact this
            · by_cases hkM : k = M
              · exact Or.inl hkM
              · rcases hk3 with hk3 | hk3
                · exact Or.inl hk3
                · rw [bsOf_ext _ _ _ _ (by omega), bsOf_ext _ _ _ _ (by omega)] at hk3
                  exact Or.inr (by rw [show a + k - (a - q) = q + k by omega]; exact hk3)
          have HNEXT : Hid (3 ≤ M ∧ T3 (bsOf s) a q ∧ IsB (g3 (lonF s a)) (a - q - 1) d n) := ⟨hM3, hT, by rw [HFM.out]; exact hB⟩
          have HQ : Hid (q < p ∧ p ≤ a) := ⟨hqp, hp⟩
          clear hq hu hT hB hg hM3 hq1 hz1 hz2
          generalize st p = stp at *
          obtain ⟨S, hSS⟩ : ∃ S : World → Prop, S = fun w' => Below w.heap.size w w' := ⟨_, rfl⟩
          have hSd : S wr.drew := by rw [hSS]; exact hb.drew
          have HS : Hid _ := hSS
          clear hSS
          go_wp2_with fail
          refine wp_region_held (S := S) (by kernel_rfl) ?_
          change wpAnyH _ _ _ _ _ _ _ _ (World.drew _)
          refine wpAnyH_take (i := 0) (v := .string s) rfl (by kernel_rfl) (by kernel_rfl) (by kernel_rfl) (fun _ _ _ h => h) (Or.inl ⟨by rfl, by intro w' hS'; go_simp <;> (first | omega | (rw [IntKind.wrap_i64]; omega) | (rw [IntKind.wrap_u64]; omega) | (rw [IntKind.wrap_u32]; omega) | (rw [Int.tmod_eq_emod_of_nonneg (by omega)]))⟩) hSd ?_
          (try simp only [List.getElem_toArray, List.getElem_cons_succ, List.getElem_cons_zero, Act.put, List.setIfInBounds_toArray, List.set_cons_zero, List.set_cons_succ])
          refine wpAnyH_take (i := 1) (v := .int .i64 (q : Int)) rfl (by kernel_rfl) (by kernel_rfl) (by kernel_rfl) (fun _ _ _ h => h) (Or.inl ⟨by rfl, by intro w' hS'; go_simp <;> (first | omega | (rw [IntKind.wrap_i64]; omega) | (rw [IntKind.wrap_u64]; omega) | (rw [IntKind.wrap_u32]; omega) | (rw [Int.tmod_eq_emod_of_nonneg (by omega)]))⟩) hSd ?_
          (try simp only [List.getElem_toArray, List.getElem_cons_succ, List.getElem_cons_zero, Act.put, List.setIfInBounds_toArray, List.set_cons_zero, List.set_cons_succ])
          refine wpAnyH_take (i := 2) (v := .string (s.extract q s.size)) rfl (by kernel_rfl) (by kernel_rfl) (by kernel_rfl) (fun _ _ _ h => h) (Or.inl ⟨by rfl, by intro w' hS'; go_simp <;> (first | omega | (rw [IntKind.wrap_i64]; omega) | (rw [IntKind.wrap_u64]; omega) | (rw [IntKind.wrap_u32]; omega) | (rw [Int.tmod_eq_emod_of_nonneg (by omega)]))⟩) hSd ?_
          (try simp only [List.getElem_toArray, List.getElem_cons_succ, List.getElem_cons_zero, Act.put, List.setIfInBounds_toArray, List.set_cons_zero, List.set_cons_succ])
          refine wpAnyH_take (i := 3) (v := .string s) rfl (by kernel_rfl) (by kernel_rfl) (by kernel_rfl) (fun _ _ _ h => h) (Or.inl ⟨by rfl, by intro w' hS'; go_simp <;> (first | omega | (rw [IntKind.wrap_i64]; omega) | (rw [IntKind.wrap_u64]; omega) | (rw [IntKind.wrap_u32]; omega) | (rw [Int.tmod_eq_emod_of_nonneg (by omega)]))⟩) hSd ?_
          (try simp only [List.getElem_toArray, List.getElem_cons_succ, List.getElem_cons_zero, Act.put, List.setIfInBounds_toArray, List.set_cons_zero, List.set_cons_succ])
          refine wpAnyH_take (i := 4) (v := .int .i64 (a : Int)) rfl (by kernel_rfl) (by kernel_rfl) (by kernel_rfl) (fun _ _ _ h => h) (Or.inl ⟨by rfl, by intro w' hS'; go_simp <;> (first | omega | (rw [IntKind.wrap_i64]; omega) | (rw [IntKind.wrap_u64]; omega) | (rw [IntKind.wrap_u32]; omega) | (rw [Int.tmod_eq_emod_of_nonneg (by omega)]))⟩) hSd ?_
          (try simp only [List.getElem_toArray, List.getElem_cons_succ, List.getElem_cons_zero, Act.put, List.setIfInBounds_toArray, List.set_cons_zero, List.set_cons_succ])
          refine wpAnyH_take (i := 5) (v := .int .i64 (a : Int)) rfl (by kernel_rfl) (by kernel_rfl) (by kernel_rfl) (fun _ _ _ h => h) (Or.inl ⟨by rfl, by intro w' hS'; go_simp <;> (first | omega | (rw [IntKind.wrap_i64]; omega) | (rw [IntKind.wrap_u64]; omega) | (rw [IntKind.wrap_u32]; omega) | (rw [Int.tmod_eq_emod_of_nonneg (by omega)]))⟩) hSd ?_
          (try simp only [List.getElem_toArray, List.getElem_cons_succ, List.getElem_cons_zero, Act.put, List.setIfInBounds_toArray, List.set_cons_zero, List.set_cons_succ])
          refine wpAnyH_take (i := 6) (v := .int .i64 (M : Int)) rfl (by kernel_rfl) (by kernel_rfl) (by kernel_rfl) (fun _ _ _ h => h) (Or.inl ⟨by rfl, by intro w' hS'; go_simp <;> (first | omega | (rw [IntKind.wrap_i64]; omega) | (rw [IntKind.wrap_u64]; omega) | (rw [IntKind.wrap_u32]; omega) | (rw [Int.tmod_eq_emod_of_nonneg (by omega)]))⟩) hSd ?_
          (try simp only [List.getElem_toArray, List.getElem_cons_succ, List.getElem_cons_zero, Act.put, List.setIfInBounds_toArray, List.set_cons_zero, List.set_cons_succ])
          refine wpAnyH_take (i := 7) (v := .int .i64 (u : Int)) rfl (by kernel_rfl) (by kernel_rfl) (by kernel_rfl) (fun _ _ _ h => h) (Or.inl ⟨by rfl, by intro w' hS'; go_simp <;> (first | omega | (rw [IntKind.wrap_i64]; omega) | (rw [IntKind.wrap_u64]; omega) | (rw [IntKind.wrap_u32]; omega) | (rw [Int.tmod_eq_emod_of_nonneg (by omega)]) | exact hw1)⟩) hSd ?_
          (try simp only [List.getElem_toArray, List.getElem_cons_succ, List.getElem_cons_zero, Act.put, List.setIfInBounds_toArray, List.set_cons_zero, List.set_cons_succ])
          refine wpAnyH_take (i := 8) (v := .string (s.extract a u)) rfl (by kernel_rfl) (by kernel_rfl) (by kernel_rfl) (fun _ _ _ h => h) (Or.inl ⟨by rfl, by intro w' hS'; go_simp <;> (first | omega | (rw [IntKind.wrap_i64]; omega) | (rw [IntKind.wrap_u64]; omega) | (rw [IntKind.wrap_u32]; omega) | (rw [Int.tmod_eq_emod_of_nonneg (by omega)]))⟩) hSd ?_
          (try simp only [List.getElem_toArray, List.getElem_cons_succ, List.getElem_cons_zero, Act.put, List.setIfInBounds_toArray, List.set_cons_zero, List.set_cons_succ])
          refine held_step (i := 9) (by kernel_rfl) rfl (by rfl) ?_
          go_simp
          refine (HCS.out _).mono ?_
          rintro e wq ⟨⟨k, hk, hgk, rfl⟩, hbk⟩
          have hb0 : Below w.heap.size w wr.drew := by have h := hSd; rw [HS.out] at h; exact h
          have hb1 := bl_trans3 hb0 hbk hb0.size
          have hS1 : S wq := by rw [HS.out]; exact hb1
          clear hb0 hbk
          refine ⟨hS1, ?_⟩
          (try simp only [List.getElem_toArray, List.getElem_cons_succ, List.getElem_cons_zero, Act.put, List.setIfInBounds_toArray, List.set_cons_zero, List.set_cons_succ])
          refine wpAnyH_take (i := 10) (v := .int .i64 (k : Int)) rfl (by kernel_rfl) (by kernel_rfl) (by kernel_rfl) (fun _ _ _ h => h) (Or.inl ⟨by rfl, by intro w' hS'; go_simp <;> (first | omega | (rw [IntKind.wrap_i64]; omega) | (rw [IntKind.wrap_u64]; omega) | (rw [IntKind.wrap_u32]; omega) | (rw [Int.tmod_eq_emod_of_nonneg (by omega)]))⟩) hS1 ?_
          (try simp only [List.getElem_toArray, List.getElem_cons_succ, List.getElem_cons_zero, Act.put, List.setIfInBounds_toArray, List.set_cons_zero, List.set_cons_succ])
          refine wpAnyH_done (by kernel_rfl) ?_ _
          have HGK : Hid (g3 (lonF s a) (a - q) = k) := hgk
          clear hgk
          by_cases h3 : n < k
          · have h3I : (n : Int) < (k : Int) := by omega
            go_wp2_with fail
            go_roundw
            case rel => exact ⟨a - q, k, q, by have := HQ.out; omega, by omega, by first | rfl | (rw [← haq]), rfl, rfl, ⟨Or.inr ⟨HNEXT.out.1, HNEXT.out.2.1⟩, by
              have hm := HNEXT.out.2.2.more (by rw [show a - q - 1 + 1 = a - q by have := HQ.out; omega, HGK.out]; exact h3)
              rw [show a - q - 1 + 1 = a - q by have := HQ.out; omega, HGK.out] at hm
              exact hm⟩, hb1⟩
            case measure => simp [lonIntOf]; have := HQ.out; omega
          · have h3I : ¬ (n : Int) < (k : Int) := by omega
            go_wp2_with fail
            go_roundw
            case rel => exact ⟨d, n, q, by have := HQ.out; omega, hn66, rfl, rfl, rfl, ⟨Or.inr ⟨HNEXT.out.1, HNEXT.out.2.1⟩, by
              have hm := HNEXT.out.2.2.less (by rw [show a - q - 1 + 1 = a - q by have := HQ.out; omega, HGK.out]; omega)
              rw [show a - q - 1 + 1 = a - q by have := HQ.out; omega] at hm
              exact hm⟩, hb1⟩
            case measure => simp [lonIntOf]; have := HQ.out; omega
        · have h20 : st p = 0 := by omega
          have HE : Hid _ := HEND.out p d n hp HI.out.1 (Or.inr h20) HI.out.2
          have h2I : ¬ 0 < ((st p : Nat) : Int) := by omega
          clear h20 HI
          generalize st p = stp at *
          go_wp2_with fail
          go_ret2
          exact ⟨⟨d, n, HE.out, hn66, rfl⟩, hb⟩
      · have h1I : ¬ (n : Int) < (M : Int) := by omega
        have HE : Hid _ := HEND.out p d n hp HI.out.1 (Or.inl (by omega)) HI.out.2
        clear HI
        generalize st p = stp at *
        go_wp2_with fail
        go_ret2
        exact ⟨⟨d, n, HE.out, hn66, rfl⟩, hb⟩
  · have hmi : ¬ 66 ≤ (s.size : Int) - (a : Int) := by omega
    have HMI : Hid ((s.size : Int) - (a : Int) = (M : Int)) := by have := HMM.out; show (s.size : Int) - (a : Int) = (M : Int); omega
    go_enter Try.func80, Try.ntmps80
    go_wp2_with fail
    rw [HMI.out]
    go_loopw [8, 9, 11] (fun x y c wr => ∃ d n p : Nat, p ≤ a ∧ n ≤ 66 ∧ x = .int .i64 (d : Int) ∧ y = .int .i64 (n : Int) ∧ c = .int .i64 (p : Int) ∧ Hid ((p = a ∨ (3 ≤ M ∧ T3 (bsOf s) a p)) ∧ IsB (g3 (lonF s a)) (a - p) d n) ∧ Below w.heap.size w wr) (fun _ _ c _ => (lonIntOf c).toNat)
    case atStart => exact ⟨0, 0, a, Nat.le_refl _, by omega, rfl, rfl, rfl, ⟨Or.inl rfl, by rw [Nat.sub_self]; exact IsB.zero _⟩, Below.refl _ _⟩
    case round =>
      obtain ⟨d, n, p, hp, hn66, rfl, rfl, rfl, HI, hb⟩ := hrel
      have hpL : p < s.size := by omega
      have hpI : (p : Int) < (s.size : Int) := by omega
      have hcell : wr.cell? ⟨g, p, none⟩ = some (.int .i64 (st p : Nat)) := (hb.cell (p := ⟨g, p, none⟩) HG.out).trans (HC.out p hpL)
      have hstp := HLE.out p hpL
      by_cases h1 : n < M
      · have h1I : (n : Int) < (M : Int) := by omega
        by_cases h2 : 0 < st p
        · obtain ⟨hq1, hM3, hT, hB, hg⟩ := HST.out p d n hp HI.out.1 h2 HI.out.2
          obtain ⟨q, hq⟩ : ∃ q, q = p - st p := ⟨_, rfl⟩
          rw [← hq] at hT hB hg
          have h2I : 0 < ((st p : Nat) : Int) := by omega
          have hqI : IntKind.i64.wrap ((p : Int) - ((st p : Nat) : Int)) = (q : Int) := by rw [IntKind.wrap_i64]; omega
          have hqp : q < p := by omega
          obtain ⟨u, hu⟩ : ∃ u, u = a + M := ⟨_, rfl⟩
          have hw1 : IntKind.i64.wrap ((a : Int) + (M : Int)) = (u : Int) := by rw [IntKind.wrap_i64]; omega
          have hx1 : q ≤ s.size := by omega
          have hx2 : u ≤ s.size := by omega
          have hx3 : a ≤ u := by omega
          have hx1I : (q : Int) ≤ (s.size : Int) := by omega
          have hx2I : (u : Int) ≤ (s.size : Int) := by omega
          have hx3I : (a : Int) ≤ (u : Int) := by omega
          have hz1 : (s.extract q s.size).size = s.size - q := by simp
          have hz2 : (s.extract a u).size = M := by simp; omega
          have haq : (a : Int) - (q : Int) = ((a - q : Nat) : Int) := by omega
          have HCS : Hid (∀ w, Calls Try.prog 65 #[.string (s.extract q s.size), .string (s.extract a u)] w fun e w' => (∃ k : Nat, k ≤ M ∧ g3 (lonF s a) (a - q) = k ∧ e = .returned (.int .i64 (k : Int))) ∧ Below w.heap.size w w') := fun w => by
            refine (HSAME.out (s.extract q s.size) (s.extract a u) w (by omega) (by omega)).mono ?_
            rintro e w' ⟨⟨k, hk1, hk2, hk3, rfl⟩, hb⟩
            rw [hz2] at hk1 hk3
            refine ⟨⟨k, hk1, ?_, rfl⟩, hb⟩
            rw [HFM.out, hg]
            refine HEQ.out (a - q) k hk1 (fun j hj => ?_) ?_
            · have := hk2 j hj
              rw [bsOf_ext _ _ _ _ (by omega), bsOf_ext _ _ _ _ (by omega)] at this
              rw [show a + j - (a - q) = q + j by omega]; exact this
            · by_cases hkM : k = M
              · exact Or.inl hkM
              · rcases hk3 with hk3 | hk3
                · exact Or.inl hk3
                · rw [bsOf_ext _ _ _ _ (by omega), bsOf_ext _ _ _ _ (by omega)] at hk3
                  exact Or.inr (by rw [show a + k - (a - q) = q + k by omega]; exact hk3)
          have HNEXT : Hid (3 ≤ M ∧ T3 (bsOf s) a q ∧ IsB (g3 (lonF s a)) (a - q - 1) d n) := ⟨hM3, hT, by rw [HFM.out]; exact hB⟩
          have HQ : Hid (q < p ∧ p ≤ a) := ⟨hqp, hp⟩
          clear hq hu hT hB hg hM3 hq1 hz1 hz2
          generalize st p = stp at *
          obtain ⟨S, hSS⟩ : ∃ S : World → Prop, S = fun w' => Below w.heap.size w w' := ⟨_, rfl⟩
          have hSd : S wr.drew := by rw [hSS]; exact hb.drew
          have HS : Hid _ := hSS
          clear hSS
          go_wp2_with fail
          refine wp_region_held (S := S) (by kernel_rfl) ?_
          change wpAnyH _ _ _ _ _ _ _ _ (World.drew _)
          refine wpAnyH_take (i := 0) (v := .string s) rfl (by kernel_rfl) (by kernel_rfl) (by kernel_rfl) (fun _ _ _ h => h) (Or.inl ⟨by rfl, by intro w' hS'; go_simp <;> (first | omega | (rw [IntKind.wrap_i64]; omega) | (rw [IntKind.wrap_u64]; omega) | (rw [IntKind.wrap_u32]; omega) | (rw [Int.tmod_eq_emod_of_nonneg (by omega)]))⟩) hSd ?_
          (try simp only [List.getElem_toArray, List.getElem_cons_succ, List.getElem_cons_zero, Act.put, List.setIfInBounds_toArray, List.set_cons_zero, List.set_cons_succ])
          refine wpAnyH_take (i := 1) (v := .int .i64 (q : Int)) rfl (by kernel_rfl) (by kernel_rfl) (by kernel_rfl) (fun _ _ _ h => h) (Or.inl ⟨by rfl, by intro w' hS'; go_simp <;> (first | omega | (rw [IntKind.wrap_i64]; omega) | (rw [IntKind.wrap_u64]; omega) | (rw [IntKind.wrap_u32]; omega) | (rw [Int.tmod_eq_emod_of_nonneg (by omega)]))⟩) hSd ?_
          (try simp only [List.getElem_toArray, List.getElem_cons_succ, List.getElem_cons_zero, Act.put, List.setIfInBounds_toArray, List.set_cons_zero, List.set_cons_succ])
          refine wpAnyH_take (i := 2) (v := .string (s.extract q s.size)) rfl (by kernel_rfl) (by kernel_rfl) (by kernel_rfl) (fun _ _ _ h => h) (Or.inl ⟨by rfl, by intro w' hS'; go_simp <;> (first | omega | (rw [IntKind.wrap_i64]; omega) | (rw [IntKind.wrap_u64]; omega) | (rw [IntKind.wrap_u32]; omega) | (rw [Int.tmod_eq_emod_of_nonneg (by omega)]))⟩) hSd ?_
          (try simp only [List.getElem_toArray, List.getElem_cons_succ, List.getElem_cons_zero, Act.put, List.setIfInBounds_toArray, List.set_cons_zero, List.set_cons_succ])
          refine wpAnyH_take (i := 3) (v := .string s) rfl (by kernel_rfl) (by kernel_rfl) (by kernel_rfl) (fun _ _ _ h => h) (Or.inl ⟨by rfl, by intro w' hS'; go_simp <;> (first | omega | (rw [IntKind.wrap_i64]; omega) | (rw [IntKind.wrap_u64]; omega) | (rw [IntKind.wrap_u32]; omega) | (rw [Int.tmod_eq_emod_of_nonneg (by omega)]))⟩) hSd ?_
          (try simp only [List.getElem_toArray, List.getElem_cons_succ, List.getElem_cons_zero, Act.put, List.setIfInBounds_toArray, List.set_cons_zero, List.set_cons_succ])
          refine wpAnyH_take (i := 4) (v := .int .i64 (a : Int)) rfl (by kernel_rfl) (by kernel_rfl) (by kernel_rfl) (fun _ _ _ h => h) (Or.inl ⟨by rfl, by intro w' hS'; go_simp <;> (first | omega | (rw [IntKind.wrap_i64]; omega) | (rw [IntKind.wrap_u64]; omega) | (rw [IntKind.wrap_u32]; omega) | (rw [Int.tmod_eq_emod_of_nonneg (by omega)]))⟩) hSd ?_
          (try simp only [List.getElem_toArray, List.getElem_cons_succ, List.getElem_cons_zero, Act.put, List.setIfInBounds_toArray, List.set_cons_zero, List.set_cons_succ])
          refine wpAnyH_take (i := 5) (v := .int .i64 (a : Int)) rfl (by kernel_rfl) (by kernel_rfl) (by kernel_rfl) (fun _ _ _ h => h) (Or.inl ⟨by rfl, by intro w' hS'; go_simp <;> (first | omega | (rw [IntKind.wrap_i64]; omega) | (rw [IntKind.wrap_u64]; omega) | (rw [IntKind.wrap_u32]; omega) | (rw [Int.tmod_eq_emod_of_nonneg (by omega)]))⟩) hSd ?_
          (try simp only [List.getElem_toArray, List.getElem_cons_succ, List.getElem_cons_zero, Act.put, List.setIfInBounds_toArray, List.set_cons_zero, List.set_cons_succ])
          refine wpAnyH_take (i := 6) (v := .int .i64 (M : Int)) rfl (by kernel_rfl) (by kernel_rfl) (by kernel_rfl) (fun _ _ _ h => h) (Or.inl ⟨by rfl, by intro w' hS'; go_simp <;> (first | omega | (rw [IntKind.wrap_i64]; omega) | (rw [IntKind.wrap_u64]; omega) | (rw [IntKind.wrap_u32]; omega) | (rw [Int.tmod_eq_emod_of_nonneg (by omega)]))⟩) hSd ?_
          (try simp only [List.getElem_toArray, List.getElem_cons_succ, List.getElem_cons_zero, Act.put, List.setIfInBounds_toArray, List.set_cons_zero, List.set_cons_succ])
          refine wpAnyH_take (i := 7) (v := .int .i64 (u : Int)) rfl (by kernel_rfl) (by kernel_rfl) (by kernel_rfl) (fun _ _ _ h => h) (Or.inl ⟨by rfl, by intro w' hS'; go_simp <;> (first | omega | (rw [IntKind.wrap_i64]; omega) | (rw [IntKind.wrap_u64]; omega) | (rw [IntKind.wrap_u32]; omega) | (rw [Int.tmod_eq_emod_of_nonneg (by omega)]) | exact hw1)⟩) hSd ?_
          (try simp only [List.getElem_toArray, List.getElem_cons_succ, List.getElem_cons_zero, Act.put, List.setIfInBounds_toArray, List.set_cons_zero, List.set_cons_succ])
          refine wpAnyH_take (i := 8) (v := .string (s.extract a u)) rfl (by kernel_rfl) (by kernel_rfl) (by kernel_rfl) (fun _ _ _ h => h) (Or.inl ⟨by rfl, by intro w' hS'; go_simp <;> (first | omega | (rw [IntKind.wrap_i64]; omega) | (rw [IntKind.wrap_u64]; omega) | (rw [IntKind.wrap_u32]; omega) | (rw [Int.tmod_eq_emod_of_nonneg (by omega)]))⟩) hSd ?_
          (try simp only [List.getElem_toArray, List.getElem_cons_succ, List.getElem_cons_zero, Act.put, List.setIfInBounds_toArray, List.set_cons_zero, List.set_cons_succ])
          refine held_step (i := 9) (by kernel_rfl) rfl (by rfl) ?_
          go_simp
          refine (HCS.out _).mono ?_
          rintro e wq ⟨⟨k, hk, hgk, rfl⟩, hbk⟩
          have hb0 : Below w.heap.size w wr.drew := by have h := hSd; rw [HS.out] at h; exact h
          have hb1 := bl_trans3 hb0 hbk hb0.size
          have hS1 : S wq := by rw [HS.out]; exact hb1
          clear hb0 hbk
          refine ⟨hS1, ?_⟩
          (try simp only [List.getElem_toArray, List.getElem_cons_succ, List.getElem_cons_zero, Act.put, List.setIfInBounds_toArray, List.set_cons_zero, List.set_cons_succ])
          refine wpAnyH_take (i := 10) (v := .int .i64 (k : Int)) rfl (by kernel_rfl) (by kernel_rfl) (by kernel_rfl) (fun _ _ _ h => h) (Or.inl ⟨by rfl, by intro w' hS'; go_simp <;> (first | omega | (rw [IntKind.wrap_i64]; omega) | (rw [IntKind.wrap_u64]; omega) | (rw [IntKind.wrap_u32]; omega) | (rw [Int.tmod_eq_emod_of_nonneg (by omega)]))⟩) hS1 ?_
          (try simp only [List.getElem_toArray, List.getElem_cons_succ, List.getElem_cons_zero, Act.put, List.setIfInBounds_toArray, List.set_cons_zero, List.set_cons_succ])
          refine wpAnyH_done (by kernel_rfl) ?_ _
          have HGK : Hid (g3 (lonF s a) (a - q) = k) := hgk
          clear hgk
          by_cases h3 : n < k
          · have h3I : (n : Int) < (k : Int) := by omega
            go_wp2_with fail
            go_roundw
            case rel => exact ⟨a - q, k, q, by have := HQ.out; omega, by omega, by first | rfl | (rw [← haq]), rfl, rfl, ⟨Or.inr ⟨HNEXT.out.1, HNEXT.out.2.1⟩, by
              have hm := HNEXT.out.2.2.more (by rw [show a - q - 1 + 1 = a - q by have := HQ.out; omega, HGK.out]; exact h3)
              rw [show a - q - 1 + 1 = a - q by have := HQ.out; omega, HGK.out] at hm
              exact hm⟩, hb1⟩
            case measure => simp [lonIntOf]; have := HQ.out; omega
          · have h3I : ¬ (n : Int) < (k : Int) := by omega
            go_wp2_with fail
            go_roundw
            case rel => exact ⟨d, n, q, by have := HQ.out; omega, hn66, rfl, rfl, rfl, ⟨Or.inr ⟨HNEXT.out.1, HNEXT.out.2.1⟩, by
              have hm := HNEXT.out.2.2.less (by rw [show a - q - 1 + 1 = a - q by have := HQ.out; omega, HGK.out]; omega)
              rw [show a - q - 1 + 1 = a - q by have := HQ.out; omega] at hm
              exact hm⟩, hb1⟩
            case measure => simp [lonIntOf]; have := HQ.out; omega
        · have h20 : st p = 0 := by omega
          have HE : Hid _ := HEND.out p d n hp HI.out.1 (Or.inr h20) HI.out.2
          have h2I : ¬ 0 < ((st p : Nat) : Int) := by omega
          clear h20 HI
          generalize st p = stp at *
          go_wp2_with fail
          go_ret2
          exact ⟨⟨d, n, HE.out, hn66, rfl⟩, hb⟩
      · have h1I : ¬ (n : Int) < (M : Int) := by omega
        have HE : Hid _ := HEND.out p d n hp HI.out.1 (Or.inl (by omega)) HI.out.2
        clear HI
        generalize st p = stp at *
        go_wp2_with fail
        go_ret2
        exact ⟨⟨d, n, HE.out, hn66, rfl⟩, hb⟩
end Go.Proofs.Ytibciflmalfbjaa
