/-
  Two deltas as one: the specification's.
-/
import Derived.Test.YtpeddaljgmkomaaCmpC
import Derived.Test.YtpeddaljgmkomaaCmS
namespace Go.Proofs.Ytpeddaljgmkomaa
open Go.RowKit
set_option linter.unusedVariables false
set_option linter.unusedSimpArgs false
set_option maxRecDepth 100000 in
set_option maxHeartbeats 4000000 in
theorem scmp_right (sa sb : Option Addr) (ca cb na nb : Nat) (Fa Fb : Nat → PcI) (w : World) (hFa : PcLe Fa na) (hFb : PcLe Fb nb) (hA : PcArg w (.slice sa na ca) na Fa) (hB : PcArg w (.slice sb nb cb) nb Fb)
    (ha : pcR Fa na 4000) :
    Calls Try.prog 55 #[.slice sa na ca, .slice sb nb cb] w fun e w' => RdPost w (cmR Fa na Fb nb) e w' := by
  have hnaI : (na : Int) ≤ 500 := by have := ha.2.2.1; omega
  obtain ⟨i0, hi, hz0, hz1, hz2⟩ := info_parts Try.infP
  have HKA : Hid (∀ w', Below w.heap.size w w' → Calls Try.prog 68 #[.int .i64 4000, .slice sa na ca] w' fun e w'' => e = .returned (.bool true) ∧ Below w'.heap.size w' w'') := fun w' hb' => by
    have h2 := spcs_any (.slice sa na ca) na Fa 4000 w' hFa (hA.below hb')
    rw [pcB_yes ha] at h2
    exact h2
  have HLG : Hid (∀ p w, Calls Try.prog 78 #[pcV p.f p.l p.d] w fun e w' => e = .returned (.int .i64 (pcSz p)) ∧ Below w.heap.size w w') := fun p w => slong_any p w
  unfold pcV at HLG
  have HKB : Hid (∀ w', Below w.heap.size w w' → Calls Try.prog 68 #[.int .i64 (pcSum Fa na), .slice sb nb cb] w' fun e w'' => e = .returned (.bool (pcB Fb nb (pcSum Fa na))) ∧ Below w'.heap.size w' w'') := fun w' hb' => spcs_any (.slice sb nb cb) nb Fb (pcSum Fa na) w' hFb (hB.below hb')
  have HPA : Hid (∀ w' j, Below w.heap.size w w' → pcR Fb nb (pcSum Fa na) → j < nb → (Fb j).d = ⟨#[]⟩ → Calls Try.prog 79 #[.slice sa na ca, .int .i64 (Fb j).f, .int .i64 (Fb j).l] w' fun e w'' => (∃ v', e = .returned v' ∧ w''.ownsRow w'.heap.size 89 3 v' (prtL Fa (Fb j).f ((Fb j).f + (Fb j).l) na).length (pcC (prtL Fa (Fb j).f ((Fb j).f + (Fb j).l) na))) ∧ Below w'.heap.size w' w'') := fun w' j hb' hb hj hd => sparts_any _ na Fa _ _ w' (prtIn_of ha hb hFa hj hd) (hA.below hb')
  have HRA : Hid (∀ w', Below w.heap.size w w' → 0 < na → ∃ g, sa = some ⟨g, 0, none⟩ ∧ PcRow w' g na Fa) := fun w' hb h0 => by
    obtain ⟨_, _, e, h⟩ := hA
    cases e
    obtain ⟨g, h1, h2⟩ := h h0
    exact ⟨g, h1, h2.below hb h2.lt⟩
  have HRB : Hid (∀ w', Below w.heap.size w w' → 0 < nb → ∃ g, sb = some ⟨g, 0, none⟩ ∧ PcRow w' g nb Fb ∧ g < w.heap.size) := fun w' hb h0 => by
    obtain ⟨_, _, e, h⟩ := hB
    cases e
    obtain ⟨g, h1, h2⟩ := h h0
    exact ⟨g, h1, h2.below hb h2.lt, h2.lt⟩
  have HAA : Hid (pcR Fa na 4000 ∧ (∀ i, i < na → (Fa i).d.size ≤ 1048576) ∧ ∀ i, i < nb → (Fb i).d.size ≤ 1048576) := ⟨ha, hFa.d, hFb.d⟩
  clear hA hB ha hFa hFb
  go_enter Try.func55, Try.ntmps55
  go_wp2_with fail
  refine (HKA.out _ (Below.refl _ _)).mono ?_
  rintro e w1 ⟨rfl, hb1⟩
  have HB1 := hid hb1
  clear hb1 HKA
  go_wp2_with fail
  go_loopw [6, 7] (fun x t wr => ∃ (i : Nat), i ≤ na ∧ t = .int .i64 (i : Int) ∧ x = .int .i64 (pcSum Fa i) ∧ Hid (Below w.heap.size w wr)) (fun _ t _ => na - (intN t).toNat)
  case atStart => exact ⟨0, by omega, rfl, rfl, HB1⟩
  case round =>
    clear HB1
    obtain ⟨i, hi2, rfl, rfl, HB⟩ := hrel
    by_cases hlt : i < na
    · have hltI : (i : Int) < (na : Int) := by omega
      obtain ⟨g, rfl, hrow⟩ := HRA.out _ HB.out (by omega)
      obtain ⟨q, hq⟩ : ∃ q, q = 3 * i := ⟨_, rfl⟩
      have x0 := hrow.c0 i hlt
      have x1 := hrow.c1 i hlt
      have x2 := hrow.c2 i hlt
      rw [← hq] at x0 x1 x2
      have hiq : i * 3 = q := by omega
      have b1 := pcSum_le (F := Fa) (old := 4000) (n := i) (by omega) (fun j hj => HAA.out.2.1 j (by omega)) (fun j hj => HAA.out.1.2.2.2.1 j (by omega))
      have b2 := pcP_pos (HAA.out.1.2.2.2.1 i hlt)
      have b3 := pcP_le (HAA.out.1.2.2.2.1 i hlt) (by omega) (HAA.out.2.1 i hlt)
      have HSS : Hid (pcSum Fa (i + 1) = pcSum Fa i + pcSz (Fa i)) := rfl
      obtain ⟨X, hX⟩ : ∃ X, X = pcSum Fa i := ⟨_, rfl⟩
      obtain ⟨Y, hY⟩ : ∃ Y, Y = pcSz (Fa i) := ⟨_, rfl⟩
      have HL2 : Hid (∀ w, Calls Try.prog 78 #[.agg #[.int .i64 (Fa i).f, .int .i64 (Fa i).l, .string (Fa i).d]] w fun e w' => e = .returned (.int .i64 Y) ∧ Below w.heap.size w w') := fun w => by rw [hY]; exact HLG.out (Fa i) w
      rw [← hX] at b1 HSS ⊢
      rw [← hY] at b2 b3 HSS
      have e3 : IntKind.i64.wrap (X + Y) = X + Y := by rw [IntKind.wrap_i64]; omega
      clear hrow hq hX hY b1 b2 b3
      generalize Fa i = p at x0 x1 x2 HL2
      go_wp2_with fail
      refine (HL2.out _).mono ?_
      rintro e w3 ⟨rfl, hb3⟩
      have HB3 := hid (bl3 HB.out hb3 HB.out.size)
      clear hb3 HB x0 x1 x2
      go_wp2_with fail
      go_roundw
      case rel => exact ⟨i + 1, by omega, by go_num, by rw [HSS.out], HB3⟩
      case measure => simp [intN]; omega
    · obtain rfl : na = i := by omega
      clear HLG HRA
      go_wp2_with fail
      refine (HKB.out _ HB.out).mono ?_
      rintro e w3 ⟨rfl, hb3⟩
      have HB3 := hid (bl3 HB.out hb3 HB.out.size)
      clear hb3 HB HKB
      by_cases hb : pcR Fb nb (pcSum Fa na)
      · rw [pcB_yes hb]
        have hnI : (nb : Int) ≤ 500 := by have := hb.2.2.1; omega
        have HPB := hid (fun w' j hb' hj hd => HPA.out w' j hb' hb hj hd)
        have HBR := hid hb
        have HB4 : Hid (Below w.heap.size w (w3.alloc (.cells #[] 89)) ∧ (w3.alloc (.cells #[] 89)).ownsRow w.heap.size 89 3 (.slice (some ⟨w3.heap.size, 0, none⟩) 0 0) 0 []) := ⟨HB3.out.alloc HB3.out.size _, rfl, Or.inr ⟨w3.heap.size, 0, #[], rfl, HB3.out.size, heap_alloc_new _ _, Nat.le_refl _, Nat.zero_le _, rfl, rfl⟩⟩
        clear HPA HB3 hb hi2 hlt
        go_wp2_with fail
        go_loopw [8, 9] (fun v t wr => ∃ (j : Nat), j ≤ nb ∧ t = .int .i64 (j : Int) ∧ Hid (wr.ownsRow w.heap.size 89 3 v (cmL Fa na Fb j).length (pcC (cmL Fa na Fb j)) ∧ Below w.heap.size w wr)) (fun _ t _ => nb - (intN t).toNat)
        case atStart => exact ⟨0, by omega, rfl, HB4.out.2, HB4.out.1⟩
        case round =>
          clear HB4
          obtain ⟨j, hj, rfl, HO⟩ := hrel
          obtain ⟨va0, vc0, rfl⟩ := own3_slice HO.out.1
          have HLn : Hid ((cmL Fa na Fb j).length ≤ 250500) := by have := cmL_len Fa na Fb HAA.out.1.2.2.1 j; show _ ≤ _; omega
          by_cases hlt : j < nb
          · have hltI : (j : Int) < (nb : Int) := by omega
            obtain ⟨g, rfl, hrow, hgl⟩ := HRB.out _ HO.out.2 (by omega)
            have HGL := hid hgl
            obtain ⟨q, hq⟩ : ∃ q, q = 3 * j := ⟨_, rfl⟩
            have x0 := hrow.c0 j hlt
            have x1 := hrow.c1 j hlt
            have x2 := hrow.c2 j hlt
            rw [← hq] at x0 x1 x2
            have hiq : j * 3 = q := by omega
            have hp := HBR.out.2.2.2.1 j hlt
            have hdi := HAA.out.2.2 j hlt
            have HSTP : Hid (cmL Fa na Fb (j + 1) = cmL Fa na Fb j ++ stepC Fa na (Fb j)) := rfl
            have HMONO : Hid ((cmL Fa na Fb (j + 1)).length ≤ (cmL Fa na Fb nb).length) := cmL_mono Fa na Fb (by omega)
            have HSL := hid (stepC_len Fa na (Fb j))
            have hna5 := HAA.out.1.2.2.1
            have HPJ : Hid (∀ w', Below w.heap.size w w' → (Fb j).d = ⟨#[]⟩ → Calls Try.prog 79 #[.slice sa na ca, .int .i64 (Fb j).f, .int .i64 (Fb j).l] w' fun e w'' => (∃ v', e = .returned v' ∧ w''.ownsRow w'.heap.size 89 3 v' (prtL Fa (Fb j).f ((Fb j).f + (Fb j).l) na).length (pcC (prtL Fa (Fb j).f ((Fb j).f + (Fb j).l) na))) ∧ Below w'.heap.size w' w'') := fun w' hb' hd => HPB.out w' j hb' hlt hd
            clear hrow hq HPB hgl
            generalize Fb j = p at x0 x1 x2 hp hdi HSTP HSL HPJ
            obtain ⟨f, l, d⟩ := p
            simp only at x0 x1 x2 hdi HPJ
            rcases hp with ⟨h, h1, h2, h3, h4⟩ | ⟨h, h1, h2⟩
            · simp only at h h1 h2 h3 h4
              subst h
              rw [stepC_no rfl] at HSTP HSL
              have HPK := hid (fun w' hb' => HPJ.out w' hb' rfl)
              (try simp only at HSTP HSL)
              obtain ⟨S, hSS⟩ : ∃ S : World → Prop, S = fun w' => Below w.heap.size w w' := ⟨_, rfl⟩
              have HS := hid hSS
              have hSd : S wr.drew := by rw [hSS]; exact HO.out.2.drew
              have HX : Hid (∀ w', S w' → w'.cell? ⟨g, q, none⟩ = some (.int .i64 f) ∧ w'.cell? ⟨g, q + 1, none⟩ = some (.int .i64 l)) := fun w' hw' => by
                rw [hSS] at hw'
                exact ⟨(hw'.cell (p := ⟨g, q, none⟩) HGL.out).trans ((HO.out.2.cell (p := ⟨g, q, none⟩) HGL.out).symm.trans x0), (hw'.cell (p := ⟨g, q + 1, none⟩) HGL.out).trans ((HO.out.2.cell (p := ⟨g, q + 1, none⟩) HGL.out).symm.trans x1)⟩
              clear HPJ hSS
              go_wp2_with fail
              refine wp_region_held (S := S) (by kernel_rfl) ?_
              change wpAnyH _ _ _ _ _ _ _ _ (World.drew _)
              refine wpAnyH_take (i := 0) (v := .slice va0 (cmL Fa na Fb j).length vc0) rfl (by kernel_rfl) (by kernel_rfl) (by kernel_rfl) (fun _ _ _ h => h) (Or.inl ⟨by rfl, by intro w' hS'; go_simp <;> (first | omega | (rw [IntKind.wrap_i64]; omega) | (rw [IntKind.wrap_u64]; omega) | (rw [IntKind.wrap_u32]; omega) | (rw [Int.tmod_eq_emod_of_nonneg (by omega)]))⟩) hSd ?_
              (try simp only [List.getElem_toArray, List.getElem_cons_succ, List.getElem_cons_zero, Act.put, List.setIfInBounds_toArray, List.set_cons_zero, List.set_cons_succ])
              refine wpAnyH_take (i := 1) (v := .slice sa na ca) rfl (by kernel_rfl) (by kernel_rfl) (by kernel_rfl) (fun _ _ _ h => h) (Or.inl ⟨by rfl, by intro w' hS'; go_simp <;> (first | omega | (rw [IntKind.wrap_i64]; omega) | (rw [IntKind.wrap_u64]; omega) | (rw [IntKind.wrap_u32]; omega) | (rw [Int.tmod_eq_emod_of_nonneg (by omega)]))⟩) hSd ?_
              (try simp only [List.getElem_toArray, List.getElem_cons_succ, List.getElem_cons_zero, Act.put, List.setIfInBounds_toArray, List.set_cons_zero, List.set_cons_succ])
              refine wpAnyH_take (i := 2) (v := .slice (some ⟨g, 0, none⟩) nb cb) rfl (by kernel_rfl) (by kernel_rfl) (by kernel_rfl) (fun _ _ _ h => h) (Or.inl ⟨by rfl, by intro w' hS'; go_simp <;> (first | omega | (rw [IntKind.wrap_i64]; omega) | (rw [IntKind.wrap_u64]; omega) | (rw [IntKind.wrap_u32]; omega) | (rw [Int.tmod_eq_emod_of_nonneg (by omega)]))⟩) hSd ?_
              (try simp only [List.getElem_toArray, List.getElem_cons_succ, List.getElem_cons_zero, Act.put, List.setIfInBounds_toArray, List.set_cons_zero, List.set_cons_succ])
              refine wpAnyH_take (i := 3) (v := .int .i64 (j : Int)) rfl (by kernel_rfl) (by kernel_rfl) (by kernel_rfl) (fun _ _ _ h => h) (Or.inl ⟨by rfl, by intro w' hS'; go_simp <;> (first | omega | (rw [IntKind.wrap_i64]; omega) | (rw [IntKind.wrap_u64]; omega) | (rw [IntKind.wrap_u32]; omega) | (rw [Int.tmod_eq_emod_of_nonneg (by omega)]))⟩) hSd ?_
              (try simp only [List.getElem_toArray, List.getElem_cons_succ, List.getElem_cons_zero, Act.put, List.setIfInBounds_toArray, List.set_cons_zero, List.set_cons_succ])
              refine wpAnyH_take (i := 4) (v := .pointer (some ⟨g, q, none⟩)) rfl (by kernel_rfl) (by kernel_rfl) (by kernel_rfl) (fun _ _ _ h => h) (Or.inl ⟨by rfl, by intro w' hS'; go_simp <;> (first | omega | (rw [IntKind.wrap_i64]; omega) | (rw [IntKind.wrap_u64]; omega) | (rw [IntKind.wrap_u32]; omega) | (rw [Int.tmod_eq_emod_of_nonneg (by omega)]))⟩) hSd ?_
              (try simp only [List.getElem_toArray, List.getElem_cons_succ, List.getElem_cons_zero, Act.put, List.setIfInBounds_toArray, List.set_cons_zero, List.set_cons_succ])
              refine wpAnyH_take (i := 5) (v := .pointer (some ⟨g, q, none⟩)) rfl (by kernel_rfl) (by kernel_rfl) (by kernel_rfl) (fun _ _ _ h => h) (Or.inl ⟨by rfl, by intro w' hS'; go_simp <;> (first | omega | (rw [IntKind.wrap_i64]; omega) | (rw [IntKind.wrap_u64]; omega) | (rw [IntKind.wrap_u32]; omega) | (rw [Int.tmod_eq_emod_of_nonneg (by omega)]))⟩) hSd ?_
              (try simp only [List.getElem_toArray, List.getElem_cons_succ, List.getElem_cons_zero, Act.put, List.setIfInBounds_toArray, List.set_cons_zero, List.set_cons_succ])
              refine wpAnyH_take (i := 6) (v := .int .i64 f) rfl (by kernel_rfl) (by kernel_rfl) (by kernel_rfl) (fun _ _ _ h => h) (Or.inl ⟨by rfl, by intro w' hS'; obtain ⟨k5, k6⟩ := HX.out w' hS'; go_simp <;> (first | omega | (rw [IntKind.wrap_i64]; omega) | (rw [IntKind.wrap_u64]; omega) | (rw [IntKind.wrap_u32]; omega) | (rw [Int.tmod_eq_emod_of_nonneg (by omega)]))⟩) hSd ?_
              (try simp only [List.getElem_toArray, List.getElem_cons_succ, List.getElem_cons_zero, Act.put, List.setIfInBounds_toArray, List.set_cons_zero, List.set_cons_succ])
              refine wpAnyH_take (i := 7) (v := .slice (some ⟨g, 0, none⟩) nb cb) rfl (by kernel_rfl) (by kernel_rfl) (by kernel_rfl) (fun _ _ _ h => h) (Or.inl ⟨by rfl, by intro w' hS'; go_simp <;> (first | omega | (rw [IntKind.wrap_i64]; omega) | (rw [IntKind.wrap_u64]; omega) | (rw [IntKind.wrap_u32]; omega) | (rw [Int.tmod_eq_emod_of_nonneg (by omega)]))⟩) hSd ?_
              (try simp only [List.getElem_toArray, List.getElem_cons_succ, List.getElem_cons_zero, Act.put, List.setIfInBounds_toArray, List.set_cons_zero, List.set_cons_succ])
              refine wpAnyH_take (i := 8) (v := .int .i64 (j : Int)) rfl (by kernel_rfl) (by kernel_rfl) (by kernel_rfl) (fun _ _ _ h => h) (Or.inl ⟨by rfl, by intro w' hS'; go_simp <;> (first | omega | (rw [IntKind.wrap_i64]; omega) | (rw [IntKind.wrap_u64]; omega) | (rw [IntKind.wrap_u32]; omega) | (rw [Int.tmod_eq_emod_of_nonneg (by omega)]))⟩) hSd ?_
              (try simp only [List.getElem_toArray, List.getElem_cons_succ, List.getElem_cons_zero, Act.put, List.setIfInBounds_toArray, List.set_cons_zero, List.set_cons_succ])
              refine wpAnyH_take (i := 9) (v := .pointer (some ⟨g, q, none⟩)) rfl (by kernel_rfl) (by kernel_rfl) (by kernel_rfl) (fun _ _ _ h => h) (Or.inl ⟨by rfl, by intro w' hS'; go_simp <;> (first | omega | (rw [IntKind.wrap_i64]; omega) | (rw [IntKind.wrap_u64]; omega) | (rw [IntKind.wrap_u32]; omega) | (rw [Int.tmod_eq_emod_of_nonneg (by omega)]))⟩) hSd ?_
              (try simp only [List.getElem_toArray, List.getElem_cons_succ, List.getElem_cons_zero, Act.put, List.setIfInBounds_toArray, List.set_cons_zero, List.set_cons_succ])
              refine wpAnyH_take (i := 10) (v := .pointer (some ⟨g, q + 1, none⟩)) rfl (by kernel_rfl) (by kernel_rfl) (by kernel_rfl) (fun _ _ _ h => h) (Or.inl ⟨by rfl, by intro w' hS'; go_simp <;> (first | omega | (rw [IntKind.wrap_i64]; omega) | (rw [IntKind.wrap_u64]; omega) | (rw [IntKind.wrap_u32]; omega) | (rw [Int.tmod_eq_emod_of_nonneg (by omega)]))⟩) hSd ?_
              (try simp only [List.getElem_toArray, List.getElem_cons_succ, List.getElem_cons_zero, Act.put, List.setIfInBounds_toArray, List.set_cons_zero, List.set_cons_succ])
              refine wpAnyH_take (i := 11) (v := .int .i64 l) rfl (by kernel_rfl) (by kernel_rfl) (by kernel_rfl) (fun _ _ _ h => h) (Or.inl ⟨by rfl, by intro w' hS'; obtain ⟨k5, k6⟩ := HX.out w' hS'; go_simp <;> (first | omega | (rw [IntKind.wrap_i64]; omega) | (rw [IntKind.wrap_u64]; omega) | (rw [IntKind.wrap_u32]; omega) | (rw [Int.tmod_eq_emod_of_nonneg (by omega)]))⟩) hSd ?_
              (try simp only [List.getElem_toArray, List.getElem_cons_succ, List.getElem_cons_zero, Act.put, List.setIfInBounds_toArray, List.set_cons_zero, List.set_cons_succ])
              refine held_stepS (i := 12) (by kernel_rfl) rfl (by rfl) ?_
              go_simp
              refine (HPK.out wr.drew HO.out.2.drew).mono ?_
              rintro e w4 ⟨⟨vp, rfl, hop⟩, hb4⟩
              have HO4 := hid (own3_call (show wr.drew.ownsRow w.heap.size 89 3 (.slice va0 (cmL Fa na Fb j).length vc0) (cmL Fa na Fb j).length (pcC (cmL Fa na Fb j)) from HO.out.1) hb4)
              have HB4 := hid (bl3 HO.out.2.drew hb4 HO.out.2.drew.size)
              have hS4 : S w4 := by rw [HS.out]; exact HB4.out
              refine ⟨hS4, ?_⟩
              (try simp only [List.getElem_toArray, List.getElem_cons_succ, List.getElem_cons_zero, Act.put, List.setIfInBounds_toArray, List.set_cons_zero, List.set_cons_succ])
              refine held_stepS (i := 13) (by kernel_rfl) rfl (by rfl) ?_
              have hln := HLn.out
              have hsl := HSL.out
              refine wp_append_pcs (.tmp 50) (.tmp 62) 52 rfl w.heap.size i0 _ 32 Try.underlying52 hi hz0 hz1 hz2 rfl _ vp (cmL Fa na Fb j) _ wr.drew.heap.size rfl HO4.out rfl hop (by unfold maxLen; omega) (by omega) HB4.out.size ?_
              intro v' w7 ho7 hg7
              have HB7 := hid (HB4.out.grown hg7 HB4.out.size (fun k hk => (HO4.out.lt k hk).1))
              have HO7 : Hid (w7.ownsRow w.heap.size 89 3 v' (cmL Fa na Fb (j + 1)).length (pcC (cmL Fa na Fb (j + 1)))) := by
                show World.ownsRow _ _ _ _ _ _ _
                rw [HSTP.out]; exact ho7
              have hS7 : S w7 := by rw [HS.out]; exact HB7.out
              refine ⟨hS7, ?_⟩
              (try simp only [List.getElem_toArray, List.getElem_cons_succ, List.getElem_cons_zero, Act.put, List.setIfInBounds_toArray, List.set_cons_zero, List.set_cons_succ])
              refine wpAnyH_take (i := 14) (v := v') rfl (by kernel_rfl) (by kernel_rfl) (by kernel_rfl) (fun _ _ _ h => h) (Or.inl ⟨by rfl, by intro w' hS'; go_simp <;> (first | omega | (rw [IntKind.wrap_i64]; omega) | (rw [IntKind.wrap_u64]; omega) | (rw [IntKind.wrap_u32]; omega) | (rw [Int.tmod_eq_emod_of_nonneg (by omega)]))⟩) hS7 ?_
              (try simp only [List.getElem_toArray, List.getElem_cons_succ, List.getElem_cons_zero, Act.put, List.setIfInBounds_toArray, List.set_cons_zero, List.set_cons_succ])
              refine wpAnyH_done (by kernel_rfl) ?_ _
              obtain ⟨va, vc, rfl⟩ := own3_slice HO7.out
              obtain ⟨N, hN⟩ : ∃ N, N = (cmL Fa na Fb (j + 1)).length := ⟨_, rfl⟩
              have HN := hid hN
              rw [← hN] at HO7 ⊢
              clear ho7 hg7 hS7 hS4 hSd HO4 HB4 hop hb4 HX HS HSTP HPK HO
              by_cases h5 : N ≤ 500
              · have h5I : ¬ (500 : Int) < (N : Int) := by omega
                clear hN
                go_wp2_with fail
                go_roundw
                case rel => exact ⟨j + 1, by omega, by go_num, by rw [← HN.out]; exact HO7.out, HB7.out⟩
                case measure => simp [intN]; omega
              · have h5I : (500 : Int) < (N : Int) := by omega
                have HRR : Hid (cmR Fa na Fb nb = none) := cmR_no fun c => by have := c.2; have := HMONO.out; omega
                clear hN
                go_wp2_with fail
                go_ret2
                exact RdPost.no HRR.out HB7.out
            · simp only at h h1 h2
              subst h1 h2
              rw [stepC_yes h] at HSTP HSL
              have he := d_ne h
              have hln := HLn.out
              clear HPJ h
              go_wp2_with (at_builtin; (refine wpList_append_pcs rfl _ _ 52 rfl w.heap.size i0 _ 32 Try.underlying52 hi hz0 hz1 hz2 rfl _ _ (cmL Fa na Fb j) [PcI.mk 0 0 d] w.heap.size rfl (World.ownsRow.alloc HO.out.1 _) rfl (own3_made1 wr _ ⟨0, 0, d⟩ HO.out.2.size) ?k1 ?k2 ?k3 ?_))
              case k1 => show _ + 1 ≤ _; unfold maxLen; omega
              case k2 => show (_ + 1) * 32 ≤ _; omega
              case k3 => rw [World.size_alloc]; have := HO.out.2.size; omega
              intro v' w7 ho7 hg7
              have HB7 := hid ((HO.out.2.alloc HO.out.2.size _).grown hg7 (by rw [World.size_alloc]; have := HO.out.2.size; omega) (fun k hk => (HO.out.1.lt k hk).1))
              have HO7 : Hid (w7.ownsRow w.heap.size 89 3 v' (cmL Fa na Fb (j + 1)).length (pcC (cmL Fa na Fb (j + 1)))) := by
                show World.ownsRow _ _ _ _ _ _ _
                rw [HSTP.out]; first | exact ho7 | (rw [List.length_append]; exact ho7)
              clear ho7 hg7 HO HSTP
              go_wp2_with fail
              go_roundw
              case rel => exact ⟨j + 1, by omega, by go_num, HO7.out, HB7.out⟩
              case measure => simp [intN]; omega
          · obtain rfl : j = nb := by omega
            obtain ⟨N, hN⟩ : ∃ N, N = (cmL Fa na Fb j).length := ⟨_, rfl⟩
            have HN := hid hN
            rw [← hN] at HO ⊢
            by_cases h5 : N ≤ 500
            · have h5I : ¬ (500 : Int) < (N : Int) := by omega
              have HRR : Hid (cmR Fa na Fb j = some (cmL Fa na Fb j)) := cmR_yes ⟨⟨HAA.out.1, HBR.out⟩, by omega⟩
              clear hN
              go_wp2_with fail
              go_ret2
              exact RdPost.yes HRR.out (by rw [← HN.out]; exact HO.out.1) HO.out.2
            · have h5I : (500 : Int) < (N : Int) := by omega
              have HRR : Hid (cmR Fa na Fb j = none) := cmR_no fun c => by have := c.2; omega
              clear hN
              go_wp2_with fail
              go_ret2
              exact RdPost.no HRR.out HO.out.2
      · rw [pcB_no hb]
        have HRR : Hid (cmR Fa na Fb nb = none) := cmR_no fun c => hb c.1.2
        clear hb
        go_wp2_with fail
        go_ret2
        exact RdPost.no HRR.out HB3.out
set_option maxRecDepth 100000 in
set_option maxHeartbeats 1000000 in
theorem scmp_noA (va vb : Value) (na nb : Nat) (Fa Fb : Nat → PcI) (w : World) (hFa : PcLe Fa na) (hA : PcArg w va na Fa) (hB : PcArg w vb nb Fb) (ha : ¬ pcR Fa na 4000) :
    Calls Try.prog 55 #[va, vb] w fun e w' => RdPost w (cmR Fa na Fb nb) e w' := by
  have HK : Hid (Calls Try.prog 68 #[.int .i64 4000, va] w fun e w' => e = .returned (.bool false) ∧ Below w.heap.size w w') := by
    have h2 := spcs_any va na Fa 4000 w hFa hA
    rw [pcB_no ha] at h2
    exact h2
  have HRR : Hid (cmR Fa na Fb nb = none) := cmR_no fun c => ha c.1.1
  obtain ⟨_, _, rfl, _⟩ := hA
  obtain ⟨_, _, rfl, _⟩ := hB
  clear ha hFa
  go_enter Try.func55, Try.ntmps55
  go_wp2_with fail
  refine HK.out.mono ?_
  rintro e w1 ⟨rfl, hb1⟩
  go_wp2_with fail
  go_ret2
  exact RdPost.no HRR.out hb1
theorem scmp_any (va vb : Value) (na nb : Nat) (Fa Fb : Nat → PcI) (w : World) (hFa : PcLe Fa na) (hFb : PcLe Fb nb) (hA : PcArg w va na Fa) (hB : PcArg w vb nb Fb) :
    Calls Try.prog 55 #[va, vb] w fun e w' => RdPost w (cmR Fa na Fb nb) e w' := by
  by_cases ha : pcR Fa na 4000
  · obtain ⟨sa, ca, rfl, _⟩ := id hA
    obtain ⟨sb, cb, rfl, _⟩ := id hB
    exact scmp_right sa sb ca cb na nb Fa Fb w hFa hFb hA hB ha
  · exact scmp_noA va vb na nb Fa Fb w hFa hA hB ha
end Go.Proofs.Ytpeddaljgmkomaa
