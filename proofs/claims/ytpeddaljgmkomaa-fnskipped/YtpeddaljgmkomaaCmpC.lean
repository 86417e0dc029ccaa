/-
  Two deltas as one: the code's.
-/
import Derived.Test.YtpeddaljgmkomaaPk10
import Derived.Test.YtpeddaljgmkomaaRdLC
import Derived.Deep.MidRow
namespace Go.Proofs.Ytpeddaljgmkomaa
open Go.RowKit
set_option linter.unusedVariables false
set_option linter.unusedSimpArgs false
set_option maxRecDepth 100000 in
set_option maxHeartbeats 4000000 in
theorem cmp_yes (sa sb : Option Addr) (ca cb na nb : Nat) (Fa Fb : Nat → PcI) (w : World) (hFa : PcLe Fa na) (hFb : PcLe Fb nb) (hA : PcArg w (.slice sa na ca) na Fa) (hBr : 0 < nb → ∃ g, sb = some ⟨g, 0, none⟩ ∧ PcRow w g nb Fb)
    (ha : pcR Fa na 4000) (hb : pcR Fb nb (pcSum Fa na)) :
    Calls Try.prog 56 #[.slice sa na ca, .slice sb nb cb] w fun e w' => RdPost w (cmR Fa na Fb nb) e w' := by
  have hnI : (nb : Int) ≤ 500 := by have := hb.2.2.1; omega
  obtain ⟨i0, hi, hz0, hz1, hz2⟩ := info_parts Try.infP
  have HKA : Hid (∀ w', Below w.heap.size w w' → Calls Try.prog 80 #[.int .i64 4000, .slice sa na ca] w' fun e w'' => e = .returned (.bool true) ∧ Below w'.heap.size w' w'') := fun w' hb' => by
    have h2 := pcs_any (.slice sa na ca) na Fa 4000 w' hFa (hA.below hb')
    rw [pcB_yes ha] at h2
    exact h2
  have HMD : Hid (∀ w', Below w.heap.size w w' → Calls Try.prog 81 #[.slice sa na ca] w' fun e w'' => e = .returned (.int .i64 (pcSum Fa na)) ∧ Below w'.heap.size w' w'') := fun w' hb' => made_any (.slice sa na ca) na Fa 4000 w' ha.2.2.1 (by omega) hFa.d ha.2.2.2.1 (hA.below hb')
  have HKB : Hid (∀ w', Below w.heap.size w w' → Calls Try.prog 80 #[.int .i64 (pcSum Fa na), .slice sb nb cb] w' fun e w'' => e = .returned (.bool true) ∧ Below w'.heap.size w' w'') := fun w' hb' => by
    have h2 := pcs_any (.slice sb nb cb) nb Fb (pcSum Fa na) w' hFb ⟨_, _, rfl, fun h0 => by obtain ⟨g, h1, h2⟩ := hBr h0; exact ⟨g, h1, h2.below hb' h2.lt⟩⟩
    rw [pcB_yes hb] at h2
    exact h2
  have HPA : Hid (∀ w' j, Below w.heap.size w w' → j < nb → (Fb j).d = ⟨#[]⟩ → Calls Try.prog 84 #[.slice sa na ca, .int .i64 (Fb j).f, .int .i64 ((Fb j).f + (Fb j).l)] w' fun e w'' => (∃ v', e = .returned v' ∧ w''.ownsRow w'.heap.size 89 3 v' (prtL Fa (Fb j).f ((Fb j).f + (Fb j).l) na).length (pcC (prtL Fa (Fb j).f ((Fb j).f + (Fb j).l) na))) ∧ Below w'.heap.size w' w'') := fun w' j hb' hj hd => parts_any _ na Fa _ _ w' (prtIn_of ha hb hFa hj hd) (hA.below hb')
  have HR : Hid (∀ w', Below w.heap.size w w' → 0 < nb → ∃ g, sb = some ⟨g, 0, none⟩ ∧ PcRow w' g nb Fb) := fun w' hb h0 => by
    obtain ⟨g, h1, h2⟩ := hBr h0
    exact ⟨g, h1, h2.below hb h2.lt⟩
  have HAB : Hid ((pcR Fa na 4000 ∧ pcR Fb nb (pcSum Fa na)) ∧ ∀ i, i < nb → (Fb i).d.size ≤ 1048576) := ⟨⟨ha, hb⟩, hFb.d⟩
  clear hA hBr ha hb hFa hFb
  go_enter Try.func56, Try.ntmps56
  go_wp2_with fail
  refine (HKA.out _ (Below.refl _ _)).mono ?_
  rintro e w1 ⟨rfl, hb1⟩
  have HB1 := hid hb1
  clear hb1
  go_wp2_with fail
  refine (HMD.out _ HB1.out).mono ?_
  rintro e w2 ⟨rfl, hb2⟩
  have HB2 := hid (bl3 HB1.out hb2 HB1.out.size)
  clear hb2 HB1
  go_wp2_with fail
  refine (HKB.out _ HB2.out).mono ?_
  rintro e w3 ⟨rfl, hb3⟩
  have HB3 := hid (bl3 HB2.out hb3 HB2.out.size)
  clear hb3 HB2 HKA HMD HKB
  go_wp2_with fail
  go_loopw [6, 21] (fun v t wr => ∃ (j : Nat), j ≤ nb ∧ t = .int .i64 (j : Int) ∧ Hid ((cmL Fa na Fb j).length ≤ 500) ∧ Hid (wr.ownsRow w.heap.size 89 3 v (cmL Fa na Fb j).length (pcC (cmL Fa na Fb j)) ∧ Below w.heap.size w wr)) (fun _ t _ => nb - (intN t).toNat)
  case atStart => exact ⟨0, by omega, rfl, Nat.zero_le _, World.ownsRow_nil _ _ _ _, HB3.out⟩
  case round =>
    clear HB3
    obtain ⟨j, hj, rfl, HLn, HO⟩ := hrel
    obtain ⟨va0, vc0, rfl⟩ := own3_slice HO.out.1
    by_cases hlt : j < nb
    · have hltI : (j : Int) < (nb : Int) := by omega
      obtain ⟨g, rfl, hrow⟩ := HR.out _ HO.out.2 (by omega)
      obtain ⟨q, hq⟩ : ∃ q, q = 3 * j := ⟨_, rfl⟩
      have x0 := hrow.c0 j hlt
      have x1 := hrow.c1 j hlt
      have x2 := hrow.c2 j hlt
      rw [← hq] at x0 x1 x2
      have hiq : j * 3 = q := by omega
      have hp := HAB.out.1.2.2.2.2.1 j hlt
      have hdi := HAB.out.2 j hlt
      have HSTP : Hid (cmL Fa na Fb (j + 1) = cmL Fa na Fb j ++ stepC Fa na (Fb j)) := rfl
      have HMONO : Hid ((cmL Fa na Fb (j + 1)).length ≤ (cmL Fa na Fb nb).length) := cmL_mono Fa na Fb (by omega)
      have HSL := hid (stepC_len Fa na (Fb j))
      have hna := HAB.out.1.1.2.2.1
      have HPJ : Hid (∀ w', Below w.heap.size w w' → (Fb j).d = ⟨#[]⟩ → Calls Try.prog 84 #[.slice sa na ca, .int .i64 (Fb j).f, .int .i64 ((Fb j).f + (Fb j).l)] w' fun e w'' => (∃ v', e = .returned v' ∧ w''.ownsRow w'.heap.size 89 3 v' (prtL Fa (Fb j).f ((Fb j).f + (Fb j).l) na).length (pcC (prtL Fa (Fb j).f ((Fb j).f + (Fb j).l) na))) ∧ Below w'.heap.size w' w'') := fun w' hb' hd => HPA.out w' j hb' hlt hd
      have hsum : pcSum Fa na ≤ 4000 := HAB.out.1.1.2.2.2.2
      have HNB := hid (own3_ne HO.out.1 (Nat.le_refl _))
      clear hrow hq HPA
      generalize Fb j = p at x0 x1 x2 hp hdi HSTP HSL HPJ
      obtain ⟨f, l, d⟩ := p
      simp only at x0 x1 x2 hdi HPJ
      rcases hp with ⟨h, h1, h2, h3, h4⟩ | ⟨h, h1, h2⟩
      · simp only at h h1 h2 h3 h4
        subst h
        rw [stepC_no rfl] at HSTP HSL
        have HPK := hid (fun w' hb' => HPJ.out w' hb' rfl)
        have e1 : IntKind.i64.wrap (f + l) = f + l := by rw [IntKind.wrap_i64]; omega
        have HO0 := hid (World.ownsRow.alloc HO.out.1 (.cells #[.int .i64 f, .int .i64 l, .string ⟨#[]⟩] 89))
        have HB0 := hid (HO.out.2.alloc HO.out.2.size (.cells #[.int .i64 f, .int .i64 l, .string ⟨#[]⟩] 89))
        clear HPJ HO
        go_wp2_with fail
        refine (HPK.out _ HB0.out).mono ?_
        rintro e w4 ⟨⟨vp, rfl, hop⟩, hb4⟩
        have HO4 := hid (own3_call HO0.out hb4)
        have HB4 := hid (bl3 HB0.out hb4 HB0.out.size)
        have HOP := hid hop
        have hln := HLn.out
        have hsl := HSL.out
        (try simp only at HSTP HOP hsl)
        clear hb4 HO0 HB0 hop HPK x0 x1 x2
        generalize prtL Fa f (f + l) na = M at HSTP HOP hsl
        go_wp2_with (at_builtin; (refine wpList_append_pcs rfl _ _ 52 rfl w.heap.size i0 _ 32 Try.underlying52 hi hz0 hz1 hz2 rfl _ _ (cmL Fa na Fb j) M _ rfl HO4.out rfl HOP.out ?k1 ?k2 ?k3 ?_))
        case k1 => unfold maxLen; omega
        case k2 => omega
        case k3 => exact HB4.out.size
        intro v' w7 ho7 hg7
        have HB7 := hid (HB4.out.grown hg7 HB4.out.size (fun k hk => (HO4.out.lt k hk).1))
        have HO7 : Hid (w7.ownsRow w.heap.size 89 3 v' (cmL Fa na Fb (j + 1)).length (pcC (cmL Fa na Fb (j + 1)))) := by
          show World.ownsRow _ _ _ _ _ _ _
          rw [HSTP.out, List.length_append]; exact ho7
        clear ho7 hg7 HO4 HB4 HOP HSTP
        obtain ⟨va, vc, rfl⟩ := own3_slice HO7.out
        obtain ⟨N, hN⟩ : ∃ N, N = (cmL Fa na Fb (j + 1)).length := ⟨_, rfl⟩
        have HN := hid hN
        rw [← hN] at HO7 ⊢
        by_cases h5 : N ≤ 500
        · have h5I : ¬ (500 : Int) < (N : Int) := by omega
          have HLN2 : Hid ((cmL Fa na Fb (j + 1)).length ≤ 500) := by show _ ≤ _; omega
          clear hN
          go_wp2_with fail
          go_roundw
          case rel => exact ⟨j + 1, by omega, by go_num, HLN2, by rw [← HN.out]; exact HO7.out, HB7.out⟩
          case measure => simp [intN]; omega
        · have h5I : (500 : Int) < (N : Int) := by omega
          have HRR : Hid (cmR Fa na Fb nb = none) := cmR_no fun c => by have := c.2; have := HMONO.out; omega
          clear hN
          go_wp2_with fail
          go_ret2
          exact RdPost.no HRR.out HB7.out
      · simp only at h h1 h2
        subst h1 h2
        rw [stepC_yes h] at HSTP HSL
        have he := d_ne h
        have hdp := d_pos h
        have HSZ : Hid (∀ w, Calls Try.prog 83 #[.agg #[.int .i64 0, .int .i64 0, .string d]] w fun e w' => e = .returned (.int .i64 (d.size : Int)) ∧ Below w.heap.size w w') := fun w => by
          have h2 := size_any ⟨0, 0, d⟩ w
          rw [pcSz_yes h] at h2
          exact h2
        have HPT : Hid (∀ w, Calls Try.prog 82 #[.agg #[.int .i64 0, .int .i64 0, .string d], .int .i64 0, .int .i64 (d.size : Int)] w fun e w' => e = .returned (.agg #[.int .i64 0, .int .i64 0, .string d]) ∧ Below w.heap.size w w') := fun w => by
          have h2 := part_any ⟨0, 0, d⟩ 0 (d.size : Int) w (by omega) (by omega) (by rw [pcSz_yes h]; exact Int.le_refl _) (by rw [pcSz_yes h]; show (d.size : Int) ≤ _; omega) ⟨by show (0 : Int) ≤ 0; omega, by show (0 : Int) ≤ 4000; omega⟩
          rw [partI_yes h] at h2
          have e1 : (⟨0, 0, d⟩ : PcI).d.extract (0 : Int).toNat ((d.size : Nat) : Int).toNat = d := by show d.extract 0 d.size = d; exact ByteArray.extract_zero_size
          rw [e1] at h2
          exact h2
        have HB0 := hid (HO.out.2.alloc HO.out.2.size (.cells #[.int .i64 0, .int .i64 0, .string d] 89))
        obtain ⟨S, hSS⟩ : ∃ S : World → Prop, S = fun w' => w'.heap[wr.heap.size]? = some (.cells #[.int .i64 0, .int .i64 0, .string d] 89 (0, 0)) := ⟨_, rfl⟩
        have HS := hid hSS
        have hSd : S (wr.alloc (.cells #[.int .i64 0, .int .i64 0, .string d] 89)).drew := by rw [hSS]; exact heap_alloc_new wr (.cells #[.int .i64 0, .int .i64 0, .string d] 89)
        have HSC : Hid (∀ a b, S a → Below a.heap.size a b → S b) := fun a b h1 h2 => by
          rw [hSS] at h1 ⊢
          exact (h2.block _ (Array.getElem?_eq_some_iff.1 h1).1).trans h1
        have HRG : Hid (∀ w', S w' → w'.rangeAt wr.heap.size 0 [.int .i64 0, .int .i64 0, .string d]) := fun w' hw' k u hk => by
          rw [hSS] at hw'
          rw [Nat.zero_add, cell_of_row _ _ k _ _ _ hw']
          simpa using hk
        have HOd : Hid ((wr.alloc (.cells #[.int .i64 0, .int .i64 0, .string d] 89)).drew.ownsRow w.heap.size 89 3 (.slice va0 (cmL Fa na Fb j).length vc0) (cmL Fa na Fb j).length (pcC (cmL Fa na Fb j))) := World.ownsRow.alloc HO.out.1 (.cells #[.int .i64 0, .int .i64 0, .string d] 89)
        have HBd := hid HB0.out.drew
        clear HPJ h hSS
        go_wp2_with fail
        refine wp_region_held (S := S) (by kernel_rfl) ?_
        change wpAnyH _ _ _ _ _ _ _ _ (World.drew _)
        refine wpAnyH_take (i := 0) (v := .slice va0 (cmL Fa na Fb j).length vc0) rfl (by kernel_rfl) (by kernel_rfl) (by kernel_rfl) (fun _ _ _ h => h) (Or.inl ⟨by rfl, by intro w' hS'; go_simp <;> (first | omega | (rw [IntKind.wrap_i64]; omega) | (rw [IntKind.wrap_u64]; omega) | (rw [IntKind.wrap_u32]; omega) | (rw [Int.tmod_eq_emod_of_nonneg (by omega)]))⟩) hSd ?_
        (try simp only [List.getElem_toArray, List.getElem_cons_succ, List.getElem_cons_zero, Act.put, List.setIfInBounds_toArray, List.set_cons_zero, List.set_cons_succ])
        refine wpAnyH_take (i := 1) (v := .agg #[.int .i64 0, .int .i64 0, .string d]) rfl (by kernel_rfl) (by kernel_rfl) (by kernel_rfl) (fun _ _ _ h => h) (yieldsIf_load_mid (by rfl) 89 (.tmp 8) rfl wr.heap.size 0 rfl [.int .i64 0, .int .i64 0, .string d] _ HRG.out Try.underlying89 rfl (by kernel_rfl)) hSd ?_
        (try simp only [List.getElem_toArray, List.getElem_cons_succ, List.getElem_cons_zero, Act.put, List.setIfInBounds_toArray, List.set_cons_zero, List.set_cons_succ])
        refine wpAnyH_take (i := 2) (v := .agg #[.int .i64 0, .int .i64 0, .string d]) rfl (by kernel_rfl) (by kernel_rfl) (by kernel_rfl) (fun _ _ _ h => h) (yieldsIf_load_mid (by rfl) 89 (.tmp 8) rfl wr.heap.size 0 rfl [.int .i64 0, .int .i64 0, .string d] _ HRG.out Try.underlying89 rfl (by kernel_rfl)) hSd ?_
        (try simp only [List.getElem_toArray, List.getElem_cons_succ, List.getElem_cons_zero, Act.put, List.setIfInBounds_toArray, List.set_cons_zero, List.set_cons_succ])
        refine held_stepS (i := 3) (by kernel_rfl) rfl (by rfl) ?_
        go_simp
        refine (HSZ.out _).mono ?_
        rintro e w3 ⟨rfl, hb⟩
        have HO3 := hid (own3_call HOd.out hb)
        have HB3 := hid (bl3 HBd.out hb HBd.out.size)
        have hS3 : S w3 := HSC.out _ _ hSd hb
        clear hb
        refine ⟨hS3, ?_⟩
        (try simp only [List.getElem_toArray, List.getElem_cons_succ, List.getElem_cons_zero, Act.put, List.setIfInBounds_toArray, List.set_cons_zero, List.set_cons_succ])
        refine held_stepS (i := 4) (by kernel_rfl) rfl (by rfl) ?_
        go_simp
        refine (HPT.out _).mono ?_
        rintro e w4 ⟨rfl, hb⟩
        have HO4 := hid (own3_call HO3.out hb)
        have HB4 := hid (bl3 HB3.out hb HB3.out.size)
        have hS4 : S w4 := HSC.out _ _ hS3 hb
        clear hb
        refine ⟨hS4, ?_⟩
        (try simp only [List.getElem_toArray, List.getElem_cons_succ, List.getElem_cons_zero, Act.put, List.setIfInBounds_toArray, List.set_cons_zero, List.set_cons_succ])
        have hS5 : S (w4.alloc (.cells #[.int .i64 0, .int .i64 0, .string d] 89)) := HSC.out _ _ hS4 ((Below.refl _ _).alloc (Nat.le_refl _) _)
        refine held_stepS (i := 5) (by kernel_rfl) rfl (by rfl) ?_
        go_simp
        refine ⟨hS5, ?_⟩
        (try simp only [List.getElem_toArray, List.getElem_cons_succ, List.getElem_cons_zero, Act.put, List.setIfInBounds_toArray, List.set_cons_zero, List.set_cons_succ])
        refine held_stepS (i := 6) (by kernel_rfl) rfl (by rfl) ?_
        have hln := HLn.out
        have HO5 := hid (World.ownsRow.alloc HO4.out (.cells #[.int .i64 0, .int .i64 0, .string d] 89))
        have HB5 := hid (HB4.out.alloc HB4.out.size (.cells #[.int .i64 0, .int .i64 0, .string d] 89))
        refine wp_append_pcs (.tmp 28) (.tmp 33) 52 rfl w.heap.size i0 _ 32 Try.underlying52 hi hz0 hz1 hz2 rfl _ (.slice (some ⟨w4.heap.size, 0, none⟩) 1 1) (cmL Fa na Fb j) [PcI.mk 0 0 d] w.heap.size rfl HO5.out rfl (own3_made1 w4 _ ⟨0, 0, d⟩ HB4.out.size) (by show _ + 1 ≤ _; unfold maxLen; omega) (by show (_ + 1) * 32 ≤ _; omega) HB5.out.size ?_
        intro v' w7 ho7 hg7
        have HB7 := hid (HB5.out.grown hg7 HB5.out.size (fun k hk => (HO5.out.lt k hk).1))
        have HO7 : Hid (w7.ownsRow w.heap.size 89 3 v' (cmL Fa na Fb (j + 1)).length (pcC (cmL Fa na Fb (j + 1)))) := by
          show World.ownsRow _ _ _ _ _ _ _
          rw [HSTP.out]; exact ho7
        have hS7 : S w7 := by
          rw [HS.out] at hS5 ⊢
          exact (hg7.block _ (Array.getElem?_eq_some_iff.1 hS5).1 (fun e => HNB.out e.symm)).trans hS5
        refine ⟨hS7, ?_⟩
        (try simp only [List.getElem_toArray, List.getElem_cons_succ, List.getElem_cons_zero, Act.put, List.setIfInBounds_toArray, List.set_cons_zero, List.set_cons_succ])
        refine wpAnyH_take (i := 7) (v := v') rfl (by kernel_rfl) (by kernel_rfl) (by kernel_rfl) (fun _ _ _ h => h) (Or.inl ⟨by rfl, by intro w' hS'; go_simp <;> (first | omega | (rw [IntKind.wrap_i64]; omega) | (rw [IntKind.wrap_u64]; omega) | (rw [IntKind.wrap_u32]; omega) | (rw [Int.tmod_eq_emod_of_nonneg (by omega)]))⟩) hS7 ?_
        (try simp only [List.getElem_toArray, List.getElem_cons_succ, List.getElem_cons_zero, Act.put, List.setIfInBounds_toArray, List.set_cons_zero, List.set_cons_succ])
        refine wpAnyH_done (by kernel_rfl) ?_ _
        obtain ⟨va, vc, rfl⟩ := own3_slice HO7.out
        obtain ⟨N, hN⟩ : ∃ N, N = (cmL Fa na Fb (j + 1)).length := ⟨_, rfl⟩
        have HN := hid hN
        rw [← hN] at HO7 ⊢
        clear ho7 hg7 hS7 hS5 hS4 hS3 hSd HO5 HB5 HO4 HB4 HO3 HB3 HOd HBd HSC HS HRG HSTP HSZ HPT
        by_cases h5 : N ≤ 500
        · have h5I : ¬ (500 : Int) < (N : Int) := by omega
          have HLN2 : Hid ((cmL Fa na Fb (j + 1)).length ≤ 500) := by show _ ≤ _; omega
          clear hN
          go_wp2_with fail
          go_roundw
          case rel => exact ⟨j + 1, by omega, by go_num, HLN2, by rw [← HN.out]; exact HO7.out, HB7.out⟩
          case measure => simp [intN]; omega
        · have h5I : (500 : Int) < (N : Int) := by omega
          have HRR : Hid (cmR Fa na Fb nb = none) := cmR_no fun c => by have := c.2; have := HMONO.out; omega
          clear hN
          go_wp2_with fail
          go_ret2
          exact RdPost.no HRR.out HB7.out
    · obtain rfl : j = nb := by omega
      have HRR : Hid (cmR Fa na Fb j = some (cmL Fa na Fb j)) := cmR_yes ⟨HAB.out.1, HLn.out⟩
      go_wp2_with fail
      go_ret2
      exact RdPost.yes HRR.out HO.out.1 HO.out.2
set_option maxRecDepth 100000 in
set_option maxHeartbeats 1000000 in
theorem cmp_noA (va vb : Value) (na nb : Nat) (Fa Fb : Nat → PcI) (w : World) (hFa : PcLe Fa na) (hA : PcArg w va na Fa) (hB : PcArg w vb nb Fb) (ha : ¬ pcR Fa na 4000) :
    Calls Try.prog 56 #[va, vb] w fun e w' => RdPost w (cmR Fa na Fb nb) e w' := by
  have HK : Hid (Calls Try.prog 80 #[.int .i64 4000, va] w fun e w' => e = .returned (.bool false) ∧ Below w.heap.size w w') := by
    have h2 := pcs_any va na Fa 4000 w hFa hA
    rw [pcB_no ha] at h2
    exact h2
  have HRR : Hid (cmR Fa na Fb nb = none) := cmR_no fun c => ha c.1.1
  obtain ⟨_, _, rfl, _⟩ := hA
  obtain ⟨_, _, rfl, _⟩ := hB
  clear ha hFa
  go_enter Try.func56, Try.ntmps56
  go_wp2_with fail
  refine HK.out.mono ?_
  rintro e w1 ⟨rfl, hb1⟩
  go_wp2_with fail
  go_ret2
  exact RdPost.no HRR.out hb1
set_option maxRecDepth 100000 in
set_option maxHeartbeats 1000000 in
theorem cmp_noB (va vb : Value) (na nb : Nat) (Fa Fb : Nat → PcI) (w : World) (hFa : PcLe Fa na) (hFb : PcLe Fb nb) (hA : PcArg w va na Fa) (hB : PcArg w vb nb Fb) (ha : pcR Fa na 4000) (hb : ¬ pcR Fb nb (pcSum Fa na)) :
    Calls Try.prog 56 #[va, vb] w fun e w' => RdPost w (cmR Fa na Fb nb) e w' := by
  have HK : Hid (Calls Try.prog 80 #[.int .i64 4000, va] w fun e w' => e = .returned (.bool true) ∧ Below w.heap.size w w') := by
    have h2 := pcs_any va na Fa 4000 w hFa hA
    rw [pcB_yes ha] at h2
    exact h2
  have HMD : Hid (∀ w', Below w.heap.size w w' → Calls Try.prog 81 #[va] w' fun e w'' => e = .returned (.int .i64 (pcSum Fa na)) ∧ Below w'.heap.size w' w'') := fun w' hb' => made_any va na Fa 4000 w' ha.2.2.1 (by omega) hFa.d ha.2.2.2.1 (hA.below hb')
  have HKB : Hid (∀ w', Below w.heap.size w w' → Calls Try.prog 80 #[.int .i64 (pcSum Fa na), vb] w' fun e w'' => e = .returned (.bool false) ∧ Below w'.heap.size w' w'') := fun w' hb' => by
    have h2 := pcs_any vb nb Fb (pcSum Fa na) w' hFb (hB.below hb')
    rw [pcB_no hb] at h2
    exact h2
  have HRR : Hid (cmR Fa na Fb nb = none) := cmR_no fun c => hb c.1.2
  obtain ⟨_, _, rfl, _⟩ := hA
  obtain ⟨_, _, rfl, _⟩ := hB
  clear ha hb hFa hFb
  go_enter Try.func56, Try.ntmps56
  go_wp2_with fail
  refine HK.out.mono ?_
  rintro e w1 ⟨rfl, hb1⟩
  have HB1 := hid hb1
  clear hb1
  go_wp2_with fail
  refine (HMD.out _ HB1.out).mono ?_
  rintro e w2 ⟨rfl, hb2⟩
  have HB2 := hid (bl3 HB1.out hb2 HB1.out.size)
  clear hb2 HB1
  go_wp2_with fail
  refine (HKB.out _ HB2.out).mono ?_
  rintro e w3 ⟨rfl, hb3⟩
  have HB3 := hid (bl3 HB2.out hb3 HB2.out.size)
  clear hb3
  go_wp2_with fail
  go_ret2
  exact RdPost.no HRR.out HB3.out
theorem cmp_any (va vb : Value) (na nb : Nat) (Fa Fb : Nat → PcI) (w : World) (hFa : PcLe Fa na) (hFb : PcLe Fb nb) (hA : PcArg w va na Fa) (hB : PcArg w vb nb Fb) :
    Calls Try.prog 56 #[va, vb] w fun e w' => RdPost w (cmR Fa na Fb nb) e w' := by
  by_cases ha : pcR Fa na 4000
  · by_cases hb : pcR Fb nb (pcSum Fa na)
    · obtain ⟨sa, ca, rfl, hr⟩ := id hA
      obtain ⟨sb, cb, rfl, hrb⟩ := id hB
      exact cmp_yes sa sb ca cb na nb Fa Fb w hFa hFb hA hrb ha hb
    · exact cmp_noB va vb na nb Fa Fb w hFa hFb hA hB ha hb
  · exact cmp_noA va vb na nb Fa Fb w hFa hA hB ha
end Go.Proofs.Ytpeddaljgmkomaa
