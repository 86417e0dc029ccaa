/-
  A link made to skip its base: the code's.
-/
import Derived.Test.YtpeddaljgmkomaaPk30
import Derived.Test.YtpeddaljgmkomaaCmpC
import Derived.Test.YtpeddaljgmkomaaPk01
namespace Go.Proofs.Ytpeddaljgmkomaa
open Go.RowKit
set_option linter.unusedVariables false
set_option linter.unusedSimpArgs false
set_option maxRecDepth 100000 in
set_option maxHeartbeats 2000000 in
theorem skip_any (v : Value) (L : List LkI) (bs : List Nat) (k : Int) (w : World) (hk : (Lit.int .i64 k).wf = true) (hl : LkLe L) (h : Hd w (lksD L) v bs) :
    Calls Try.prog 29 #[v, .int .i64 k] w fun e w' => LkPost w (skR L k) e w' := by
  obtain ⟨a, c, rfl, hx⟩ := lks_at h
  have HVS : Hid (Calls Try.prog 43 #[.slice a L.length c, .int .i64 k] w fun e w' => e = .returned (.tuple #[verV ((verOf L k).getD ver0), .bool (verOf L k).isSome]) ∧ Below w.heap.size w w') := verOf_any _ L bs k w hk hl h
  unfold verV at HVS
  have HH := dhid h
  obtain ⟨n, hn⟩ : ∃ n, n = L.length := ⟨_, rfl⟩
  rw [← hn] at HVS HH hx ⊢
  have HN := dhid hn
  clear h hn
  cases hv : verOf L k with
  | none =>
    rw [hv] at HVS
    have HR := dhid (skR_none hv)
    have HVS2 : Hid (Calls Try.prog 43 #[.slice a n c, .int .i64 k] w fun e w' => e = .returned (.tuple #[.agg #[.string ⟨#[]⟩, .int .i64 0], .bool false]) ∧ Below w.heap.size w w') := HVS
    clear hv HVS hx
    go_enter Try.func29, Try.ntmps29
    go_wp2_with fail
    refine HVS2.out.mono ?_
    rintro e w3 ⟨rfl, hb3⟩
    have HB3 := dhid (hb3.alloc hb3.size (.cells #[.string ⟨#[]⟩, .int .i64 0] 62))
    clear hb3 HVS2
    go_wp2_with fail
    go_ret2
    exact LkPost.no HR.out HB3.out
  | some y =>
    rw [hv] at HVS
    obtain ⟨V, hA, hk0, hkl, hy⟩ := verOf_in hv
    have hG := lkG_of hl hA
    have hn30 := (vAll_some hA).1
    obtain ⟨m, hm⟩ : ∃ m, m = k.toNat := ⟨_, rfl⟩
    rw [← hm] at hkl hy
    obtain rfl : (m : Int) = k := by omega
    obtain ⟨t, d⟩ := y
    have HVS2 : Hid (Calls Try.prog 43 #[.slice a n c, .int .i64 (m : Int)] w fun e w' => e = .returned (.tuple #[.agg #[.string t, .int .i64 d], .bool true]) ∧ Below w.heap.size w w') := HVS
    by_cases hd : d < 2
    · have HR := dhid (skR_low hv hd)
      clear hA hk0 hkl hy hG hn30 hm hk hv HVS hx
      go_enter Try.func29, Try.ntmps29
      go_wp2_with fail
      refine HVS2.out.mono ?_
      rintro e w3 ⟨rfl, hb3⟩
      have HB3 := dhid (hb3.alloc hb3.size (.cells #[.string t, .int .i64 d] 62))
      clear hb3 HVS2
      go_wp2_with fail
      go_ret2
      exact LkPost.no HR.out HB3.out
    · have hl1 := List.getElem?_eq_getElem hkl
      obtain ⟨l, hle⟩ : ∃ l, l = L[m] := ⟨_, rfl⟩
      rw [← hle] at hl1
      obtain ⟨j, b, hlb, hjm, hb, hb0⟩ : ∃ (j : Nat) (b : LkI), l.b = (j : Int) ∧ j < m ∧ L[j]? = some b ∧ 0 ≤ b.b := by
        rcases sk_case hA hkl hl1 hy with ⟨_, c⟩ | ⟨j, b, h1, h2, h3, ⟨_, c⟩ | ⟨h4, _⟩⟩
        · exact absurd c hd
        · exact absurd c hd
        · exact ⟨j, b, h1, h2, h3, h4⟩
      have hR := skR_at hv hd hl1 hlb hb
      obtain ⟨g, rfl, hg⟩ := hx (by have := HN.out; omega)
      obtain ⟨pl, bl, x0, x1, x2, hdl⟩ := hg.2 m l hl1
      obtain ⟨pb, bb, z0, z1, z2, hdb⟩ := hg.2 j b hb
      have hgl := hg.1
      have hpl := pcs_arg hdl
      have hpb := pcs_arg hdb
      have hle1 := (hl.one l (List.mem_of_getElem? hl1)).2.2
      have hle2 := (hl.one b (List.mem_of_getElem? hb)).2.2
      have HCM : Hid (∀ w', Below w.heap.size w w' → Calls Try.prog 56 #[pb, pl] w' fun e w2 => RdPost w' (skP l b) e w2) := fun w' hb => cmp_any pb pl _ _ _ _ w' hle2 hle1 (hpb.below hb) (hpl.below hb)
      obtain ⟨a1, c1, rfl, _⟩ := hpl
      obtain ⟨a2, c2, rfl, _⟩ := hpb
      have hmn : m < n := by rw [HN.out]; exact hkl
      have hmI : (m : Int) < (n : Int) := by omega
      have hjI : (j : Int) < (n : Int) := by omega
      have HW : Hid (∀ (w' : World) (P : List PcI) (pv : Value) (lo : Nat), Below w.heap.size w w' → lo ≤ w'.heap.size → Own w' lo (pcsD P) pv → Calls Try.prog 54 #[.slice (some ⟨g, 0, none⟩) n c, .int .i64 (m : Int), .agg #[.int .i64 b.b, .string ⟨#[]⟩, pv]] w' fun e w2 => (∃ v', e = .returned v' ∧ Own w2 lo (lksD (L.set m ⟨b.b, ⟨#[]⟩, P⟩)) v') ∧ Below w'.heap.size w' w2) := fun w' P pv lo hb hlo ho => withLk_any _ L bs m ⟨b.b, ⟨#[]⟩, P⟩ pv lo w' hn30 hkl hG (HH.out.under hb) ho hlo
      obtain ⟨b0, bd, bp⟩ := b
      obtain ⟨n1, hn1⟩ : ∃ n1, n1 = l.p.length := ⟨_, rfl⟩
      obtain ⟨n2, hn2⟩ : ∃ n2, n2 = bp.length := ⟨_, rfl⟩
      simp only at hR HCM HW z0 z1 z2 hb0
      rw [← hn1] at HCM x2
      rw [← hn2] at HCM z2
      rw [hlb] at x0
      obtain ⟨S2, hS2⟩ : ∃ S2, S2 = skP l ⟨b0, bd, bp⟩ := ⟨_, rfl⟩
      rw [← hS2] at HCM hR
      obtain ⟨q, hq⟩ : ∃ q, q = 3 * m := ⟨_, rfl⟩
      have hiq : m * 3 = q := by omega
      rw [← hq] at x0 x1 x2
      obtain ⟨r, hr⟩ : ∃ r, r = 3 * j := ⟨_, rfl⟩
      have hjr : j * 3 = r := by omega
      rw [← hr] at z0 z1 z2
      have HX0 := dhid x0
      have HX2 := dhid x2
      have HZ0 := dhid z0
      have HZ1 := dhid z1
      have HZ2 := dhid z2
      have HGL := dhid hgl
      clear hA hk0 hkl hy hG hn30 hm hk hv HVS hx hle hl1 hlb hb hg hdl hdb hle1 hle2 x0 x1 x2 z0 z1 z2 hn1 hn2 hS2 hq hr hgl hmn
      go_enter Try.func29, Try.ntmps29
      go_wp2_with fail
      refine HVS2.out.mono ?_
      rintro e w3 ⟨rfl, hb3⟩
      have HB3 := dhid hb3
      have HB4 := dhid (hb3.alloc hb3.size (.cells #[.string t, .int .i64 d] 62))
      have HB5 : Hid (Below w.heap.size w ((w3.alloc (.cells #[.string t, .int .i64 d] 62)).alloc (.cells #[.int .i64 b0, .string bd, .slice a2 n2 c2] 54))) := HB4.out.alloc HB4.out.size _
      have x0 := (HB4.out.cell (p := ⟨g, q, none⟩) HGL.out).trans HX0.out
      have z0 := (HB4.out.cell (p := ⟨g, r, none⟩) HGL.out).trans HZ0.out
      have z1 := (HB4.out.cell (p := ⟨g, r + 1, none⟩) HGL.out).trans HZ1.out
      have z2 := (HB4.out.cell (p := ⟨g, r + 2, none⟩) HGL.out).trans HZ2.out
      clear hb3 HVS2
      obtain ⟨S, hSS⟩ : ∃ S : World → Prop, S = fun w' => w'.heap[w3.heap.size + 1]? = some (.cells #[.int .i64 b0, .string bd, .slice a2 n2 c2] 54 (0, 0)) ∧ Below w.heap.size w w' := ⟨_, rfl⟩
      have HS := dhid hSS
      have HSC : Hid (∀ a b, S a → Below a.heap.size a b → S b) := fun a b h1 h2 => by
        rw [hSS] at h1 ⊢
        exact ⟨(h2.block _ (Array.getElem?_eq_some_iff.1 h1.1).1).trans h1.1, dblow h1.2 h2 h1.2.size⟩
      have hSd : S (World.drew ((w3.alloc (.cells #[.string t, .int .i64 d] 62)).alloc (.cells #[.int .i64 b0, .string bd, .slice a2 n2 c2] 54))) := by
        rw [hSS]
        refine ⟨?_, HB5.out.drew⟩
        have e1 : (w3.alloc (.cells #[.string t, .int .i64 d] 62)).heap.size = w3.heap.size + 1 := by simp
        rw [← e1]
        exact heap_alloc_new (w3.alloc (.cells #[.string t, .int .i64 d] 62)) _
      have HF0 : Hid (∀ w', S w' → w'.cell? ⟨w3.heap.size + 1, 0, none⟩ = some (.int .i64 b0)) := fun w' hw' => by rw [hSS] at hw'; exact cell_of_row _ _ 0 _ _ _ hw'.1
      have HF2 : Hid (∀ w', S w' → w'.cell? ⟨w3.heap.size + 1, 2, none⟩ = some (.slice a2 n2 c2)) := fun w' hw' => by rw [hSS] at hw'; exact cell_of_row _ _ 2 _ _ _ hw'.1
      have HFX : Hid (∀ w', S w' → w'.cell? ⟨g, q + 2, none⟩ = some (.slice a1 n1 c1)) := fun w' hw' => by rw [hSS] at hw'; exact (hw'.2.cell (p := ⟨g, q + 2, none⟩) HGL.out).trans HX2.out
      have HSB : Hid (∀ w', S w' → Below w.heap.size w w') := fun w' hw' => by rw [hSS] at hw'; exact hw'.2
      clear hSS
      go_wp2_with fail
      refine wp_region_held (S := S) (by kernel_rfl) ?_
      change wpAnyH _ _ _ _ _ _ _ _ (World.drew _)
      refine wpAnyH_take (i := 0) (v := .pointer (some ⟨w3.heap.size + 1, 2, none⟩)) rfl (by kernel_rfl) (by kernel_rfl) (by kernel_rfl) (fun _ _ _ h => h) (Or.inl ⟨by rfl, by intro w' hS'; go_simp <;> (first | omega | (rw [IntKind.wrap_i64]; omega) | (rw [IntKind.wrap_u64]; omega) | (rw [IntKind.wrap_u32]; omega) | (rw [Int.tmod_eq_emod_of_nonneg (by omega)]))⟩) hSd ?_
      (try simp only [List.getElem_toArray, List.getElem_cons_succ, List.getElem_cons_zero, Act.put, List.setIfInBounds_toArray, List.set_cons_zero, List.set_cons_succ])
      refine wpAnyH_take (i := 1) (v := .slice a2 n2 c2) rfl (by kernel_rfl) (by kernel_rfl) (by kernel_rfl) (fun _ _ _ h => h) (Or.inl ⟨by rfl, by intro w' hS'; have hxx := HF2.out w' hS'; go_simp <;> (first | omega | (rw [IntKind.wrap_i64]; omega) | (rw [IntKind.wrap_u64]; omega) | (rw [IntKind.wrap_u32]; omega) | (rw [Int.tmod_eq_emod_of_nonneg (by omega)]))⟩) hSd ?_
      (try simp only [List.getElem_toArray, List.getElem_cons_succ, List.getElem_cons_zero, Act.put, List.setIfInBounds_toArray, List.set_cons_zero, List.set_cons_succ])
      refine wpAnyH_take (i := 2) (v := .slice (some ⟨g, 0, none⟩) n c) rfl (by kernel_rfl) (by kernel_rfl) (by kernel_rfl) (fun _ _ _ h => h) (Or.inl ⟨by rfl, by intro w' hS'; go_simp <;> (first | omega | (rw [IntKind.wrap_i64]; omega) | (rw [IntKind.wrap_u64]; omega) | (rw [IntKind.wrap_u32]; omega) | (rw [Int.tmod_eq_emod_of_nonneg (by omega)]))⟩) hSd ?_
      (try simp only [List.getElem_toArray, List.getElem_cons_succ, List.getElem_cons_zero, Act.put, List.setIfInBounds_toArray, List.set_cons_zero, List.set_cons_succ])
      refine wpAnyH_take (i := 3) (v := .int .i64 (m : Int)) rfl (by kernel_rfl) (by kernel_rfl) (by kernel_rfl) (fun _ _ _ h => h) (Or.inl ⟨by rfl, by intro w' hS'; go_simp <;> (first | omega | (rw [IntKind.wrap_i64]; omega) | (rw [IntKind.wrap_u64]; omega) | (rw [IntKind.wrap_u32]; omega) | (rw [Int.tmod_eq_emod_of_nonneg (by omega)]))⟩) hSd ?_
      (try simp only [List.getElem_toArray, List.getElem_cons_succ, List.getElem_cons_zero, Act.put, List.setIfInBounds_toArray, List.set_cons_zero, List.set_cons_succ])
      refine wpAnyH_take (i := 4) (v := .pointer (some ⟨g, q, none⟩)) rfl (by kernel_rfl) (by kernel_rfl) (by kernel_rfl) (fun _ _ _ h => h) (Or.inl ⟨by rfl, by intro w' hS'; go_simp <;> (first | omega | (rw [IntKind.wrap_i64]; omega) | (rw [IntKind.wrap_u64]; omega) | (rw [IntKind.wrap_u32]; omega) | (rw [Int.tmod_eq_emod_of_nonneg (by omega)]))⟩) hSd ?_
      (try simp only [List.getElem_toArray, List.getElem_cons_succ, List.getElem_cons_zero, Act.put, List.setIfInBounds_toArray, List.set_cons_zero, List.set_cons_succ])
      refine wpAnyH_take (i := 5) (v := .pointer (some ⟨g, q + 2, none⟩)) rfl (by kernel_rfl) (by kernel_rfl) (by kernel_rfl) (fun _ _ _ h => h) (Or.inl ⟨by rfl, by intro w' hS'; go_simp <;> (first | omega | (rw [IntKind.wrap_i64]; omega) | (rw [IntKind.wrap_u64]; omega) | (rw [IntKind.wrap_u32]; omega) | (rw [Int.tmod_eq_emod_of_nonneg (by omega)]))⟩) hSd ?_
      (try simp only [List.getElem_toArray, List.getElem_cons_succ, List.getElem_cons_zero, Act.put, List.setIfInBounds_toArray, List.set_cons_zero, List.set_cons_succ])
      refine wpAnyH_take (i := 6) (v := .slice a1 n1 c1) rfl (by kernel_rfl) (by kernel_rfl) (by kernel_rfl) (fun _ _ _ h => h) (Or.inl ⟨by rfl, by intro w' hS'; have hxx := HFX.out w' hS'; go_simp <;> (first | omega | (rw [IntKind.wrap_i64]; omega) | (rw [IntKind.wrap_u64]; omega) | (rw [IntKind.wrap_u32]; omega) | (rw [Int.tmod_eq_emod_of_nonneg (by omega)]))⟩) hSd ?_
      (try simp only [List.getElem_toArray, List.getElem_cons_succ, List.getElem_cons_zero, Act.put, List.setIfInBounds_toArray, List.set_cons_zero, List.set_cons_succ])
      refine held_stepS (i := 7) (by kernel_rfl) rfl (by rfl) ?_
      go_simp
      refine (HCM.out _ (HSB.out _ hSd)).mono ?_
      rintro e w6 ⟨⟨pw, rfl, hpo⟩, hb6⟩
      have hS6 : S w6 := HSC.out _ _ hSd hb6
      have HPO := dhid (pcs_own hpo)
      have HB6 := dhid (HSB.out _ hS6)
      have HSZ : Hid (w.heap.size ≤ (World.drew ((w3.alloc (.cells #[.string t, .int .i64 d] 62)).alloc (.cells #[.int .i64 b0, .string bd, .slice a2 n2 c2] 54))).heap.size ∧ (World.drew ((w3.alloc (.cells #[.string t, .int .i64 d] 62)).alloc (.cells #[.int .i64 b0, .string bd, .slice a2 n2 c2] 54))).heap.size ≤ w6.heap.size) := ⟨(HSB.out _ hSd).size, hb6.size⟩
      have y0 := HF0.out _ hS6
      obtain ⟨pa, pc, rfl⟩ := own3_slice hpo
      clear hb6 hpo
      refine ⟨hS6, ?_⟩
      (try simp only [List.getElem_toArray, List.getElem_cons_succ, List.getElem_cons_zero, Act.put, List.setIfInBounds_toArray, List.set_cons_zero, List.set_cons_succ])
      cases S2 with
      | none =>
        have HR := dhid hR
        clear hR
        simp only [Option.isSome] at *
        refine wpAnyH_take (i := 8) (v := .tuple #[.slice pa 0 pc, .bool false]) rfl (by kernel_rfl) (by kernel_rfl) (by kernel_rfl) (fun _ _ _ h => h) (Or.inl ⟨by rfl, by intro w' hS'; go_simp <;> (first | omega | (rw [IntKind.wrap_i64]; omega) | (rw [IntKind.wrap_u64]; omega) | (rw [IntKind.wrap_u32]; omega) | (rw [Int.tmod_eq_emod_of_nonneg (by omega)]) | rfl)⟩) hS6 ?_
        (try simp only [List.getElem_toArray, List.getElem_cons_succ, List.getElem_cons_zero, Act.put, List.setIfInBounds_toArray, List.set_cons_zero, List.set_cons_succ])
        refine wpAnyH_take (i := 9) (v := .slice pa 0 pc) rfl (by kernel_rfl) (by kernel_rfl) (by kernel_rfl) (fun _ _ _ h => h) (Or.inl ⟨by rfl, by intro w' hS'; go_simp <;> (first | omega | (rw [IntKind.wrap_i64]; omega) | (rw [IntKind.wrap_u64]; omega) | (rw [IntKind.wrap_u32]; omega) | (rw [Int.tmod_eq_emod_of_nonneg (by omega)]) | rfl)⟩) hS6 ?_
        (try simp only [List.getElem_toArray, List.getElem_cons_succ, List.getElem_cons_zero, Act.put, List.setIfInBounds_toArray, List.set_cons_zero, List.set_cons_succ])
        refine wpAnyH_take (i := 10) (v := .bool false) rfl (by kernel_rfl) (by kernel_rfl) (by kernel_rfl) (fun _ _ _ h => h) (Or.inl ⟨by rfl, by intro w' hS'; go_simp <;> (first | omega | (rw [IntKind.wrap_i64]; omega) | (rw [IntKind.wrap_u64]; omega) | (rw [IntKind.wrap_u32]; omega) | (rw [Int.tmod_eq_emod_of_nonneg (by omega)]) | rfl)⟩) hS6 ?_
        (try simp only [List.getElem_toArray, List.getElem_cons_succ, List.getElem_cons_zero, Act.put, List.setIfInBounds_toArray, List.set_cons_zero, List.set_cons_succ])
        refine wpAnyH_take (i := 11) (v := .slice pa 0 pc) rfl (by kernel_rfl) (by kernel_rfl) (by kernel_rfl) (fun _ _ _ h => h) (Or.inl ⟨by rfl, by intro w' hS'; go_simp <;> (first | omega | (rw [IntKind.wrap_i64]; omega) | (rw [IntKind.wrap_u64]; omega) | (rw [IntKind.wrap_u32]; omega) | (rw [Int.tmod_eq_emod_of_nonneg (by omega)]) | rfl)⟩) hS6 ?_
        (try simp only [List.getElem_toArray, List.getElem_cons_succ, List.getElem_cons_zero, Act.put, List.setIfInBounds_toArray, List.set_cons_zero, List.set_cons_succ])
        refine wpAnyH_take (i := 12) (v := .bool false) rfl (by kernel_rfl) (by kernel_rfl) (by kernel_rfl) (fun _ _ _ h => h) (Or.inl ⟨by rfl, by intro w' hS'; go_simp <;> (first | omega | (rw [IntKind.wrap_i64]; omega) | (rw [IntKind.wrap_u64]; omega) | (rw [IntKind.wrap_u32]; omega) | (rw [Int.tmod_eq_emod_of_nonneg (by omega)]) | rfl)⟩) hS6 ?_
        (try simp only [List.getElem_toArray, List.getElem_cons_succ, List.getElem_cons_zero, Act.put, List.setIfInBounds_toArray, List.set_cons_zero, List.set_cons_succ])
        refine wpAnyH_done (by kernel_rfl) ?_ _
        clear hS6 hSd
        go_wp2_with fail
        go_ret2
        exact LkPost.no HR.out HB6.out
      | some P =>
        have HR : Hid (skR L (m : Int) = some (L.set m ⟨b0, ⟨#[]⟩, P⟩)) := hR
        have HPO2 : Hid (Own w6 (World.drew ((w3.alloc (.cells #[.string t, .int .i64 d] 62)).alloc (.cells #[.int .i64 b0, .string bd, .slice a2 n2 c2] 54))).heap.size (pcsD P) (.slice pa P.length pc)) := HPO.out
        have HWW : Hid (Calls Try.prog 54 #[.slice (some ⟨g, 0, none⟩) n c, .int .i64 (m : Int), .agg #[.int .i64 b0, .string ⟨#[]⟩, .slice pa P.length pc]] w6 fun e w2 => (∃ v', e = .returned v' ∧ Own w2 (World.drew ((w3.alloc (.cells #[.string t, .int .i64 d] 62)).alloc (.cells #[.int .i64 b0, .string bd, .slice a2 n2 c2] 54))).heap.size (lksD (L.set m ⟨b0, ⟨#[]⟩, P⟩)) v') ∧ Below w6.heap.size w6 w2) := HW.out w6 P _ _ HB6.out HSZ.out.2 HPO2.out
        clear hR HPO HPO2 HW
        simp only [Option.isSome] at *
        refine wpAnyH_take (i := 8) (v := .tuple #[.slice pa P.length pc, .bool true]) rfl (by kernel_rfl) (by kernel_rfl) (by kernel_rfl) (fun _ _ _ h => h) (Or.inl ⟨by rfl, by intro w' hS'; go_simp <;> (first | omega | (rw [IntKind.wrap_i64]; omega) | (rw [IntKind.wrap_u64]; omega) | (rw [IntKind.wrap_u32]; omega) | (rw [Int.tmod_eq_emod_of_nonneg (by omega)]) | rfl)⟩) hS6 ?_
        (try simp only [List.getElem_toArray, List.getElem_cons_succ, List.getElem_cons_zero, Act.put, List.setIfInBounds_toArray, List.set_cons_zero, List.set_cons_succ])
        refine wpAnyH_take (i := 9) (v := .slice pa P.length pc) rfl (by kernel_rfl) (by kernel_rfl) (by kernel_rfl) (fun _ _ _ h => h) (Or.inl ⟨by rfl, by intro w' hS'; go_simp <;> (first | omega | (rw [IntKind.wrap_i64]; omega) | (rw [IntKind.wrap_u64]; omega) | (rw [IntKind.wrap_u32]; omega) | (rw [Int.tmod_eq_emod_of_nonneg (by omega)]) | rfl)⟩) hS6 ?_
        (try simp only [List.getElem_toArray, List.getElem_cons_succ, List.getElem_cons_zero, Act.put, List.setIfInBounds_toArray, List.set_cons_zero, List.set_cons_succ])
        refine wpAnyH_take (i := 10) (v := .bool true) rfl (by kernel_rfl) (by kernel_rfl) (by kernel_rfl) (fun _ _ _ h => h) (Or.inl ⟨by rfl, by intro w' hS'; go_simp <;> (first | omega | (rw [IntKind.wrap_i64]; omega) | (rw [IntKind.wrap_u64]; omega) | (rw [IntKind.wrap_u32]; omega) | (rw [Int.tmod_eq_emod_of_nonneg (by omega)]) | rfl)⟩) hS6 ?_
        (try simp only [List.getElem_toArray, List.getElem_cons_succ, List.getElem_cons_zero, Act.put, List.setIfInBounds_toArray, List.set_cons_zero, List.set_cons_succ])
        refine wpAnyH_take (i := 11) (v := .slice pa P.length pc) rfl (by kernel_rfl) (by kernel_rfl) (by kernel_rfl) (fun _ _ _ h => h) (Or.inl ⟨by rfl, by intro w' hS'; go_simp <;> (first | omega | (rw [IntKind.wrap_i64]; omega) | (rw [IntKind.wrap_u64]; omega) | (rw [IntKind.wrap_u32]; omega) | (rw [Int.tmod_eq_emod_of_nonneg (by omega)]) | rfl)⟩) hS6 ?_
        (try simp only [List.getElem_toArray, List.getElem_cons_succ, List.getElem_cons_zero, Act.put, List.setIfInBounds_toArray, List.set_cons_zero, List.set_cons_succ])
        refine wpAnyH_take (i := 12) (v := .bool true) rfl (by kernel_rfl) (by kernel_rfl) (by kernel_rfl) (fun _ _ _ h => h) (Or.inl ⟨by rfl, by intro w' hS'; go_simp <;> (first | omega | (rw [IntKind.wrap_i64]; omega) | (rw [IntKind.wrap_u64]; omega) | (rw [IntKind.wrap_u32]; omega) | (rw [Int.tmod_eq_emod_of_nonneg (by omega)]) | rfl)⟩) hS6 ?_
        (try simp only [List.getElem_toArray, List.getElem_cons_succ, List.getElem_cons_zero, Act.put, List.setIfInBounds_toArray, List.set_cons_zero, List.set_cons_succ])
        refine wpAnyH_done (by kernel_rfl) ?_ _
        clear hS6 hSd
        go_wp2_with fail
        refine HWW.out.mono ?_
        rintro e w7 ⟨⟨v', rfl, ho⟩, hb7⟩
        have HB7 := dhid (dblow HB6.out hb7 HB6.out.size)
        have HO := dhid (ho.base HSZ.out.1)
        clear hb7 ho HWW
        go_wp2_with fail
        go_ret2
        exact LkPost.yes HR.out HO.out HB7.out
end Go.Proofs.Ytpeddaljgmkomaa
