/-
  A link made to skip its base: the specification's.
-/
import Derived.Test.YtpeddaljgmkomaaPk30
import Derived.Test.YtpeddaljgmkomaaCmpS
import Derived.Test.YtpeddaljgmkomaaPk23
import Derived.Test.YtpeddaljgmkomaaPk01
namespace Go.Proofs.Ytpeddaljgmkomaa
open Go.RowKit
set_option linter.unusedVariables false
set_option linter.unusedSimpArgs false
set_option maxRecDepth 100000 in
set_option maxHeartbeats 2000000 in
theorem sskip_any (v : Value) (L : List LkI) (bs : List Nat) (k : Int) (w : World) (hl : LkLe L) (h : Hd w (lksD L) v bs) :
    Calls Try.prog 28 #[v, .int .i64 k] w fun e w' => LkPost w (skR L k) e w' := by
  obtain ⟨a, c, rfl, hx⟩ := lks_at h
  have HCB : Hid (Calls Try.prog 14 #[.slice a L.length c] w fun e w' => e = .returned (.bool (chB L)) ∧ Below w.heap.size w w') := schain_any _ L bs w hl h
  have HIY : Hid (∀ (x lo hi : Int) w, lo ≤ x → x ≤ hi → Calls Try.prog 42 #[.int .i64 x, .int .i64 lo, .int .i64 hi] w fun e w' => e = .returned (.bool true) ∧ w' = w) := fun x lo hi w h1 h2 => in_yes x lo hi w h1 h2
  have HIN : Hid (∀ (x lo hi : Int) w, ¬ (lo ≤ x ∧ x ≤ hi) → Calls Try.prog 42 #[.int .i64 x, .int .i64 lo, .int .i64 hi] w fun e w' => e = .returned (.bool false) ∧ w' = w) := fun x lo hi w h => in_no x lo hi w h
  have HH := dhid h
  have HLEN := hl.len
  obtain ⟨n, hn⟩ : ∃ n, n = L.length := ⟨_, rfl⟩
  rw [← hn] at HCB HH HLEN hx ⊢
  have HN := dhid hn
  have hw1 : IntKind.i64.wrap ((n : Int) - 1) = (n : Int) - 1 := by rw [IntKind.wrap_i64]; omega
  clear h hn
  cases hA : vAll L with
  | none =>
    have hcb : chB L = false := by unfold chB; rw [hA]; rfl
    rw [hcb] at HCB
    have HR := dhid (skR_none (verOf_none (k := k) hA))
    clear hA hcb hx
    go_enter Try.func28, Try.ntmps28
    go_wp2_with fail
    refine HCB.out.mono ?_
    rintro e w3 ⟨rfl, hb3⟩
    have HB3 := dhid hb3
    clear hb3 HCB
    go_wp2_with fail
    go_ret2
    exact LkPost.no HR.out HB3.out
  | some V =>
    have hcb : chB L = true := by unfold chB; rw [hA]; rfl
    rw [hcb] at HCB
    by_cases hin : 0 ≤ k ∧ k ≤ (n : Int) - 1
    · obtain ⟨y, hy, hv⟩ := verOf_at hA (by rw [← HN.out]; exact hin)
      have hG := lkG_of hl hA
      have hn30 := (vAll_some hA).1
      obtain ⟨m, hmk⟩ : ∃ m, m = k.toNat := ⟨_, rfl⟩
      rw [← hmk] at hy
      obtain rfl : (m : Int) = k := by omega
      have hmn : m < n := by omega
      have hkl : m < L.length := by rw [← HN.out]; exact hmn
      have hmI : (m : Int) < (n : Int) := by omega
      have hl1 := List.getElem?_eq_getElem hkl
      obtain ⟨l, hle⟩ : ∃ l, l = L[m] := ⟨_, rfl⟩
      rw [← hle] at hl1
      obtain ⟨g, rfl, hg⟩ := hx (by omega)
      obtain ⟨pl, bl, x0, x1, x2, hdl⟩ := hg.2 m l hl1
      have HGL := dhid hg.1
      obtain ⟨q, hq⟩ : ∃ q, q = 3 * m := ⟨_, rfl⟩
      have hiq : m * 3 = q := by omega
      rw [← hq] at x0 x1 x2
      have HX0 := dhid x0
      have HX2 := dhid x2
      rcases sk_case hA hkl hl1 hy with ⟨hb1, hd⟩ | ⟨j, b, hlb, hjm, hb, hcase⟩
      · have HR := dhid (skR_low hv hd)
        clear hA hcb hx hy hv hG hn30 hmk hmn hkl hl1 hle hg hdl hq x0 x1 x2
        go_enter Try.func28, Try.ntmps28
        go_wp2_with fail
        refine HCB.out.mono ?_
        rintro e w3 ⟨rfl, hb3⟩
        have HB3 := dhid hb3
        have x0 := (hb3.cell (p := ⟨g, q, none⟩) HGL.out).trans HX0.out
        rw [hb1] at x0
        clear hb3 HCB hb1
        go_wp2_with fail
        refine (HIY.out _ _ _ _ hin.1 hin.2).mono ?_
        rintro e w1 ⟨rfl, hw1⟩
        subst w1
        clear hin HIN HIY
        go_wp2_with fail
        go_ret2
        exact LkPost.no HR.out HB3.out
      · obtain ⟨pb, bb, z0, z1, z2, hdb⟩ := hg.2 j b hb
        have hjI : (j : Int) < (n : Int) := by omega
        obtain ⟨r, hr⟩ : ∃ r, r = 3 * j := ⟨_, rfl⟩
        have hjr : j * 3 = r := by omega
        rw [← hr] at z0 z1 z2
        rw [hlb] at HX0
        have HZ0 := dhid z0
        have HZ2 := dhid z2
        rcases hcase with ⟨hb1, hd⟩ | ⟨hb0, hd⟩
        · have HR := dhid (skR_low hv hd)
          clear hA hcb hx hy hv hG hn30 hmk hmn hkl hl1 hle hg hdl hdb hq hr x0 x1 x2 z0 z1 z2 hlb hjm hb
          go_enter Try.func28, Try.ntmps28
          go_wp2_with fail
          refine HCB.out.mono ?_
          rintro e w3 ⟨rfl, hb3⟩
          have HB3 := dhid hb3
          have x0 := (hb3.cell (p := ⟨g, q, none⟩) HGL.out).trans HX0.out
          have z0 := (hb3.cell (p := ⟨g, r, none⟩) HGL.out).trans HZ0.out
          rw [hb1] at z0
          clear hb3 HCB hb1
          go_wp2_with fail
          refine (HIY.out _ _ _ _ hin.1 hin.2).mono ?_
          rintro e w1 ⟨rfl, hw1⟩
          subst w1
          clear hin HIN HIY
          go_wp2_with fail
          go_ret2
          exact LkPost.no HR.out HB3.out
        · have hR := skR_at hv hd hl1 hlb hb
          have hpl := pcs_arg hdl
          have hpb := pcs_arg hdb
          have hle1 := (hl.one l (List.mem_of_getElem? hl1)).2.2
          have hle2 := (hl.one b (List.mem_of_getElem? hb)).2.2
          have HCM : Hid (∀ w', Below w.heap.size w w' → Calls Try.prog 55 #[pb, pl] w' fun e w2 => RdPost w' (skP l b) e w2) := fun w' hb => scmp_any pb pl _ _ _ _ w' hle2 hle1 (hpb.below hb) (hpl.below hb)
          obtain ⟨a1, c1, rfl, _⟩ := hpl
          obtain ⟨a2, c2, rfl, _⟩ := hpb
          have HCP : Hid (∀ w', Below w.heap.size w w' → Calls Try.prog 45 #[.slice (some ⟨g, 0, none⟩) n c] w' fun e w2 => (∃ v us, e = .returned v ∧ Gl w2 w'.heap.size 54 3 isPc v n us (L.flatMap lkDs)) ∧ Below w'.heap.size w' w2) := fun w' hb => by
            have h := scpLk_gl _ L bs w' hn30 hG (HH.out.under hb)
            rw [← HN.out] at h
            exact h
          have HML := dhid hkl
          have HQ := dhid hq
          obtain ⟨b0, bd, bp⟩ := b
          obtain ⟨n1, hn1⟩ : ∃ n1, n1 = l.p.length := ⟨_, rfl⟩
          obtain ⟨n2, hn2⟩ : ∃ n2, n2 = bp.length := ⟨_, rfl⟩
          simp only at hR HCM HZ0 HZ2 hb0
          rw [← hn1] at HCM HX2
          rw [← hn2] at HCM HZ2
          obtain ⟨S2, hS2⟩ : ∃ S2, S2 = skP l ⟨b0, bd, bp⟩ := ⟨_, rfl⟩
          rw [← hS2] at HCM hR
          clear hA hcb hx hy hv hG hn30 hmk hmn hkl hl1 hle hg hdl hdb hle1 hle2 x0 x1 x2 z0 z1 z2 hlb hjm hb hn1 hn2 hS2 hr hd hq
          go_enter Try.func28, Try.ntmps28
          go_wp2_with fail
          refine HCB.out.mono ?_
          rintro e w3 ⟨rfl, hb3⟩
          have HB3 := dhid hb3
          have x0 := (hb3.cell (p := ⟨g, q, none⟩) HGL.out).trans HX0.out
          have z0 := (hb3.cell (p := ⟨g, r, none⟩) HGL.out).trans HZ0.out
          clear hb3 HCB
          go_wp2_with fail
          refine (HIY.out _ _ _ _ hin.1 hin.2).mono ?_
          rintro e w1 ⟨rfl, hw1⟩
          subst w1
          clear hin HIN HIY
          obtain ⟨S, hSS⟩ : ∃ S : World → Prop, S = fun w' => Below w.heap.size w w' := ⟨_, rfl⟩
          have HSC : Hid (∀ a b, S a → Below a.heap.size a b → S b) := fun a b h1 h2 => by
            rw [hSS] at h1 ⊢
            exact dblow h1 h2 h1.size
          have hSd : S (World.drew w3) := by rw [hSS]; exact HB3.out.drew
          have HFX : Hid (∀ w', S w' → w'.cell? ⟨g, q + 2, none⟩ = some (.slice a1 n1 c1)) := fun w' hw' => by rw [hSS] at hw'; exact (hw'.cell (p := ⟨g, q + 2, none⟩) HGL.out).trans HX2.out
          have HFZ : Hid (∀ w', S w' → w'.cell? ⟨g, r + 2, none⟩ = some (.slice a2 n2 c2)) := fun w' hw' => by rw [hSS] at hw'; exact (hw'.cell (p := ⟨g, r + 2, none⟩) HGL.out).trans HZ2.out
          have HSB : Hid (∀ w', S w' → Below w.heap.size w w') := fun w' hw' => by rw [hSS] at hw'; exact hw'
          clear hSS
          go_wp2_with fail
          refine wp_region_held (S := S) (by kernel_rfl) ?_
          change wpAnyH _ _ _ _ _ _ _ _ (World.drew _)
          refine wpAnyH_take (i := 0) (v := .slice (some ⟨g, 0, none⟩) n c) rfl (by kernel_rfl) (by kernel_rfl) (by kernel_rfl) (fun _ _ _ h => h) (Or.inl ⟨by rfl, by intro w' hS'; go_simp <;> (first | omega | (rw [IntKind.wrap_i64]; omega) | (rw [IntKind.wrap_u64]; omega) | (rw [IntKind.wrap_u32]; omega) | (rw [Int.tmod_eq_emod_of_nonneg (by omega)]))⟩) hSd ?_
          (try simp only [List.getElem_toArray, List.getElem_cons_succ, List.getElem_cons_zero, Act.put, List.setIfInBounds_toArray, List.set_cons_zero, List.set_cons_succ])
          refine wpAnyH_take (i := 1) (v := .int .i64 (j : Int)) rfl (by kernel_rfl) (by kernel_rfl) (by kernel_rfl) (fun _ _ _ h => h) (Or.inl ⟨by rfl, by intro w' hS'; go_simp <;> (first | omega | (rw [IntKind.wrap_i64]; omega) | (rw [IntKind.wrap_u64]; omega) | (rw [IntKind.wrap_u32]; omega) | (rw [Int.tmod_eq_emod_of_nonneg (by omega)]))⟩) hSd ?_
          (try simp only [List.getElem_toArray, List.getElem_cons_succ, List.getElem_cons_zero, Act.put, List.setIfInBounds_toArray, List.set_cons_zero, List.set_cons_succ])
          refine wpAnyH_take (i := 2) (v := .pointer (some ⟨g, r, none⟩)) rfl (by kernel_rfl) (by kernel_rfl) (by kernel_rfl) (fun _ _ _ h => h) (Or.inl ⟨by rfl, by intro w' hS'; go_simp <;> (first | omega | (rw [IntKind.wrap_i64]; omega) | (rw [IntKind.wrap_u64]; omega) | (rw [IntKind.wrap_u32]; omega) | (rw [Int.tmod_eq_emod_of_nonneg (by omega)]))⟩) hSd ?_
          (try simp only [List.getElem_toArray, List.getElem_cons_succ, List.getElem_cons_zero, Act.put, List.setIfInBounds_toArray, List.set_cons_zero, List.set_cons_succ])
          refine wpAnyH_take (i := 3) (v := .pointer (some ⟨g, r + 2, none⟩)) rfl (by kernel_rfl) (by kernel_rfl) (by kernel_rfl) (fun _ _ _ h => h) (Or.inl ⟨by rfl, by intro w' hS'; go_simp <;> (first | omega | (rw [IntKind.wrap_i64]; omega) | (rw [IntKind.wrap_u64]; omega) | (rw [IntKind.wrap_u32]; omega) | (rw [Int.tmod_eq_emod_of_nonneg (by omega)]))⟩) hSd ?_
          (try simp only [List.getElem_toArray, List.getElem_cons_succ, List.getElem_cons_zero, Act.put, List.setIfInBounds_toArray, List.set_cons_zero, List.set_cons_succ])
          refine wpAnyH_take (i := 4) (v := .slice a2 n2 c2) rfl (by kernel_rfl) (by kernel_rfl) (by kernel_rfl) (fun _ _ _ h => h) (Or.inl ⟨by rfl, by intro w' hS'; have hxx := HFZ.out w' hS'; go_simp <;> (first | omega | (rw [IntKind.wrap_i64]; omega) | (rw [IntKind.wrap_u64]; omega) | (rw [IntKind.wrap_u32]; omega) | (rw [Int.tmod_eq_emod_of_nonneg (by omega)]))⟩) hSd ?_
          (try simp only [List.getElem_toArray, List.getElem_cons_succ, List.getElem_cons_zero, Act.put, List.setIfInBounds_toArray, List.set_cons_zero, List.set_cons_succ])
          refine wpAnyH_take (i := 5) (v := .slice (some ⟨g, 0, none⟩) n c) rfl (by kernel_rfl) (by kernel_rfl) (by kernel_rfl) (fun _ _ _ h => h) (Or.inl ⟨by rfl, by intro w' hS'; go_simp <;> (first | omega | (rw [IntKind.wrap_i64]; omega) | (rw [IntKind.wrap_u64]; omega) | (rw [IntKind.wrap_u32]; omega) | (rw [Int.tmod_eq_emod_of_nonneg (by omega)]))⟩) hSd ?_
          (try simp only [List.getElem_toArray, List.getElem_cons_succ, List.getElem_cons_zero, Act.put, List.setIfInBounds_toArray, List.set_cons_zero, List.set_cons_succ])
          refine wpAnyH_take (i := 6) (v := .int .i64 (m : Int)) rfl (by kernel_rfl) (by kernel_rfl) (by kernel_rfl) (fun _ _ _ h => h) (Or.inl ⟨by rfl, by intro w' hS'; go_simp <;> (first | omega | (rw [IntKind.wrap_i64]; omega) | (rw [IntKind.wrap_u64]; omega) | (rw [IntKind.wrap_u32]; omega) | (rw [Int.tmod_eq_emod_of_nonneg (by omega)]))⟩) hSd ?_
          (try simp only [List.getElem_toArray, List.getElem_cons_succ, List.getElem_cons_zero, Act.put, List.setIfInBounds_toArray, List.set_cons_zero, List.set_cons_succ])
          refine wpAnyH_take (i := 7) (v := .pointer (some ⟨g, q, none⟩)) rfl (by kernel_rfl) (by kernel_rfl) (by kernel_rfl) (fun _ _ _ h => h) (Or.inl ⟨by rfl, by intro w' hS'; go_simp <;> (first | omega | (rw [IntKind.wrap_i64]; omega) | (rw [IntKind.wrap_u64]; omega) | (rw [IntKind.wrap_u32]; omega) | (rw [Int.tmod_eq_emod_of_nonneg (by omega)]))⟩) hSd ?_
          (try simp only [List.getElem_toArray, List.getElem_cons_succ, List.getElem_cons_zero, Act.put, List.setIfInBounds_toArray, List.set_cons_zero, List.set_cons_succ])
          refine wpAnyH_take (i := 8) (v := .pointer (some ⟨g, q + 2, none⟩)) rfl (by kernel_rfl) (by kernel_rfl) (by kernel_rfl) (fun _ _ _ h => h) (Or.inl ⟨by rfl, by intro w' hS'; go_simp <;> (first | omega | (rw [IntKind.wrap_i64]; omega) | (rw [IntKind.wrap_u64]; omega) | (rw [IntKind.wrap_u32]; omega) | (rw [Int.tmod_eq_emod_of_nonneg (by omega)]))⟩) hSd ?_
          (try simp only [List.getElem_toArray, List.getElem_cons_succ, List.getElem_cons_zero, Act.put, List.setIfInBounds_toArray, List.set_cons_zero, List.set_cons_succ])
          refine wpAnyH_take (i := 9) (v := .slice a1 n1 c1) rfl (by kernel_rfl) (by kernel_rfl) (by kernel_rfl) (fun _ _ _ h => h) (Or.inl ⟨by rfl, by intro w' hS'; have hxx := HFX.out w' hS'; go_simp <;> (first | omega | (rw [IntKind.wrap_i64]; omega) | (rw [IntKind.wrap_u64]; omega) | (rw [IntKind.wrap_u32]; omega) | (rw [Int.tmod_eq_emod_of_nonneg (by omega)]))⟩) hSd ?_
          (try simp only [List.getElem_toArray, List.getElem_cons_succ, List.getElem_cons_zero, Act.put, List.setIfInBounds_toArray, List.set_cons_zero, List.set_cons_succ])
          refine held_stepS (i := 10) (by kernel_rfl) rfl (by rfl) ?_
          go_simp
          refine (HCM.out _ (HSB.out _ hSd)).mono ?_
          rintro e w6 ⟨⟨pw, rfl, hpo⟩, hb6⟩
          have hS6 : S w6 := HSC.out _ _ hSd hb6
          have HPO := dhid (pcs_own hpo)
          have HB6 := dhid (HSB.out _ hS6)
          have HSZ : Hid (w.heap.size ≤ (World.drew w3).heap.size ∧ (World.drew w3).heap.size ≤ w6.heap.size) := ⟨(HSB.out _ hSd).size, hb6.size⟩
          obtain ⟨pa, pc, rfl⟩ := own3_slice hpo
          clear hb6 hpo x0 z0
          refine ⟨hS6, ?_⟩
          (try simp only [List.getElem_toArray, List.getElem_cons_succ, List.getElem_cons_zero, Act.put, List.setIfInBounds_toArray, List.set_cons_zero, List.set_cons_succ])
          cases S2 with
          | none =>
            have HR := dhid hR
            clear hR
            simp only [Option.isSome] at *
            refine wpAnyH_take (i := 11) (v := .tuple #[.slice pa 0 pc, .bool false]) rfl (by kernel_rfl) (by kernel_rfl) (by kernel_rfl) (fun _ _ _ h => h) (Or.inl ⟨by rfl, by intro w' hS'; go_simp <;> (first | omega | (rw [IntKind.wrap_i64]; omega) | (rw [IntKind.wrap_u64]; omega) | (rw [IntKind.wrap_u32]; omega) | (rw [Int.tmod_eq_emod_of_nonneg (by omega)]) | rfl)⟩) hS6 ?_
            (try simp only [List.getElem_toArray, List.getElem_cons_succ, List.getElem_cons_zero, Act.put, List.setIfInBounds_toArray, List.set_cons_zero, List.set_cons_succ])
            refine wpAnyH_take (i := 12) (v := .slice pa 0 pc) rfl (by kernel_rfl) (by kernel_rfl) (by kernel_rfl) (fun _ _ _ h => h) (Or.inl ⟨by rfl, by intro w' hS'; go_simp <;> (first | omega | (rw [IntKind.wrap_i64]; omega) | (rw [IntKind.wrap_u64]; omega) | (rw [IntKind.wrap_u32]; omega) | (rw [Int.tmod_eq_emod_of_nonneg (by omega)]) | rfl)⟩) hS6 ?_
            (try simp only [List.getElem_toArray, List.getElem_cons_succ, List.getElem_cons_zero, Act.put, List.setIfInBounds_toArray, List.set_cons_zero, List.set_cons_succ])
            refine wpAnyH_take (i := 13) (v := .bool false) rfl (by kernel_rfl) (by kernel_rfl) (by kernel_rfl) (fun _ _ _ h => h) (Or.inl ⟨by rfl, by intro w' hS'; go_simp <;> (first | omega | (rw [IntKind.wrap_i64]; omega) | (rw [IntKind.wrap_u64]; omega) | (rw [IntKind.wrap_u32]; omega) | (rw [Int.tmod_eq_emod_of_nonneg (by omega)]) | rfl)⟩) hS6 ?_
            (try simp only [List.getElem_toArray, List.getElem_cons_succ, List.getElem_cons_zero, Act.put, List.setIfInBounds_toArray, List.set_cons_zero, List.set_cons_succ])
            refine wpAnyH_take (i := 14) (v := .slice pa 0 pc) rfl (by kernel_rfl) (by kernel_rfl) (by kernel_rfl) (fun _ _ _ h => h) (Or.inl ⟨by rfl, by intro w' hS'; go_simp <;> (first | omega | (rw [IntKind.wrap_i64]; omega) | (rw [IntKind.wrap_u64]; omega) | (rw [IntKind.wrap_u32]; omega) | (rw [Int.tmod_eq_emod_of_nonneg (by omega)]) | rfl)⟩) hS6 ?_
            (try simp only [List.getElem_toArray, List.getElem_cons_succ, List.getElem_cons_zero, Act.put, List.setIfInBounds_toArray, List.set_cons_zero, List.set_cons_succ])
            refine wpAnyH_take (i := 15) (v := .bool false) rfl (by kernel_rfl) (by kernel_rfl) (by kernel_rfl) (fun _ _ _ h => h) (Or.inl ⟨by rfl, by intro w' hS'; go_simp <;> (first | omega | (rw [IntKind.wrap_i64]; omega) | (rw [IntKind.wrap_u64]; omega) | (rw [IntKind.wrap_u32]; omega) | (rw [Int.tmod_eq_emod_of_nonneg (by omega)]) | rfl)⟩) hS6 ?_
            (try simp only [List.getElem_toArray, List.getElem_cons_succ, List.getElem_cons_zero, Act.put, List.setIfInBounds_toArray, List.set_cons_zero, List.set_cons_succ])
            refine wpAnyH_done (by kernel_rfl) ?_ _
            clear hS6 hSd
            go_wp2_with fail
            go_ret2
            exact LkPost.no HR.out HB6.out
          | some P =>
            have HR : Hid (skR L (m : Int) = some (L.set m ⟨b0, ⟨#[]⟩, P⟩)) := hR
            have HPO2 : Hid (Own w6 (World.drew w3).heap.size (pcsD P) (.slice pa P.length pc)) := HPO.out
            clear hR HPO HCM
            simp only [Option.isSome] at *
            refine wpAnyH_take (i := 11) (v := .tuple #[.slice pa P.length pc, .bool true]) rfl (by kernel_rfl) (by kernel_rfl) (by kernel_rfl) (fun _ _ _ h => h) (Or.inl ⟨by rfl, by intro w' hS'; go_simp <;> (first | omega | (rw [IntKind.wrap_i64]; omega) | (rw [IntKind.wrap_u64]; omega) | (rw [IntKind.wrap_u32]; omega) | (rw [Int.tmod_eq_emod_of_nonneg (by omega)]) | rfl)⟩) hS6 ?_
            (try simp only [List.getElem_toArray, List.getElem_cons_succ, List.getElem_cons_zero, Act.put, List.setIfInBounds_toArray, List.set_cons_zero, List.set_cons_succ])
            refine wpAnyH_take (i := 12) (v := .slice pa P.length pc) rfl (by kernel_rfl) (by kernel_rfl) (by kernel_rfl) (fun _ _ _ h => h) (Or.inl ⟨by rfl, by intro w' hS'; go_simp <;> (first | omega | (rw [IntKind.wrap_i64]; omega) | (rw [IntKind.wrap_u64]; omega) | (rw [IntKind.wrap_u32]; omega) | (rw [Int.tmod_eq_emod_of_nonneg (by omega)]) | rfl)⟩) hS6 ?_
            (try simp only [List.getElem_toArray, List.getElem_cons_succ, List.getElem_cons_zero, Act.put, List.setIfInBounds_toArray, List.set_cons_zero, List.set_cons_succ])
            refine wpAnyH_take (i := 13) (v := .bool true) rfl (by kernel_rfl) (by kernel_rfl) (by kernel_rfl) (fun _ _ _ h => h) (Or.inl ⟨by rfl, by intro w' hS'; go_simp <;> (first | omega | (rw [IntKind.wrap_i64]; omega) | (rw [IntKind.wrap_u64]; omega) | (rw [IntKind.wrap_u32]; omega) | (rw [Int.tmod_eq_emod_of_nonneg (by omega)]) | rfl)⟩) hS6 ?_
            (try simp only [List.getElem_toArray, List.getElem_cons_succ, List.getElem_cons_zero, Act.put, List.setIfInBounds_toArray, List.set_cons_zero, List.set_cons_succ])
            refine wpAnyH_take (i := 14) (v := .slice pa P.length pc) rfl (by kernel_rfl) (by kernel_rfl) (by kernel_rfl) (fun _ _ _ h => h) (Or.inl ⟨by rfl, by intro w' hS'; go_simp <;> (first | omega | (rw [IntKind.wrap_i64]; omega) | (rw [IntKind.wrap_u64]; omega) | (rw [IntKind.wrap_u32]; omega) | (rw [Int.tmod_eq_emod_of_nonneg (by omega)]) | rfl)⟩) hS6 ?_
            (try simp only [List.getElem_toArray, List.getElem_cons_succ, List.getElem_cons_zero, Act.put, List.setIfInBounds_toArray, List.set_cons_zero, List.set_cons_succ])
            refine wpAnyH_take (i := 15) (v := .bool true) rfl (by kernel_rfl) (by kernel_rfl) (by kernel_rfl) (fun _ _ _ h => h) (Or.inl ⟨by rfl, by intro w' hS'; go_simp <;> (first | omega | (rw [IntKind.wrap_i64]; omega) | (rw [IntKind.wrap_u64]; omega) | (rw [IntKind.wrap_u32]; omega) | (rw [Int.tmod_eq_emod_of_nonneg (by omega)]) | rfl)⟩) hS6 ?_
            (try simp only [List.getElem_toArray, List.getElem_cons_succ, List.getElem_cons_zero, Act.put, List.setIfInBounds_toArray, List.set_cons_zero, List.set_cons_succ])
            refine wpAnyH_done (by kernel_rfl) ?_ _
            clear hS6 hSd
            go_wp2_with fail
            refine (HCP.out _ HB6.out).mono ?_
            rintro e w4 ⟨⟨v', us, rfl, hgl⟩, hb4⟩
            have hown := hgl.own (by omega) (by rw [fm_len lkDs_len, ← HN.out])
            have hown2 : Own w4 w6.heap.size (lksD L) v' := hown
            obtain ⟨a3, c3, rfl, hx⟩ := lks_own hown2
            obtain ⟨gg, cur, fb, rfl, hg1, hr, hs, hnd, hlb, hc⟩ := hx (by have := HML.out; omega)
            have HB4 := dhid (dblow HB6.out hb4 HB6.out.size)
            have z0 := (HB4.out.cell (p := ⟨g, r, none⟩) HGL.out).trans HZ0.out
            have hgne : gg ≠ g := by have := HGL.out; have := HSZ.out; omega
            have hsz6 := HSZ.out
            have hml := HML.out
            have hqs : q + 2 < cur.size := by have := HQ.out; omega
            have x0 : w4.cell? ⟨gg, q, none⟩ = some cur[q] := (cell_of_row w4 _ q _ _ _ hr).trans (Array.getElem?_eq_getElem (by omega))
            have x1 : w4.cell? ⟨gg, q + 1, none⟩ = some cur[q + 1] := (cell_of_row w4 _ (q + 1) _ _ _ hr).trans (Array.getElem?_eq_getElem (by omega))
            have x2 : w4.cell? ⟨gg, q + 2, none⟩ = some cur[q + 2] := (cell_of_row w4 _ (q + 2) _ _ _ hr).trans (Array.getElem?_eq_getElem (by omega))
            have y0 := frozen_of_row w4 _ q _ _ hr
            have y1 := frozen_of_row w4 _ (q + 1) _ _ hr
            have y2 := frozen_of_row w4 _ (q + 2) _ _ hr
            obtain ⟨bx, hx1, hx2, hx3⟩ := HPO2.out
            have hx1' := hx1.under hb4
            have hxlt := hx1.lt
            have HEND : Hid (Own (setW3 w4 gg q (.int .i64 b0) (.string ⟨#[]⟩) (.slice pa P.length pc)) w.heap.size (lksD (L.set m ⟨b0, ⟨#[]⟩, P⟩)) (.slice (some ⟨gg, 0, none⟩) L.length c3)) := by
              show Own _ _ _ _
              rw [HQ.out]
              exact lks_set (x := ⟨b0, ⟨#[]⟩, P⟩) hml (by omega) hr hs hnd (fun b hb => ⟨by have := (hlb b hb).1; omega, (hlb b hb).2⟩) hc hx1' hx2 (fun b hb => by have := hx3 b hb; omega) (fun hm => by have := hxlt gg hm; omega) (fun b hb hm => by have := hxlt b hb; have := (hlb b hm).1; omega)
            have HBE : Hid (Below w.heap.size w (setW3 w4 gg q (.int .i64 b0) (.string ⟨#[]⟩) (.slice pa P.length pc))) := setW3_below HB4.out (by omega) _ _ _ _
            generalize cur[q] = u0 at x0
            generalize cur[q + 1] = u1 at x1
            generalize cur[q + 2] = u2 at x2
            rw [← HN.out] at HEND ⊢
            clear hgl hb4 hown hown2 hx hr hs hnd hlb hc hqs HCP HB4 hg1 hx1 hx2 hx3 hx1' hxlt hsz6 hml
            go_wp2_with fail
            go_ret2
            exact LkPost.yes HR.out HEND.out HBE.out
    · have HR := dhid (skR_none (verOf_low hA (by rw [← HN.out]; exact hin)))
      have HINN := dhid hin
      clear hA hcb hin hx
      go_enter Try.func28, Try.ntmps28
      go_wp2_with fail
      refine HCB.out.mono ?_
      rintro e w3 ⟨rfl, hb3⟩
      have HB3 := dhid hb3
      clear hb3 HCB
      go_wp2_with fail
      refine (HIN.out _ _ _ _ HINN.out).mono ?_
      rintro e w1 ⟨rfl, hw1⟩
      subst w1
      go_wp2_with fail
      go_ret2
      exact LkPost.no HR.out HB3.out
end Go.Proofs.Ytpeddaljgmkomaa
