/-
  A version added: the code's.
-/
import Derived.Test.YtpeddaljgmkomaaPk23
import Derived.Test.YtpeddaljgmkomaaPk24
import Derived.Test.YtpeddaljgmkomaaDoC
import Derived.Test.YtpeddaljgmkomaaPk08
namespace Go.Proofs.Ytpeddaljgmkomaa
open Go.RowKit
open Go.Maps (Keyed)
set_option linter.unusedVariables false
set_option linter.unusedSimpArgs false
set_option maxRecDepth 100000 in
set_option maxHeartbeats 1000000 in
theorem sh_any (o s : ByteArray) (w : World) (ho : o.size ≤ 4000) (hs : s.size ≤ 4000) :
    Calls Try.prog 49 #[.string o, .string s] w fun e w' => (∃ v, e = .returned (.tuple #[v, .bool (shR o s).isSome]) ∧ Own w' w.heap.size (pcsD ((shR o s).getD [])) v) ∧ Below w.heap.size w w' := by
  have HD : Hid (Calls Try.prog 76 #[.string o, .string s] w fun e w' => DoPost w (doD o s) e w') := do_any o s w (by omega) (by omega)
  have hsI : (s.size : Int) ≤ 4000 := by omega
  cases hd : doD o s with
  | none =>
    have HR : Hid (shR o s = none) := by show shR o s = none; unfold shR; rw [hd]; rfl
    rw [hd] at HD
    clear hd
    go_enter Try.func49, Try.ntmps49
    go_wp2_with fail
    refine HD.out.mono ?_
    rintro e w3 ⟨⟨v, rfl, _⟩, hb3⟩
    have HB3 := dhid hb3
    clear hb3 HD
    show _
    go_wp2_with fail
    go_ret2
    rw [HR.out]
    exact ⟨⟨_, rfl, [], .nil _ _ _ _, List.nodup_nil, fun b hb => by cases hb⟩, HB3.out⟩
  | some P =>
    rw [hd] at HD
    obtain ⟨hl, hr, _⟩ := doD_good hd
    have HDT : Hid (∀ v w', PcArg w' v P.length (pcF P) → Calls Try.prog 57 #[v] w' fun e w2 => e = .returned (.string (dtV (pcF P) P.length)) ∧ Below w'.heap.size w' w2) := fun v w' h => dt_any v P.length (pcF P) w' (pcLe_of hr) h
    have htz := dtV_size (pcLe_of hr)
    have HD2 : Hid (Calls Try.prog 76 #[.string o, .string s] w fun e w' => (∃ v, e = .returned (.tuple #[v, .bool true]) ∧ w'.ownsRow w.heap.size 89 3 v P.length (pcC P)) ∧ Below w.heap.size w w') := HD.out
    by_cases hlt : (dtV (pcF P) P.length).size < s.size
    · have HR : Hid (shR o s = some P) := by show shR o s = some P; unfold shR; rw [hd]; exact if_pos hlt
      have hltI : ¬ (s.size : Int) ≤ ((dtV (pcF P) P.length).size : Int) := by omega
      generalize dtV (pcF P) P.length = X at HDT hltI htz
      clear hd hlt hl hr HD
      go_enter Try.func49, Try.ntmps49
      go_wp2_with fail
      refine HD2.out.mono ?_
      rintro e w3 ⟨⟨v, rfl, ho3⟩, hb3⟩
      have HB3 := dhid hb3
      have HA3 := dhid (own3_arg ho3)
      have HO3 := dhid (pcs_own ho3)
      clear hb3 HD2 ho3
      go_wp2_with fail
      refine (HDT.out _ _ HA3.out).mono ?_
      rintro e w4 ⟨rfl, hb4⟩
      have HB4 := dhid (dblow HB3.out hb4 HB3.out.size)
      have HO4 := dhid (HO3.out.under hb4)
      clear hb4
      go_wp2_with fail
      go_ret2
      rw [HR.out]
      exact ⟨⟨_, rfl, HO4.out⟩, HB4.out⟩
    · have HR : Hid (shR o s = none) := by show shR o s = none; unfold shR; rw [hd]; exact if_neg hlt
      have hltI : (s.size : Int) ≤ ((dtV (pcF P) P.length).size : Int) := by omega
      generalize dtV (pcF P) P.length = X at HDT hltI htz
      clear hd hlt hl hr HD
      go_enter Try.func49, Try.ntmps49
      go_wp2_with fail
      refine HD2.out.mono ?_
      rintro e w3 ⟨⟨v, rfl, ho3⟩, hb3⟩
      have HB3 := dhid hb3
      have HA3 := dhid (own3_arg ho3)
      clear hb3 HD2 ho3
      go_wp2_with fail
      refine (HDT.out _ _ HA3.out).mono ?_
      rintro e w4 ⟨rfl, hb4⟩
      have HB4 := dhid (dblow HB3.out hb4 HB3.out.size)
      clear hb4
      go_wp2_with fail
      go_ret2
      rw [HR.out]
      exact ⟨⟨_, rfl, [], .nil _ _ _ _, List.nodup_nil, fun b hb => by cases hb⟩, HB4.out⟩
set_option maxRecDepth 100000 in
set_option maxHeartbeats 4000000 in
theorem add_any (v : Value) (L : List LkI) (bs : List Nat) (s : ByteArray) (k : Int) (w : World) (hs : s.size ≤ 1048576) (hk : (Lit.int .i64 k).wf = true) (hl : LkLe L) (h : Hd w (lksD L) v bs) :
    Calls Try.prog 23 #[v, .string s, .int .i64 k] w fun e w' => LkPost w (avR L s k) e w' := by
  obtain ⟨a, c, rfl, _⟩ := lks_at h
  have HVS : Hid (Calls Try.prog 40 #[.slice a L.length c] w fun e w2 => VsPost w (vAll L) e w2) := vs_any _ L bs w hl h
  have hsI : (s.size : Int) ≤ 1048576 := by omega
  have HLEN := hl.len
  have HH := dhid h
  have hkey := Maps.keyOf_int_mk Try.underlying2 hk
  have HKEY := dhid hkey
  obtain ⟨i0, hi0, hz0, hz1, hz2⟩ := info_parts Try.infLk
  obtain ⟨n, hn⟩ : ∃ n, n = L.length := ⟨_, rfl⟩
  rw [← hn] at HVS HLEN HH ⊢
  have HN := dhid hn
  clear h hn hkey
  cases hA : vAll L with
  | none =>
    have HR := dhid (avR_none (s := s) (k := k) hA)
    rw [hA] at HVS
    clear hA
    go_enter Try.func23, Try.ntmps23
    go_wp2_with fail
    refine HVS.out.mono ?_
    rintro e w3 ⟨hpost, hb3⟩
    have hpost2 : e = .returned (.tuple #[.map none, .bool false]) := hpost
    subst hpost2
    have HB3 := dhid hb3
    clear hb3 hpost HVS
    go_wp2_with fail
    go_ret2
    exact LkPost.no HR.out HB3.out
  | some V =>
    have HVS2 : Hid (Calls Try.prog 40 #[.slice a n c] w fun e w2 => (e = .returned (.tuple #[.map (some w.heap.size), .bool true]) ∧ MapF w2 Try.prog 2 w.heap.size V.length (vMap V)) ∧ Below w.heap.size w w2) := by
      rw [hA] at HVS; exact HVS
    have hG := lkG_of hl hA
    have hn30 := (vAll_some hA).1
    have hVF := (vAll_some hA).2.1
    have hVl := (vAll_some hA).2.2
    rw [← HN.out] at hn30
    have HCP : Hid (∀ w', Below w.heap.size w w' → Calls Try.prog 48 #[.slice a n c] w' fun e w2 => (∃ v us, e = .returned v ∧ Gl w2 w'.heap.size 54 3 isPc v n us (L.flatMap lkDs)) ∧ Below w'.heap.size w' w2) := fun w' hb => by
      have h := cpLk_gl _ L bs w' (by rw [← HN.out]; exact hn30) hG (HH.out.under hb)
      rw [← HN.out] at h
      exact h
    clear HVS HLEN
    by_cases hn29 : n < 30
    · have hnb : ((n : Int) == 30) = false := beq_eq_false_iff_ne.2 (by omega)
      by_cases hs4 : s.size ≤ 4000
      · have hs4I : ¬ (4000 : Int) < (s.size : Int) := by omega
        have HCL : Hid (∀ w, Calls Try.prog 50 #[.string s] w fun e w' => e = .returned (.string s) ∧ Below w.heap.size w w') := fun w => clone_any s w (by omega)
        cases hf : vMap V (.int .i64 k) with
        | none =>
          by_cases hk1 : k = -1
          · subst hk1
            have HR : Hid (avR L s (-1) = some (L ++ [⟨-1, s, []⟩])) := by
              show avR L s (-1) = _
              rw [avR_yes hA ⟨by rw [← HN.out]; exact hn29, hs4, by omega, by omega⟩, avL_whole (by omega)]
            have HF := dhid hf
            clear hA hG hVF hVl hf
            go_enter Try.func23, Try.ntmps23
            go_wp2_with fail
            refine HVS2.out.mono ?_
            rintro e w3 ⟨⟨rfl, hm⟩, hb3⟩
            have hrun := (hm.look_no keyI Try.underlying56 (zeroVer w3) HKEY.out HF.out).1
            have HB3 := dhid hb3
            have HB4 := dhid (hb3.alloc hb3.size (.cells #[.string ⟨#[]⟩, .int .i64 0] 62))
            clear hb3 HVS2 hm
            go_wp2_with fail
            refine (HCP.out _ HB4.out).mono ?_
            rintro e w5 ⟨⟨v5, us, rfl, hgl⟩, hb5⟩
            have HGL := dhid hgl
            have HB5 := dhid (dblow HB4.out hb5 HB4.out.size)
            have HSZ : Hid (w.heap.size ≤ (w3.alloc (.cells #[.string ⟨#[]⟩, .int .i64 0] 62)).heap.size ∧ (w3.alloc (.cells #[.string ⟨#[]⟩, .int .i64 0] 62)).heap.size ≤ w5.heap.size) := ⟨HB4.out.size, hb5.size⟩
            clear hgl hb5 hrun HCP
            go_wp2_with fail
            refine (HCL.out _).mono ?_
            rintro e w6 ⟨rfl, hb6⟩
            have HW6 := dhid hb6
            have HB6 := dhid (dblow HB5.out hb6 HB5.out.size)
            clear hb6 HCL
            go_wp2_with (at_builtin; (refine wpList_append_lk rfl _ _ 25 rfl _ i0 _ Try.underlying25 hi0 hz0 hz1 hz2 rfl _ n us (L.flatMap lkDs) rfl HGL.out (by omega) HSZ.out.2 HW6.out (-1) s [] _ _ _ ⟨[], .nil _ _ _ _, List.nodup_nil, fun b hb => by cases hb⟩ rfl ?_; intro v' us' w7 hgl7 hbl7; refine hold_goalF ?_))
            have HO7 := dhid ((gl_lks hgl7 HN.out).base HSZ.out.1)
            have HB7 := dhid (hbl7 _ _ HB6.out HSZ.out.1)
            clear hgl7 hbl7
            unfold Hid
            go_wp2_with fail
            go_ret2
            exact LkPost.yes HR.out HO7.out HB7.out
          · have hkb : (k != -1) = true := by simp [hk1]
            have hVk : ¬ (-1 ≤ k ∧ k ≤ (L.length : Int) - 1) := fun c => by
              have h0 : 0 ≤ k := by omega
              unfold vMap at hf
              simp only [if_pos h0] at hf
              have hlt : k.toNat < V.length := by omega
              rw [List.getElem?_eq_getElem hlt] at hf
              cases hf
            have HR := dhid (avR_no (L := L) (s := s) (k := k) fun c => hVk c.2.2)
            have HF := dhid hf
            clear hA hG hVF hVl hf hVk hk1 HCP HCL
            go_enter Try.func23, Try.ntmps23
            go_wp2_with fail
            refine HVS2.out.mono ?_
            rintro e w3 ⟨⟨rfl, hm⟩, hb3⟩
            have hrun := (hm.look_no keyI Try.underlying56 (zeroVer w3) HKEY.out HF.out).1
            have HB4 := dhid (hb3.alloc hb3.size (.cells #[.string ⟨#[]⟩, .int .i64 0] 62))
            clear hb3 HVS2 hm
            go_wp2_with fail
            go_ret2
            exact LkPost.no HR.out HB4.out
        | some ov =>
          have hf2 := hf
          obtain ⟨h0, o, ho, rfl⟩ : 0 ≤ k ∧ ∃ o, V[k.toNat]? = some o ∧ ov = verV o := by
            unfold vMap at hf
            by_cases h0 : 0 ≤ k
            · simp only [if_pos h0] at hf
              cases hx : V[k.toNat]? with
              | none => rw [hx] at hf; cases hf
              | some o => rw [hx] at hf; injection hf with hf; exact ⟨h0, o, rfl, hf.symm⟩
            · simp only [if_neg h0] at hf; cases hf
          have hkl := (List.getElem?_eq_some_iff.1 ho).1
          have hcond : L.length < 30 ∧ s.size ≤ 4000 ∧ -1 ≤ k ∧ k ≤ (L.length : Int) - 1 := ⟨by rw [← HN.out]; exact hn29, hs4, by omega, by omega⟩
          have hob := vF_bd hVF o (List.mem_of_getElem? ho)
          have HF := dhid hf2
          have HSH : Hid (∀ w, Calls Try.prog 49 #[.string o.t, .string s] w fun e w' => (∃ v, e = .returned (.tuple #[v, .bool (shR o.t s).isSome]) ∧ Own w' w.heap.size (pcsD ((shR o.t s).getD [])) v) ∧ Below w.heap.size w w') := fun w => sh_any o.t s w hob.1 hs4
          by_cases hd6 : o.d < 6
          · cases hr : shR o.t s with
            | some P =>
              have HR : Hid (avR L s k = some (L ++ [⟨k, ⟨#[]⟩, P⟩])) := by
                show avR L s k = _
                rw [avR_yes hA hcond, avL_delta h0 ho hd6 hr]
              rw [hr] at HSH
              have HSH2 : Hid (∀ w, Calls Try.prog 49 #[.string o.t, .string s] w fun e w' => (∃ v, e = .returned (.tuple #[v, .bool true]) ∧ Own w' w.heap.size (pcsD P) v) ∧ Below w.heap.size w w') := HSH.out
              obtain ⟨ot, od⟩ := o
              unfold verV at HF
              simp only at HF hd6 HSH2
              clear hA hG hVF hVl hf hf2 ho hr hkl hcond hob HSH h0 HCL
              go_enter Try.func23, Try.ntmps23
              go_wp2_with fail
              refine HVS2.out.mono ?_
              rintro e w3 ⟨⟨rfl, hm⟩, hb3⟩
              have hrun := (hm.look_yes keyI Try.underlying56 (zeroVer w3) HKEY.out HF.out).1
              have HB3 := dhid hb3
              have HB4 := dhid (hb3.alloc hb3.size (.cells #[.string ot, .int .i64 od] 62))
              clear hb3 HVS2 hm
              go_wp2_with fail
              refine (HCP.out _ HB4.out).mono ?_
              rintro e w5 ⟨⟨v5, us, rfl, hgl⟩, hb5⟩
              have HGL := dhid hgl
              have HB5 := dhid (dblow HB4.out hb5 HB4.out.size)
              have HSZ : Hid (w.heap.size ≤ (w3.alloc (.cells #[.string ot, .int .i64 od] 62)).heap.size ∧ (w3.alloc (.cells #[.string ot, .int .i64 od] 62)).heap.size ≤ w5.heap.size) := ⟨HB4.out.size, hb5.size⟩
              have r5 : w5.heap[w3.heap.size]? = some (.cells #[.string ot, .int .i64 od] 62 (0, 0)) := (hb5.block _ (by simp)).trans (heap_alloc_new w3 _)
              have y0 : w5.cell? ⟨w3.heap.size, 0, none⟩ = some (.string ot) := cell_of_row _ _ 0 _ _ _ r5
              have y1 : w5.cell? ⟨w3.heap.size, 1, none⟩ = some (.int .i64 od) := cell_of_row _ _ 1 _ _ _ r5
              clear hgl hb5 hrun HCP r5
              go_wp2_with fail
              refine (HSH2.out _).mono ?_
              rintro e w6 ⟨⟨pw, rfl, hpo⟩, hb6⟩
              have HW6 := dhid hb6
              have HB6 := dhid (dblow HB5.out hb6 HB5.out.size)
              have HPO := dhid hpo
              obtain ⟨pa, pn, pc, rfl, _⟩ := hpo.rd.slice
              clear hb6 hpo HSH2 y0 y1
              go_wp2_with (at_builtin; (refine wpList_append_lk rfl _ _ 25 rfl _ i0 _ Try.underlying25 hi0 hz0 hz1 hz2 rfl _ n us (L.flatMap lkDs) rfl HGL.out (by omega) HSZ.out.2 HW6.out k ⟨#[]⟩ P _ _ _ HPO.out rfl ?_; intro v' us' w7 hgl7 hbl7; refine hold_goalF ?_))
              have HO7 := dhid ((gl_lks hgl7 HN.out).base HSZ.out.1)
              have HB7 := dhid (hbl7 _ _ HB6.out HSZ.out.1)
              clear hgl7 hbl7
              unfold Hid
              go_wp2_with fail
              go_ret2
              exact LkPost.yes HR.out HO7.out HB7.out
            | none =>
              have HR : Hid (avR L s k = some (L ++ [⟨-1, s, []⟩])) := by
                show avR L s k = _
                rw [avR_yes hA hcond, avL_long h0 ho hr]
              rw [hr] at HSH
              have HSH2 : Hid (∀ w, Calls Try.prog 49 #[.string o.t, .string s] w fun e w' => (∃ v, e = .returned (.tuple #[v, .bool false]) ∧ Own w' w.heap.size (pcsD []) v) ∧ Below w.heap.size w w') := HSH.out
              obtain ⟨ot, od⟩ := o
              unfold verV at HF
              simp only at HF hd6 HSH2
              clear hA hG hVF hVl hf hf2 ho hr hkl hcond hob HSH h0
              go_enter Try.func23, Try.ntmps23
              go_wp2_with fail
              refine HVS2.out.mono ?_
              rintro e w3 ⟨⟨rfl, hm⟩, hb3⟩
              have hrun := (hm.look_yes keyI Try.underlying56 (zeroVer w3) HKEY.out HF.out).1
              have HB3 := dhid hb3
              have HB4 := dhid (hb3.alloc hb3.size (.cells #[.string ot, .int .i64 od] 62))
              clear hb3 HVS2 hm
              go_wp2_with fail
              refine (HCP.out _ HB4.out).mono ?_
              rintro e w5 ⟨⟨v5, us, rfl, hgl⟩, hb5⟩
              have HGL := dhid hgl
              have HB5 := dhid (dblow HB4.out hb5 HB4.out.size)
              have HSZ : Hid (w.heap.size ≤ (w3.alloc (.cells #[.string ot, .int .i64 od] 62)).heap.size ∧ (w3.alloc (.cells #[.string ot, .int .i64 od] 62)).heap.size ≤ w5.heap.size) := ⟨HB4.out.size, hb5.size⟩
              have r5 : w5.heap[w3.heap.size]? = some (.cells #[.string ot, .int .i64 od] 62 (0, 0)) := (hb5.block _ (by simp)).trans (heap_alloc_new w3 _)
              have y0 : w5.cell? ⟨w3.heap.size, 0, none⟩ = some (.string ot) := cell_of_row _ _ 0 _ _ _ r5
              have y1 : w5.cell? ⟨w3.heap.size, 1, none⟩ = some (.int .i64 od) := cell_of_row _ _ 1 _ _ _ r5
              clear hgl hb5 hrun HCP r5
              go_wp2_with fail
              refine (HSH2.out _).mono ?_
              rintro e w6 ⟨⟨pw, rfl, hpo⟩, hb6⟩
              have HW6 := dhid hb6
              have HB6 := dhid (dblow HB5.out hb6 HB5.out.size)
              clear hb6 hpo HSH2 y0 y1
              go_wp2_with fail
              refine (HCL.out _).mono ?_
              rintro e w8 ⟨rfl, hb8⟩
              have HW8 := dhid (dblow HW6.out hb8 HW6.out.size)
              have HB8 := dhid (dblow HB6.out hb8 HB6.out.size)
              clear hb8 HCL HB6 HW6
              go_wp2_with (at_builtin; (refine wpList_append_lk rfl _ _ 25 rfl _ i0 _ Try.underlying25 hi0 hz0 hz1 hz2 rfl _ n us (L.flatMap lkDs) rfl HGL.out (by omega) HSZ.out.2 HW8.out (-1) s [] _ _ _ ⟨[], .nil _ _ _ _, List.nodup_nil, fun b hb => by cases hb⟩ rfl ?_; intro v' us' w7 hgl7 hbl7; refine hold_goalF ?_))
              have HO7 := dhid ((gl_lks hgl7 HN.out).base HSZ.out.1)
              have HB7 := dhid (hbl7 _ _ HB8.out HSZ.out.1)
              clear hgl7 hbl7
              unfold Hid
              go_wp2_with fail
              go_ret2
              exact LkPost.yes HR.out HO7.out HB7.out
          · have HR : Hid (avR L s k = some (L ++ [⟨-1, s, []⟩])) := by
              show avR L s k = _
              rw [avR_yes hA hcond, avL_deep h0 ho hd6]
            obtain ⟨ot, od⟩ := o
            unfold verV at HF
            simp only at HF hd6
            clear hA hG hVF hVl hf hf2 ho hkl hcond hob HSH h0
            go_enter Try.func23, Try.ntmps23
            go_wp2_with fail
            refine HVS2.out.mono ?_
            rintro e w3 ⟨⟨rfl, hm⟩, hb3⟩
            have hrun := (hm.look_yes keyI Try.underlying56 (zeroVer w3) HKEY.out HF.out).1
            have HB3 := dhid hb3
            have HB4 := dhid (hb3.alloc hb3.size (.cells #[.string ot, .int .i64 od] 62))
            clear hb3 HVS2 hm
            go_wp2_with fail
            refine (HCP.out _ HB4.out).mono ?_
            rintro e w5 ⟨⟨v5, us, rfl, hgl⟩, hb5⟩
            have HGL := dhid hgl
            have HB5 := dhid (dblow HB4.out hb5 HB4.out.size)
            have HSZ : Hid (w.heap.size ≤ (w3.alloc (.cells #[.string ot, .int .i64 od] 62)).heap.size ∧ (w3.alloc (.cells #[.string ot, .int .i64 od] 62)).heap.size ≤ w5.heap.size) := ⟨HB4.out.size, hb5.size⟩
            have r5 : w5.heap[w3.heap.size]? = some (.cells #[.string ot, .int .i64 od] 62 (0, 0)) := (hb5.block _ (by simp)).trans (heap_alloc_new w3 _)
            have y1 : w5.cell? ⟨w3.heap.size, 1, none⟩ = some (.int .i64 od) := cell_of_row _ _ 1 _ _ _ r5
            clear hgl hb5 hrun HCP r5
            go_wp2_with fail
            refine (HCL.out _).mono ?_
            rintro e w6 ⟨rfl, hb6⟩
            have HW6 := dhid hb6
            have HB6 := dhid (dblow HB5.out hb6 HB5.out.size)
            clear hb6 HCL y1
            go_wp2_with (at_builtin; (refine wpList_append_lk rfl _ _ 25 rfl _ i0 _ Try.underlying25 hi0 hz0 hz1 hz2 rfl _ n us (L.flatMap lkDs) rfl HGL.out (by omega) HSZ.out.2 HW6.out (-1) s [] _ _ _ ⟨[], .nil _ _ _ _, List.nodup_nil, fun b hb => by cases hb⟩ rfl ?_; intro v' us' w7 hgl7 hbl7; refine hold_goalF ?_))
            have HO7 := dhid ((gl_lks hgl7 HN.out).base HSZ.out.1)
            have HB7 := dhid (hbl7 _ _ HB6.out HSZ.out.1)
            clear hgl7 hbl7
            unfold Hid
            go_wp2_with fail
            go_ret2
            exact LkPost.yes HR.out HO7.out HB7.out
      · have hs4I : (4000 : Int) < (s.size : Int) := by omega
        have HR := dhid (avR_no (L := L) (s := s) (k := k) fun c => hs4 c.2.1)
        clear hA hG hVF hVl HCP hs4
        go_enter Try.func23, Try.ntmps23
        go_wp2_with fail
        refine HVS2.out.mono ?_
        rintro e w3 ⟨⟨rfl, hm⟩, hb3⟩
        have HB3 := dhid hb3
        clear hb3 HVS2 hm
        go_wp2_with fail
        go_ret2
        exact LkPost.no HR.out HB3.out
    · have hnb : n = 30 := by omega
      have HR := dhid (avR_no (L := L) (s := s) (k := k) fun c => hn29 (by rw [HN.out]; exact c.1))
      subst hnb
      clear hA hG hVF hVl HCP hn29
      go_enter Try.func23, Try.ntmps23
      go_wp2_with fail
      refine HVS2.out.mono ?_
      rintro e w3 ⟨⟨rfl, hm⟩, hb3⟩
      have HB3 := dhid hb3
      clear hb3 HVS2 hm
      go_wp2_with fail
      go_ret2
      exact LkPost.no HR.out HB3.out
end Go.Proofs.Ytpeddaljgmkomaa
