/-
  A disk that is opened: whether it is right; the code's.
-/
import Derived.Test.YtanlggglbpibfaaFsJ
namespace Go.Proofs.Ytanlggglbpibfaa
open Go.RowKit
set_option linter.unusedVariables false
set_option linter.unusedSimpArgs false
theorem stP_go {M : List FlI} {n : Nat} {o : DqI} {c : Int} (hM : filesP M) (h : stP M n o c) (hc : c = 0) : n + 1 ≤ 200 ∧ stepF M o = some (doG M o) := by
  subst hc
  rcases h with ⟨_, h⟩ | ⟨_, _, h⟩ | ⟨_, _, h⟩ | ⟨h1, ⟨M2, h2, h3, h4, h5⟩, _⟩
  · omega
  · omega
  · omega
  · refine ⟨h3, ?_⟩
    have hG : doG M o = M2 := by unfold doG; rw [h2]; rfl
    rw [hG]
    exact stepF_go h1 h2 ⟨h4, doF_nm hM.nm h1 h2, doF_rise hM.rise h2, h5⟩
theorem stP_no {M : List FlI} {n : Nat} {o : DqI} {c : Int} (h : stP M n o c) (hc : c ≠ 0) : 200 ≤ n ∨ stepF M o = none := by
  rcases h with ⟨h, _⟩ | ⟨_, h, _⟩ | ⟨_, ⟨M2, h2, h3⟩, _⟩ | ⟨_, _, h⟩
  · exact Or.inr (stepF_form h)
  · exact Or.inr (stepF_none h)
  · by_cases hn : n + 1 ≤ 200
    · exact Or.inr (stepF_full h2 fun k => h3 ⟨hn, k.len, k.sum⟩)
    · exact Or.inl (by omega)
  · exact absurd h hc
/-- the answer of openDisk -/
def OdAns (w : World) (vS : Value) (L S : List FlI) (O : List DqI) (e : Ending) (w' : World) : Prop := (diskP L S O ∧ ∃ lo wd p mb vO, e = .returned (.tuple #[.pointer (some ⟨wd, 0, none⟩), .bool true]) ∧ w.heap.size ≤ lo ∧ lo ≤ w'.heap.size ∧ WdW w' lo wd p mb vS vO L O) ∨ (¬ diskP L S O ∧ ∃ x, e = .returned (.tuple #[x, .bool false]))
set_option maxRecDepth 100000 in
set_option maxHeartbeats 4000000 in
theorem open15_any (vL vS vO : Value) (L S : List FlI) (O : List DqI) (w : World) (hL : FlLe L) (hS : FlLe S) (hO : DqLe O) (h1 : FlV w vL L) (h2 : FlV w vS S) (h3 : DqV w vO O) :
    Calls Try.prog 41 #[.agg #[vL, vS, vO]] w fun e w' => OdAns w vS L S O e w' ∧ Below w.heap.size w w' := by
  obtain ⟨ao, co, rfl⟩ := h3.slice
  obtain ⟨al, cl, rfl⟩ := h1.slice
  obtain ⟨a2, ks, rfl⟩ := h2.slice
  have HSET : Hid (∀ w', Below w.heap.size w w' → Calls Try.prog 47 #[.slice a2 S.length ks] w' fun e w'' => SetAns w' S e w'' ∧ Below w'.heap.size w' w'') := fun w' hb => setOf_any _ S w' hS (h2.below hb)
  have HWDO : Hid (∀ lo wd p mb v (M : List FlI) (P : List DqI) (m : Int) (a q d : ByteArray) w', WdW w' lo wd p mb (.slice a2 S.length ks) v M P → filesP M → P.length ≤ 200 → q.size ≤ 1100000 → d.size ≤ 1100000 → Calls Try.prog 78 #[.pointer (some ⟨wd, 0, none⟩), .agg #[.int .i64 m, .string a, .string q, .string d]] w' fun e w'' => (∃ c, e = .returned (.int .i64 c) ∧ stP M P.length ⟨m, a, q, d⟩ c ∧ (c = 0 → ∃ v', WdW w'' lo wd p mb (.slice a2 S.length ks) v' (doG M ⟨m, a, q, d⟩) (P ++ [⟨m, a, q, d⟩]))) ∧ Below lo w' w'') := fun lo wd p mb v M P m a q d w' hW hM hP h4 h5 => wdo_any m a q d w' hW (by have := hM.len; omega) (by have := hM.sum; omega) (by omega) (by omega) (by omega)
  have HLI : Hid (∀ lo p mb V (M : List FlI) w', FsW w' lo p mb M V (sumD M) → filesP M → Calls Try.prog 51 #[.pointer (some ⟨p, 0, none⟩)] w' (FlAns w' M)) := fun lo p mb V M w' hF hM => list15_any w' hF (by have := hM.len; omega) (fun f hf => by have := (hM.nm f hf).2; omega)
  have HEQ : Hid (∀ (M : List FlI) u w', M.length ≤ 60 → Below w.heap.size w w' → FlV w' u M → Calls Try.prog 79 #[u, .slice al L.length cl] w' fun e w'' => e = .returned (.bool (eqB M L)) ∧ Below w'.heap.size w' w'') := fun M u w' hM hb hu => equal15_any u _ M L w' (by omega) hL.len hu (h1.below hb)
  have HOR : Hid (∀ i w', i < O.length → Below w.heap.size w w' → ∃ g c, (Value.slice ao O.length co) = .slice (some ⟨g, 0, none⟩) O.length c ∧ DqRow w' g O.length (dqF O)) := fun i w' hi hb => by
    rcases h3 with ⟨_, rfl⟩ | ⟨g, c, e, hr⟩
    · simp at hi
    · exact ⟨g, c, e, hr.below hb hr.lt⟩
  have HOZ := hidF hO
  have hO9 := hO.len
  have HB1 : Hid (Below w.heap.size w (w.alloc (.cells #[.slice al L.length cl, .slice a2 S.length ks, .slice ao O.length co] 27))) := (Below.refl _ _).alloc (Nat.le_refl _) _
  have HX1 : Hid ((w.alloc (.cells #[.slice al L.length cl, .slice a2 S.length ks, .slice ao O.length co] 27)).heap[w.heap.size]? = some (.cells #[.slice al L.length cl, .slice a2 S.length ks, .slice ao O.length co] 27 (0, 0))) := heap_alloc_new w _
  have HSZ1 : Hid ((w.alloc (.cells #[.slice al L.length cl, .slice a2 S.length ks, .slice ao O.length co] 27)).heap.size = w.heap.size + 1) := by show _ = _; rw [World.size_alloc]
  clear hL hS hO h1 h2 h3
  go_enter Try.func41, Try.ntmps41
  go_wp2_with fail
  have HSE1 := hidF (HSET.out _ HB1.out)
  generalize hw1 : w.alloc (.cells #[.slice al L.length cl, .slice a2 S.length ks, .slice ao O.length co] 27) = w1 at HB1 HX1 HSZ1 HSE1 ⊢
  obtain ⟨bk, hbk⟩ : ∃ bk, bk = w.heap.size := ⟨_, rfl⟩
  rw [← hbk] at HX1 ⊢
  have HBK := hidF hbk
  clear hw1 hbk
  refine HSE1.out.mono ?_
  rintro e w2 ⟨hse, hb2⟩
  have HX2 : Hid (w2.heap[bk]? = some (.cells #[.slice al L.length cl, .slice a2 S.length ks, .slice ao O.length co] 27 (0, 0))) := (hb2.block _ (Array.getElem?_eq_some_iff.1 HX1.out).1).trans HX1.out
  have HB2 := hidF (blFl HB1.out hb2 HB1.out.size)
  have hb2s := hb2.size
  clear hb2 HSE1 HSET
  rcases hse with ⟨hfs, p, mb, V, rfl, hF⟩ | ⟨hfs, x, rfl⟩
  rotate_left
  · have HF : Hid (¬ diskP L S O) := fun k => hfs k.safe
    clear hfs
    go_wp2_with fail
    go_ret2
    exact ⟨Or.inr ⟨HF.out, _, rfl⟩, HB2.out⟩
  obtain ⟨lo, hlo⟩ : ∃ lo, lo = w1.heap.size := ⟨_, rfl⟩
  rw [← hlo] at hF
  have hF3 : FsW (w2.alloc (.cells #[.pointer (some ⟨p, 0, none⟩), .slice a2 S.length ks, .slice none 0 0] 94)) lo p mb S V (sumD S) := hF.under ((Below.refl _ _).alloc (Nat.le_refl _) _)
  have HW3 : Hid (WdW (w2.alloc (.cells #[.pointer (some ⟨p, 0, none⟩), .slice a2 S.length ks, .slice none 0 0] 94)) lo w2.heap.size p mb (.slice a2 S.length ks) (.slice none 0 0) S (O.take 0)) := ⟨heap_alloc_new w2 _, ⟨V, hF3⟩, World.ownsRow_nil _ _ _ _, by omega⟩
  have HB3 : Hid (Below w.heap.size w (w2.alloc (.cells #[.pointer (some ⟨p, 0, none⟩), .slice a2 S.length ks, .slice none 0 0] 94))) := HB2.out.alloc HB2.out.size _
  have HX3 : Hid ((w2.alloc (.cells #[.pointer (some ⟨p, 0, none⟩), .slice a2 S.length ks, .slice none 0 0] 94)).heap[bk]? = some (.cells #[.slice al L.length cl, .slice a2 S.length ks, .slice ao O.length co] 27 (0, 0))) := (Below.heap_alloc _ _ _ (Array.getElem?_eq_some_iff.1 HX2.out).1).trans HX2.out
  have HBL : Hid (bk < lo ∧ w.heap.size ≤ lo) := ⟨by have := HSZ1.out; have := HBK.out; omega, by have := HSZ1.out; omega⟩
  have HFS := hidF hfs
  have c1 := cell_of_row _ _ 1 _ _ _ HX2.out
  have c2 := cell_of_row _ _ 2 _ _ _ HX3.out
  clear hF hF3 hfs hlo hb2s HSZ1
  go_wp2_with fail
  clear c1 c2
  generalize w2.alloc (.cells #[.pointer (some ⟨p, 0, none⟩), .slice a2 S.length ks, .slice none 0 0] 94) = w3 at HW3 HB3 HX3 ⊢
  generalize w2.heap.size = wd at HW3 ⊢
  clear HB2 HX2
  have HT0 : Hid (filesP S ∧ runF S (O.take 0) = some S) := ⟨HFS.out, rfl⟩
  go_loopw [25] (fun y wr => ∃ (i : Nat) (v : Value) (M : List FlI), i ≤ O.length ∧ i ≤ 200 ∧ y = .int .i64 (i : Int) ∧ Hid (filesP M ∧ runF S (O.take i) = some M) ∧ Hid (WdW wr lo wd p mb (.slice a2 S.length ks) v M (O.take i)) ∧ Hid (Below w.heap.size w wr ∧ wr.heap[bk]? = some (.cells #[.slice al L.length cl, .slice a2 S.length ks, .slice ao O.length co] 27 (0, 0)))) (fun y _ => O.length - (intFl y).toNat)
  case atStart => exact ⟨0, _, S, by omega, by omega, rfl, HT0, HW3, HB3.out, HX3.out⟩
  case round =>
    clear HT0 HW3 HB3 HX3
    rename World => W0
    obtain ⟨i, v, M, hi, hi2, rfl, HT, HW, HM⟩ := hrel
    by_cases hlt : i < O.length
    · have hltI : (i : Int) < (O.length : Int) := by omega
      obtain ⟨g, c, hao, hrow⟩ := HOR.out i _ hlt HM.out.1
      injection hao with e1 e2 e3
      subst e1 e3
      clear e2
      obtain ⟨q0, hq⟩ : ∃ q, q = 4 * i := ⟨_, rfl⟩
      have hiq : i * 4 = q0 := by omega
      have x0 := hrow.c0 i hlt
      have x1 := hrow.c1 i hlt
      have x2 := hrow.c2 i hlt
      have x3 := hrow.c3 i hlt
      rw [← hq] at x0 x1 x2 x3
      have HTK : Hid (runF S (O.take (i + 1)) = stepF M (dqF O i)) := by show _ = _; rw [takeD_snoc hlt, runF_snoc HT.out.2]
      have HOT : Hid (O.take i ++ [dqF O i] = O.take (i + 1)) := (takeD_snoc hlt).symm
      have HSZ := hidF (HOZ.out.at hlt)
      have HTL : Hid ((O.take i).length = i) := by show _ = _; rw [List.length_take]; omega
      have HIN := hidF hlt
      clear hrow hq
      generalize dqF O i = op at x0 x1 x2 x3 HTK HSZ HOT
      obtain ⟨om, oa, oq, od⟩ := op
      simp only at x0 x1 x2 x3 HSZ
      have HBA : Hid (Below W0.heap.size W0 (W0.alloc (.cells #[.int .i64 om, .string oa, .string oq, .string od] 36))) := (Below.refl _ _).alloc (Nat.le_refl _) _
      have hWD := HWDO.out lo wd p mb v M (O.take i) om oa oq od _ (HW.out.under HBA.out) HT.out.1 (by have := HTL.out; omega) HSZ.out.2.1 HSZ.out.2.2
      rw [HTL.out, HOT.out] at hWD
      have HWD2 := hidF hWD
      clear hWD
      go_wp2_with fail
      refine HWD2.out.mono ?_
      rintro e w4 ⟨⟨cc, rfl, hst, hnx⟩, hb4⟩
      have HB4 : Hid (Below w.heap.size w w4) := (blFl HM.out.1 HBA.out HM.out.1.size).trans (hb4.mono HBL.out.2)
      have HX4 : Hid (w4.heap[bk]? = some (.cells #[.slice al L.length cl, .slice a2 S.length ks, .slice (some ⟨g, 0, none⟩) O.length co] 27 (0, 0))) := (hb4.block bk HBL.out.1).trans ((Below.heap_alloc _ _ _ (Array.getElem?_eq_some_iff.1 HM.out.2).1).trans HM.out.2)
      clear hb4 x0 x1 x2 x3 HBA HWD2
      by_cases hcc : cc = 0
      · obtain ⟨v5, hW5⟩ := hnx hcc
        have hgo := stP_go HT.out.1 hst hcc
        have HT5 : Hid (filesP (doG M ⟨om, oa, oq, od⟩) ∧ runF S (O.take (i + 1)) = some (doG M ⟨om, oa, oq, od⟩)) := ⟨stepF_files hgo.2, by rw [HTK.out]; exact hgo.2⟩
        have HW5 := hidF hW5
        have h200 := hgo.1
        subst hcc
        clear hW5 hgo hst hnx
        go_wp2_with fail
        go_roundw
        case rel => exact ⟨i + 1, v5, _, by have := HIN.out; omega, h200, by go_num, HT5, HW5, HB4.out, HX4.out⟩
        case measure => simp [intFl]; have := HIN.out; omega
      · have HF : Hid (¬ diskP L S O) := fun k => by
          rcases stP_no hst hcc with h | h
          · have := k.few; have := HIN.out; omega
          · have h2 := run_take_no (S := S) (O := O) (i := i + 1) (by rw [HTK.out]; exact h)
            rw [k.run] at h2; cases h2
        have hcb : (cc != 0) = true := by rw [bne_iff_ne]; exact hcc
        have hcb2 : (cc == 0) = false := beq_eq_false_iff_ne.2 hcc
        clear hst hnx hcc
        go_wp2_with fail
        go_ret2
        exact ⟨Or.inr ⟨HF.out, _, rfl⟩, HB4.out⟩
    · have hie : i = O.length := by omega
      have hltI : ¬ (i : Int) < (O.length : Int) := by omega
      have HRN : Hid (runF S O = some M) := by have := HT.out.2; rw [hie, List.take_length] at this; exact this
      have HWE : Hid (WdW W0 lo wd p mb (.slice a2 S.length ks) v M O) := by have := HW.out; rw [hie, List.take_length] at this; exact this
      have hol : O.length ≤ 200 := by omega
      have HYES : Hid (M = L → diskP L S O) := fun e => ⟨HFS.out, hol, by rw [HRN.out, e]⟩
      have HNOT : Hid (M ≠ L → ¬ diskP L S O) := fun e k => e (by have := k.run; rw [HRN.out] at this; exact Option.some.inj this)
      have hlos : lo ≤ W0.heap.size := by have := HWE.out.base; have := (Array.getElem?_eq_some_iff.1 HWE.out.box).1; omega
      obtain ⟨S2, hS2⟩ : ∃ SS : World → Prop, SS = fun w' => w'.heap[bk]? = some (.cells #[.slice al L.length cl, .slice a2 S.length ks, .slice ao O.length co] 27 (0, 0)) := ⟨_, rfl⟩
      have hSd : S2 W0.drew := by rw [hS2]; exact HM.out.2
      have HSX : Hid (∀ w', S2 w' → w'.cell? ⟨bk, 0, none⟩ = some (.slice al L.length cl)) := fun w' hq => by rw [hS2] at hq; exact cell_of_row _ _ 0 _ _ _ hq
      have HSI : Hid (∀ w', Below W0.heap.size W0 w' → S2 w') := fun w' hb => by rw [hS2]; exact (hb.block bk (Array.getElem?_eq_some_iff.1 HM.out.2).1).trans HM.out.2
      obtain ⟨V9, hV9⟩ := HWE.out.set
      have HDR : Hid (Below W0.heap.size W0 W0.drew) := (Below.refl _ _).drew
      have HL1 := hidF (HLI.out lo p mb V9 M W0.drew (hV9.under HDR.out) HT.out.1)
      clear hS2 hV9 hie
      go_wp2_with fail
      refine wp_region_held (S := S2) (by kernel_rfl) ?_
      change wpAnyH _ _ _ _ _ _ _ _ (World.drew _)
      generalize hX2 : W0.drew = X2 at hSd HL1 HDR ⊢
      clear hX2
      refine wpAnyH_take (i := 0) (v := .pointer (some ⟨wd, 0, none⟩)) rfl (by kernel_rfl) (by kernel_rfl) (by kernel_rfl) (fun _ _ _ h => h) (Or.inl ⟨by rfl, by intro w' hS'; go_simp <;> (first | omega | rfl | (rw [IntKind.wrap_i64]; omega))⟩) hSd ?_
      (try simp only [List.getElem_toArray, List.getElem_cons_succ, List.getElem_cons_zero, Act.put, List.setIfInBounds_toArray, List.set_cons_zero, List.set_cons_succ])
      refine wpAnyH_take (i := 1) (v := .pointer (some ⟨p, 0, none⟩)) rfl (by kernel_rfl) (by kernel_rfl) (by kernel_rfl) (fun _ _ _ h => h) (Or.inl ⟨by rfl, by intro w' hS'; go_simp <;> (first | omega | rfl | (rw [IntKind.wrap_i64]; omega))⟩) hSd ?_
      (try simp only [List.getElem_toArray, List.getElem_cons_succ, List.getElem_cons_zero, Act.put, List.setIfInBounds_toArray, List.set_cons_zero, List.set_cons_succ])
      refine wpAnyH_take (i := 3) (v := .pointer (some ⟨bk, 0, none⟩)) rfl (by kernel_rfl) (by kernel_rfl) (by kernel_rfl) (fun _ _ _ h => h) (Or.inl ⟨by rfl, by intro w' hS'; go_simp <;> (first | omega | rfl | (rw [IntKind.wrap_i64]; omega))⟩) hSd ?_
      (try simp only [List.getElem_toArray, List.getElem_cons_succ, List.getElem_cons_zero, Act.put, List.setIfInBounds_toArray, List.set_cons_zero, List.set_cons_succ])
      refine wpAnyH_take (i := 4) (v := .slice al L.length cl) rfl (by kernel_rfl) (by kernel_rfl) (by kernel_rfl) (fun _ _ _ h => h) (Or.inl ⟨by rfl, by intro w' hS'; have hxx := HSX.out w' hS'; go_simp <;> (first | omega | rfl | (rw [IntKind.wrap_i64]; omega))⟩) hSd ?_
      (try simp only [List.getElem_toArray, List.getElem_cons_succ, List.getElem_cons_zero, Act.put, List.setIfInBounds_toArray, List.set_cons_zero, List.set_cons_succ])
      refine held_stepS (i := 2) (by kernel_rfl) rfl (by rfl) ?_
      go_simp
      refine HL1.out.mono ?_
      rintro e w5 ⟨u5, rfl, hu5⟩
      have HB5 : Hid (Below W0.heap.size W0 w5) := blFl HDR.out hu5.bel HDR.out.size
      have HU5 := hidF hu5.v
      have hS5 := HSI.out _ HB5.out
      refine ⟨hS5, ?_⟩
      (try simp only [List.getElem_toArray, List.getElem_cons_succ, List.getElem_cons_zero, Act.put, List.setIfInBounds_toArray, List.set_cons_zero, List.set_cons_succ])
      clear hu5
      refine held_stepS (i := 5) (by kernel_rfl) rfl (by rfl) ?_
      go_simp
      refine (HEQ.out M u5 w5 HT.out.1.len (blFl HM.out.1 HB5.out HM.out.1.size) HU5.out).mono ?_
      rintro e w6 ⟨rfl, hb6⟩
      have HB6 : Hid (Below W0.heap.size W0 w6) := blFl HB5.out hb6 HB5.out.size
      have hS6 := HSI.out _ HB6.out
      refine ⟨hS6, ?_⟩
      (try simp only [List.getElem_toArray, List.getElem_cons_succ, List.getElem_cons_zero, Act.put, List.setIfInBounds_toArray, List.set_cons_zero, List.set_cons_succ])
      clear hb6
      refine wpAnyH_take (i := 6) (v := .pointer (some ⟨wd, 0, none⟩)) rfl (by kernel_rfl) (by kernel_rfl) (by kernel_rfl) (fun _ _ _ h => h) (Or.inl ⟨by rfl, by intro w' hS'; go_simp <;> (first | omega | rfl | (rw [IntKind.wrap_i64]; omega))⟩) hS6 ?_
      (try simp only [List.getElem_toArray, List.getElem_cons_succ, List.getElem_cons_zero, Act.put, List.setIfInBounds_toArray, List.set_cons_zero, List.set_cons_succ])
      refine wpAnyH_take (i := 7) (v := .bool (eqB M L)) rfl (by kernel_rfl) (by kernel_rfl) (by kernel_rfl) (fun _ _ _ h => h) (Or.inl ⟨by rfl, by intro w' hS'; go_simp <;> (first | omega | rfl | (rw [IntKind.wrap_i64]; omega))⟩) hS6 ?_
      (try simp only [List.getElem_toArray, List.getElem_cons_succ, List.getElem_cons_zero, Act.put, List.setIfInBounds_toArray, List.set_cons_zero, List.set_cons_succ])
      refine wpAnyH_done (by kernel_rfl) ?_ _
      have HHW := hidF (HWE.out.under HB6.out)
      have HHB := hidF (blFl HM.out.1 HB6.out HM.out.1.size)
      have HHs := hidF (Nat.le_trans hlos HB6.out.size)
      clear hS6 HSX HSI HLI HEQ HWDO HL1
      by_cases hml : M = L
      · have hee : eqB M L = true := eqB_yes hml
        rw [hee]
        go_wp2_with fail
        go_ret2
        exact ⟨Or.inl ⟨HYES.out hml, lo, wd, p, mb, v, rfl, HBL.out.2, HHs.out, (hml ▸ HHW.out)⟩, HHB.out⟩
      · have hee : eqB M L = false := eqB_no hml
        rw [hee]
        go_wp2_with fail
        go_ret2
        exact ⟨Or.inr ⟨HNOT.out hml, _, rfl⟩, HHB.out⟩
end Go.Proofs.Ytanlggglbpibfaa
