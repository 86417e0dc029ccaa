/-
  Whether a disk is right: the specification's.
-/
import Derived.Test.YtanlggglbpibfaaSfF
import Derived.Test.YtanlggglbpibfaaSfE
namespace Go.Proofs.Ytanlggglbpibfaa
open Go.RowKit
set_option linter.unusedVariables false
set_option linter.unusedSimpArgs false
structure DqLe (O : List DqI) : Prop where
  len : O.length ≤ 1100000
  sz : ∀ o ∈ O, o.a.size ≤ 1100000 ∧ o.p.size ≤ 1100000 ∧ o.d.size ≤ 1100000
theorem DqLe.at {O : List DqI} (h : DqLe O) {i : Nat} (hi : i < O.length) : (dqF O i).a.size ≤ 1100000 ∧ (dqF O i).p.size ≤ 1100000 ∧ (dqF O i).d.size ≤ 1100000 := by
  rw [dqF_at hi]; exact h.sz _ (List.getElem_mem hi)
/-- a value that is a list of ops -/
def DqV (w : World) (v : Value) (L : List DqI) : Prop := (v = .slice none 0 0 ∧ L = []) ∨ ∃ g c, v = .slice (some ⟨g, 0, none⟩) L.length c ∧ DqRow w g L.length (dqF L)
theorem DqV.below {w w' : World} {v : Value} {L : List DqI} (h : DqV w v L) (hb : Below w.heap.size w w') : DqV w' v L := by
  rcases h with h | ⟨g, c, e, hr⟩
  · exact Or.inl h
  · exact Or.inr ⟨g, c, e, hr.below hb hr.lt⟩
theorem DqV.slice {w : World} {v : Value} {L : List DqI} (h : DqV w v L) : ∃ a c, v = .slice a L.length c := by
  rcases h with ⟨rfl, rfl⟩ | ⟨g, c, e, hr⟩
  · exact ⟨none, 0, rfl⟩
  · exact ⟨_, c, e⟩
theorem FlV.slice {w : World} {v : Value} {L : List FlI} (h : FlV w v L) : ∃ a c, v = .slice a L.length c := by
  rcases h with ⟨rfl, rfl⟩ | ⟨g, c, e, hr⟩
  · exact ⟨none, 0, rfl⟩
  · exact ⟨_, c, e⟩
theorem doF_le {L M : List FlI} {o : DqI} (h : ∀ f ∈ L, f.a.size ≤ 1500000 ∧ f.d.size + o.d.size ≤ 1500000) (hl : L.length ≤ 1000000) (h1 : o.a.size ≤ 1500000) (h2 : o.p.size ≤ 1500000) (h3 : o.d.size ≤ 1500000) (k : doF L o = some M) : FlLe M := by
  unfold doF at k
  split at k
  · cases k
    refine ⟨by have := putF_len L o.a ((fdF L o.a).getD ⟨#[]⟩ ++ o.d); omega, fun f hf => ?_⟩
    rcases putF_mem hf with rfl | hf
    · refine ⟨h1, ?_⟩
      show ((fdF L o.a).getD ⟨#[]⟩ ++ o.d).size ≤ _
      rw [ByteArray.size_append]
      cases hx : fdF L o.a with
      | none => have z : (⟨#[]⟩ : ByteArray).size = 0 := rfl; simp only [Option.getD_none, z]; omega
      | some x => exact (h _ (fdF_mem hx)).2
    · have := h f hf; exact ⟨this.1, by omega⟩
  · split at k
    · cases k
    · rename_i x hx
      cases k
      have hx2 := (h _ (fdF_mem hx)).2
      have hx2 : x.size + o.d.size ≤ 1500000 := hx2
      split
      · refine ⟨by have := putF_len (cutF L o.a) o.p x; have := cutF_len L o.a; omega, fun f hf => ?_⟩
        rcases putF_mem hf with rfl | hf
        · exact ⟨h2, by show x.size ≤ _; omega⟩
        · have := h f (cutF_mem hf).1; exact ⟨this.1, by omega⟩
      · exact ⟨by have := cutF_len L o.a; omega, fun f hf => by have := h f (cutF_mem hf).1; exact ⟨this.1, by omega⟩⟩
theorem takeD_snoc {L : List DqI} {i : Nat} (h : i < L.length) : L.take (i + 1) = L.take i ++ [dqF L i] := by
  rw [List.take_add_one, List.getElem?_eq_getElem h, dqF_at h]; rfl
theorem run_take_no {S : List FlI} {O : List DqI} {i : Nat} (h : runF S (O.take i) = none) : runF S O = none := by
  have : O = O.take i ++ O.drop i := (List.take_append_drop i O).symm
  rw [this]; exact runF_stop h
theorem stepF_go {L M : List FlI} {o : DqI} (h1 : opP o) (h2 : doF L o = some M) (h3 : filesP M) : stepF L o = some M := by
  unfold stepF; rw [if_pos h1, h2]; simp [h3]
theorem stepF_form {L : List FlI} {o : DqI} (h1 : ¬ opP o) : stepF L o = none := by unfold stepF; rw [if_neg h1]
theorem stepF_none {L : List FlI} {o : DqI} (h2 : doF L o = none) : stepF L o = none := by unfold stepF; split; rw [h2]; rfl
theorem stepF_full {L M : List FlI} {o : DqI} (h2 : doF L o = some M) (h3 : ¬ filesP M) : stepF L o = none := by unfold stepF; split; rw [h2]; simp [h3]; rfl
set_option maxRecDepth 100000 in
set_option maxHeartbeats 900000 in
theorem sdisk_any (vL vS vO : Value) (L S : List FlI) (O : List DqI) (w : World) (hL : FlLe L) (hS : FlLe S) (hO : DqLe O) (h1 : FlV w vL L) (h2 : FlV w vS S) (h3 : DqV w vO O) :
    Calls Try.prog 15 #[.agg #[vL, vS, vO]] w fun e w' => e = .returned (.bool (dkB L S O)) ∧ Below w.heap.size w w' := by
  obtain ⟨ao, co, rfl⟩ := h3.slice
  obtain ⟨al, cl, rfl⟩ := h1.slice
  obtain ⟨a2, ks, rfl⟩ := h2.slice
  have HFL : Hid (∀ w', Below w.heap.size w w' → Calls Try.prog 42 #[.slice al L.length cl] w' fun e w'' => e = .returned (.bool (flB L)) ∧ Below w'.heap.size w' w'') := fun w' hb => sfiles_any _ L w' hL (h1.below hb).arg
  have HFS : Hid (∀ w', Below w.heap.size w w' → Calls Try.prog 42 #[.slice a2 S.length ks] w' fun e w'' => e = .returned (.bool (flB S)) ∧ Below w'.heap.size w' w'') := fun w' hb => sfiles_any _ S w' hS (h2.below hb).arg
  have HFM : Hid (∀ (M : List FlI) u w', FlLe M → FlV w' u M → Calls Try.prog 42 #[u] w' fun e w'' => e = .returned (.bool (flB M)) ∧ Below w'.heap.size w' w'') := fun M u w' hM hu => sfiles_any u M w' hM hu.arg
  have HDO : Hid (∀ (M : List FlI) u (m : Int) (a p d : ByteArray) w', filesP M → d.size ≤ 1100000 → FlV w' u M → Calls Try.prog 43 #[u, dqV m a p d] w' (DoAns w' M ⟨m, a, p, d⟩)) := fun M u m a p d w' hM hd hu => sdo15_any u M m a p d w' hM.le hM.rise (fun f hf => by have := sumD_mem hf; have := hM.sum; omega) (by omega) hu
  have HFO : Hid (∀ (m : Int) (a p d : ByteArray) (w : World), Calls Try.prog 44 #[dqV m a p d] w fun e w' => e = .returned (.bool (decide (opP ⟨m, a, p, d⟩))) ∧ Below w.heap.size w w') := sform_any
  have HSM : Hid (∀ (M : List FlI) u w', M.length ≤ 60 → Below w.heap.size w w' → FlV w' u M → Calls Try.prog 45 #[u, .slice al L.length cl] w' fun e w'' => e = .returned (.bool (eqB M L)) ∧ Below w'.heap.size w' w'') := fun M u w' hM hb hu => ssame15_any u _ M L w' (by omega) hL.len hu (h1.below hb)
  have HV2 : Hid (∀ w', Below w.heap.size w w' → FlV w' (.slice a2 S.length ks) S) := fun w' hb => h2.below hb
  have HOR : Hid (∀ i w', i < O.length → Below w.heap.size w w' → ∃ g c, (Value.slice ao O.length co) = .slice (some ⟨g, 0, none⟩) O.length c ∧ DqRow w' g O.length (dqF O)) := fun i w' hi hb => by
    rcases h3 with ⟨_, rfl⟩ | ⟨g, c, e, hr⟩
    · simp at hi
    · exact ⟨g, c, e, hr.below hb hr.lt⟩
  have HOZ := hidF hO
  have hO9 := hO.len
  have HB1 : Hid (Below w.heap.size w (w.alloc (.cells #[.slice al L.length cl, .slice a2 S.length ks, .slice ao O.length co] 27))) := (Below.refl _ _).alloc (Nat.le_refl _) _
  have HX1 : Hid ((w.alloc (.cells #[.slice al L.length cl, .slice a2 S.length ks, .slice ao O.length co] 27)).heap[w.heap.size]? = some (.cells #[.slice al L.length cl, .slice a2 S.length ks, .slice ao O.length co] 27 (0, 0))) := heap_alloc_new w _
  have HNO : Hid (¬ filesP L → dkB L S O = false) := fun h => dkB_no fun k => h k.live
  have HNS : Hid (¬ filesP S → dkB L S O = false) := fun h => dkB_no fun k => h k.safe
  have HNN : Hid (200 < O.length → dkB L S O = false) := fun h => dkB_no fun k => by have := k.few; omega
  have HNR : Hid (∀ i, runF S (O.take i) = none → dkB L S O = false) := fun i h => dkB_no fun k => by have := run_take_no h; rw [k.run] at this; cases this
  unfold dqV at HDO HFO
  clear hL hS hO h1 h2 h3
  go_enter Try.func15, Try.ntmps15
  go_wp2_with fail
  refine (HFL.out _ HB1.out).mono ?_
  rintro e w2 ⟨rfl, hb2⟩
  have HX2 : Hid (w2.heap[w.heap.size]? = some (.cells #[.slice al L.length cl, .slice a2 S.length ks, .slice ao O.length co] 27 (0, 0))) := (hb2.block _ (Array.getElem?_eq_some_iff.1 HX1.out).1).trans HX1.out
  have HB2 := hidF (blFl HB1.out hb2 HB1.out.size)
  clear hb2 HB1 HX1
  obtain ⟨bk, hbk⟩ : ∃ bk, bk = w.heap.size := ⟨_, rfl⟩
  rw [← hbk] at HX2 ⊢
  have HBK := hidF hbk
  clear hbk
  have c0 := cell_of_row _ _ 0 _ _ _ HX2.out
  have c1 := cell_of_row _ _ 1 _ _ _ HX2.out
  have c2 := cell_of_row _ _ 2 _ _ _ HX2.out
  by_cases hfl : filesP L
  rotate_left
  · have HF := hidF (HNO.out hfl)
    rw [flB_no hfl]
    clear hfl c0 c1 c2 HNO HNS HNN HNR
    go_wp2_with fail
    go_ret
    exact ⟨by rw [HF.out]; rfl, HB2.out⟩
  rw [flB_yes hfl]
  go_wp2_with fail
  refine (HFS.out _ HB2.out).mono ?_
  rintro e w3 ⟨rfl, hb3⟩
  have HX3 : Hid (w3.heap[bk]? = some (.cells #[.slice al L.length cl, .slice a2 S.length ks, .slice ao O.length co] 27 (0, 0))) := (hb3.block _ (Array.getElem?_eq_some_iff.1 HX2.out).1).trans HX2.out
  have HB3 := hidF (blFl HB2.out hb3 HB2.out.size)
  clear hb3 HB2 HX2 c0 c1 c2
  have c0 := cell_of_row _ _ 0 _ _ _ HX3.out
  have c1 := cell_of_row _ _ 1 _ _ _ HX3.out
  have c2 := cell_of_row _ _ 2 _ _ _ HX3.out
  by_cases hfs : filesP S
  rotate_left
  · have HF := hidF (HNS.out hfs)
    rw [flB_no hfs]
    clear hfl hfs c0 c1 c2 HNO HNS HNN HNR
    go_wp2_with fail
    go_ret
    exact ⟨by rw [HF.out]; rfl, HB3.out⟩
  rw [flB_yes hfs]
  by_cases hon : 200 < O.length
  · have HF := hidF (HNN.out hon)
    have honI : (200 : Int) < (O.length : Int) := by omega
    clear hfl hfs hon HNO HNS HNN HNR
    go_wp2_with fail
    go_ret
    exact ⟨by rw [HF.out]; rfl, HB3.out⟩
  have honI : ¬ (200 : Int) < (O.length : Int) := by omega
  have HFW : Hid (filesP S ∧ O.length ≤ 200) := ⟨hfs, by omega⟩
  have HST0 : Hid (filesP S ∧ runF S (O.take 0) = some S) := ⟨hfs, rfl⟩
  have HM0 : Hid (FlV w3 (.slice a2 S.length ks) S ∧ Below w.heap.size w w3 ∧ w3.heap[bk]? = some (.cells #[.slice al L.length cl, .slice a2 S.length ks, .slice ao O.length co] 27 (0, 0))) := ⟨HV2.out _ HB3.out, HB3.out, HX3.out⟩
  clear hfs hon HNO HNS HNN HB3
  go_wp2_with fail
  go_loopw [3, 4] (fun x y wr => ∃ (i : Nat) (u : Value) (M : List FlI), i ≤ O.length ∧ x = u ∧ y = .int .i64 (i : Int) ∧ Hid (filesP M ∧ runF S (O.take i) = some M) ∧ Hid (FlV wr u M ∧ Below w.heap.size w wr ∧ wr.heap[bk]? = some (.cells #[.slice al L.length cl, .slice a2 S.length ks, .slice ao O.length co] 27 (0, 0)))) (fun _ y _ => O.length - (intFl y).toNat)
  case atStart => exact ⟨0, _, S, by omega, rfl, rfl, HST0, HM0⟩
  case round =>
    clear HST0 HM0 c0 c1 c2 HX3
    rename World => W0
    obtain ⟨i, u, M, hi, rfl, rfl, HT, HM⟩ := hrel
    have c0 := cell_of_row _ _ 0 _ _ _ HM.out.2.2
    have c2 := cell_of_row _ _ 2 _ _ _ HM.out.2.2
    by_cases hlt : i < O.length
    · have hltI : (i : Int) < (O.length : Int) := by omega
      have hin : i < O.length := hlt
      obtain ⟨g, c, hao, hrow⟩ := HOR.out i _ hin HM.out.2.1
      injection hao with e1 e2 e3
      subst e1 e3
      clear e2
      have HRW : Hid (∀ w', Below w.heap.size w w' → DqRow w' g O.length (dqF O)) := fun w' hb => by
        obtain ⟨g2, c2, e, h2⟩ := HOR.out i w' hin hb
        cases e
        exact h2
      obtain ⟨q, hq⟩ : ∃ q, q = 4 * i := ⟨_, rfl⟩
      have hiq : i * 4 = q := by omega
      have HCL : Hid (∀ w', Below w.heap.size w w' → w'.cell? ⟨g, q, none⟩ = some (.int .i64 (dqF O i).m) ∧ w'.cell? ⟨g, q + 1, none⟩ = some (.string (dqF O i).a) ∧ w'.cell? ⟨g, q + 2, none⟩ = some (.string (dqF O i).p) ∧ w'.cell? ⟨g, q + 3, none⟩ = some (.string (dqF O i).d)) := fun w' hb => by
        have := HRW.out w' hb
        rw [hq]
        exact ⟨this.c0 i hlt, this.c1 i hlt, this.c2 i hlt, this.c3 i hlt⟩
      have HTK : Hid (runF S (O.take (i + 1)) = stepF M (dqF O i)) := by show _ = _; rw [takeD_snoc hin, runF_snoc HT.out.2]
      have HSZ := hidF (HOZ.out.at hin)
      have HIN := hidF hlt
      clear hrow hq hin
      generalize dqF O i = op at HCL HTK HSZ
      obtain ⟨om, oa, oP, od⟩ := op
      simp only at HCL HSZ
      obtain ⟨x0, x1, x2, x3⟩ := HCL.out _ HM.out.2.1
      go_wp2_with fail
      refine (HDO.out M _ om oa oP od _ HT.out.1 HSZ.out.2.2 HM.out.1).mono ?_
      rintro e w4 ⟨v4, M4, b4, rfl, hf4, hb4⟩
      have HF4 := hidF hf4
      have HB4 := hidF (blFl HM.out.2.1 hf4.bel HM.out.2.1.size)
      have HX4 : Hid (w4.heap[bk]? = some (.cells #[.slice al L.length cl, .slice a2 S.length ks, .slice (some ⟨g, 0, none⟩) O.length co] 27 (0, 0))) := (hf4.bel.block _ (Array.getElem?_eq_some_iff.1 HM.out.2.2).1).trans HM.out.2.2
      clear hf4 c0 c2 x0 x1 x2 x3
      have c2 := cell_of_row _ _ 2 _ _ _ HX4.out
      rcases hb4 with ⟨rfl, hdo⟩ | ⟨rfl, hdo, rfl⟩
      rotate_left
      · have HF := hidF (HNR.out (i + 1) (by rw [HTK.out, stepF_none hdo]))
        clear hdo c2
        go_wp2_with fail
        go_ret
        exact ⟨by rw [HF.out]; rfl, HB4.out⟩
      have HLE : Hid (FlLe M4) := doF_le (o := ⟨om, oa, oP, od⟩) (fun f hf => ⟨by have := (HT.out.1.nm f hf).2; omega, by have := sumD_mem hf; have := HT.out.1.sum; have := HSZ.out.2.2; show f.d.size + od.size ≤ _; omega⟩) (by have := HT.out.1.len; omega) (by have := HSZ.out.1; show oa.size ≤ _; omega) (by have := HSZ.out.2.1; show oP.size ≤ _; omega) (by have := HSZ.out.2.2; show od.size ≤ _; omega) hdo
      obtain ⟨x0, x1, x2, x3⟩ := HCL.out _ HB4.out
      go_wp2_with fail
      refine (HFO.out om oa oP od _).mono ?_
      rintro e w5 ⟨rfl, hb5⟩
      have HB5 := hidF (blFl HB4.out hb5 HB4.out.size)
      have HV5 := hidF (HF4.out.v.below hb5)
      have HX5 : Hid (w5.heap[bk]? = some (.cells #[.slice al L.length cl, .slice a2 S.length ks, .slice (some ⟨g, 0, none⟩) O.length co] 27 (0, 0))) := (hb5.block _ (Array.getElem?_eq_some_iff.1 HX4.out).1).trans HX4.out
      clear hb5 c2 x0 x1 x2 x3 HB4 HX4
      by_cases hform : opP ⟨om, oa, oP, od⟩
      rotate_left
      · have HF := hidF (HNR.out (i + 1) (by rw [HTK.out, stepF_form hform]))
        rw [decide_eq_false hform]
        clear hdo hform
        go_wp2_with fail
        go_ret
        exact ⟨by rw [HF.out]; rfl, HB5.out⟩
      rw [decide_eq_true hform]
      go_wp2_with fail
      refine (HFM.out M4 _ _ HLE.out HV5.out).mono ?_
      rintro e w6 ⟨rfl, hb6⟩
      have HB6 := hidF (blFl HB5.out hb6 HB5.out.size)
      have HV6 := hidF (HV5.out.below hb6)
      have HX6 : Hid (w6.heap[bk]? = some (.cells #[.slice al L.length cl, .slice a2 S.length ks, .slice (some ⟨g, 0, none⟩) O.length co] 27 (0, 0))) := (hb6.block _ (Array.getElem?_eq_some_iff.1 HX5.out).1).trans HX5.out
      clear hb6 HB5 HX5 HV5
      by_cases hfm : filesP M4
      rotate_left
      · have HF := hidF (HNR.out (i + 1) (by rw [HTK.out, stepF_full hdo hfm]))
        rw [flB_no hfm]
        clear hdo hform hfm
        go_wp2_with fail
        go_ret
        exact ⟨by rw [HF.out]; rfl, HB6.out⟩
      rw [flB_yes hfm]
      have HT6 : Hid (filesP M4 ∧ runF S (O.take (i + 1)) = some M4) := ⟨hfm, by rw [HTK.out, stepF_go hform hdo hfm]⟩
      clear hdo hform hfm
      go_wp2_with fail
      go_roundw
      case rel => exact ⟨i + 1, _, M4, by have := HIN.out; omega, rfl, by go_num, HT6, HV6.out, HB6.out, HX6.out⟩
      case measure => simp [intFl]; have := HIN.out; omega
    · have hie : i = O.length := by omega
      have HRN : Hid (runF S O = some M) := by have := HT.out.2; rw [hie, List.take_length] at this; exact this
      have HQ : Hid (dkB L S O = eqB M L) := by
        show _ = _
        by_cases e : M = L
        · rw [eqB_yes e, dkB_yes ⟨HFW.out.1, by have := HFW.out.2; omega, by rw [HRN.out, e]⟩]
        · rw [eqB_no e, dkB_no fun k => e (by have := k.run; rw [HRN.out] at this; exact Option.some.inj this)]
      go_wp2_with fail
      refine (HSM.out M _ _ HT.out.1.len HM.out.2.1 HM.out.1).mono ?_
      rintro e w4 ⟨rfl, hb4⟩
      have HB4 := hidF (blFl HM.out.2.1 hb4 HM.out.2.1.size)
      clear hb4
      go_wp2_with fail
      go_ret
      exact ⟨by rw [HQ.out]; rfl, HB4.out⟩
end Go.Proofs.Ytanlggglbpibfaa
