/-
  A file of a disk is read: the code's and the specification's.
-/
import Derived.Test.YtanlggglbpibfaaFsL
namespace Go.Proofs.Ytanlggglbpibfaa
open Go.RowKit
set_option linter.unusedVariables false
set_option linter.unusedSimpArgs false
/-- what is read -/
noncomputable def rdE (L S : List FlI) (O : List DqI) (s : ByteArray) : ByteArray × Bool := open Classical in if diskP L S O then (match fdF L s with | some d => (d, true) | none => (⟨#[]⟩, false)) else (⟨#[]⟩, false)
theorem rdE_bad {L S : List FlI} {O : List DqI} (h : ¬ diskP L S O) (s : ByteArray) : rdE L S O s = (⟨#[]⟩, false) := by unfold rdE; rw [if_neg h]
theorem rdE_no {L S : List FlI} {O : List DqI} {s : ByteArray} (h : fdF L s = none) : rdE L S O s = (⟨#[]⟩, false) := by unfold rdE; rw [h]; split <;> rfl
theorem rdE_yes {L S : List FlI} {O : List DqI} {s d : ByteArray} (h : diskP L S O) (k : fdF L s = some d) : rdE L S O s = (d, true) := by unfold rdE; rw [if_pos h, k]
set_option maxRecDepth 100000 in
theorem read15_any (vL vS vO : Value) (L S : List FlI) (O : List DqI) (s : ByteArray) (w : World) (hs : s.size ≤ 1500000) (hL : FlLe L) (hS : FlLe S) (hO : DqLe O) (h1 : FlV w vL L) (h2 : FlV w vS S) (h3 : DqV w vO O) :
    Calls Try.prog 22 #[.agg #[vL, vS, vO], .string s] w fun e w' => e = .returned (.tuple #[.string (rdE L S O s).1, .bool (rdE L S O s).2]) ∧ Below w.heap.size w w' := by
  have HOP : Hid (∀ w', Below w.heap.size w w' → Calls Try.prog 41 #[.agg #[vL, vS, vO]] w' fun e w'' => OdAns w' vS L S O e w'' ∧ Below w'.heap.size w' w'') := fun w' hb => open15_any vL vS vO L S O w' hL hS hO (h1.below hb) (h2.below hb) (h3.below hb)
  have HS := hidF hs
  clear hL hS hO h1 h2 h3 hs
  go_enter Try.func22, Try.ntmps22
  go_wp2_with fail
  refine (HOP.out _ ((Below.refl _ _).alloc (Nat.le_refl _) _)).mono ?_
  rintro e w2 ⟨⟨hy, lo, wd, p, mb, v, rfl, _, _, hw⟩ | ⟨hn, x, rfl⟩, hb⟩
  · have hb := hidF (blFl ((Below.refl _ _).alloc (Nat.le_refl _) _) hb (by simp))
    obtain ⟨V, hF⟩ := hw.set
    have c0 := cell_of_row _ _ 0 _ _ _ hw.box
    have b0 := cell_of_row _ _ 0 _ _ _ hF.box
    have HH : Hid (Calls Try.prog 60 #[.pointer (some ⟨p, 0, none⟩), .string s] w2 fun e w' => e = .returned (.bool (fdF L s).isSome) ∧ w' = w2) := has15_any s w2 hF HS.out
    cases hf : fdF L s with
    | none =>
      rw [hf] at HH
      have HE := hidF (rdE_no (S := S) (O := O) hf)
      clear hw hF hf hy b0
      go_wp2_with fail
      refine HH.out.mono ?_
      rintro e w3 ⟨rfl, rfl⟩
      go_wp2_with fail
      go_ret2
      exact ⟨by rw [HE.out]; rfl, hb.out⟩
    | some d =>
      rw [hf] at HH
      have HE := hidF (rdE_yes hy hf)
      obtain ⟨⟨_, hl⟩, hrow⟩ := hF.look_yes HS.out hf
      have hst := hrow.str
      clear hw hF hf hy hrow
      generalize V s = vs at hl hst
      go_wp2_with fail
      refine HH.out.mono ?_
      rintro e w3 ⟨rfl, rfl⟩
      go_wp2_with fail
      go_ret2
      exact ⟨by rw [HE.out]; rfl, hb.out⟩
  · have HE := hidF (rdE_bad hn s)
    have hb := hidF (blFl ((Below.refl _ _).alloc (Nat.le_refl _) _) hb (by simp))
    clear hn
    go_wp2_with fail
    go_ret2
    exact ⟨by rw [HE.out]; rfl, hb.out⟩
set_option maxRecDepth 100000 in
theorem sread15_any (vL vS vO : Value) (L S : List FlI) (O : List DqI) (s : ByteArray) (w : World) (hs : s.size ≤ 1500000) (hL : FlLe L) (hS : FlLe S) (hO : DqLe O) (h1 : FlV w vL L) (h2 : FlV w vS S) (h3 : DqV w vO O) :
    Calls Try.prog 38 #[.agg #[vL, vS, vO], .string s] w fun e w' => e = .returned (.tuple #[.string (rdE L S O s).1, .bool (rdE L S O s).2]) ∧ Below w.heap.size w w' := by
  have HDK : Hid (∀ w', Below w.heap.size w w' → Calls Try.prog 15 #[.agg #[vL, vS, vO]] w' fun e w'' => e = .returned (.bool (dkB L S O)) ∧ Below w'.heap.size w' w'') := fun w' hb => sdisk_any vL vS vO L S O w' hL hS hO (h1.below hb) (h2.below hb) (h3.below hb)
  have HAT : Hid (∀ w', Below w.heap.size w w' → Calls Try.prog 64 #[vL, .string s] w' fun e w'' => atP L s e ∧ w'' = w') := fun w' hb => sat15_any vL L s w' hL (h1.below hb).arg
  have HV : Hid (∀ i w', i < L.length → Below w.heap.size w w' → ∃ g c, vL = .slice (some ⟨g, 0, none⟩) L.length c ∧ FlRow w' g L.length (flF L)) := fun i w' hi hb => by
    rcases h1 with ⟨_, rfl⟩ | ⟨g, c, e, hr⟩
    · simp at hi
    · exact ⟨g, c, e, hr.below hb hr.lt⟩
  obtain ⟨al, cl, rfl⟩ := h1.slice
  have HB1 : Hid (Below w.heap.size w (w.alloc (.cells #[.slice al L.length cl, vS, vO] 27))) := (Below.refl _ _).alloc (Nat.le_refl _) _
  have HX1 : Hid ((w.alloc (.cells #[.slice al L.length cl, vS, vO] 27)).heap[w.heap.size]? = some (.cells #[.slice al L.length cl, vS, vO] 27 (0, 0))) := heap_alloc_new w _
  have hi : Option.map (·.size) (Try.prog.info? 27) = some 3 := by kernel_rfl
  clear hL hS hO h1 h2 h3 hs
  go_enter Try.func38, Try.ntmps38
  go_wp2_with fail
  refine (HDK.out _ HB1.out).mono ?_
  rintro e w2 ⟨rfl, hb2⟩
  have HX2 : Hid (w2.heap[w.heap.size]? = some (.cells #[.slice al L.length cl, vS, vO] 27 (0, 0))) := (hb2.block _ (Array.getElem?_eq_some_iff.1 HX1.out).1).trans HX1.out
  have HB2 := hidF (blFl HB1.out hb2 HB1.out.size)
  clear hb2 HB1 HX1
  have c0 := cell_of_row _ _ 0 _ _ _ HX2.out
  by_cases hd : diskP L S O
  rotate_left
  · have HE := hidF (rdE_bad hd s)
    rw [dkB_no hd]
    clear hd
    go_wp2_with fail
    go_ret2
    exact ⟨by rw [HE.out]; rfl, HB2.out⟩
  rw [dkB_yes hd]
  go_wp2_with fail
  refine (HAT.out _ HB2.out).mono ?_
  rintro e w3 ⟨hat, rfl⟩
  rcases hat with ⟨hf, rfl⟩ | ⟨i, hi, _, hf, rfl⟩
  · have HE := hidF (rdE_no (S := S) (O := O) hf)
    clear hd hf
    go_wp2_with fail
    go_ret2
    exact ⟨by rw [HE.out]; rfl, HB2.out⟩
  · have HE := hidF (rdE_yes hd hf)
    obtain ⟨g, c, hv, hrow⟩ := HV.out i _ hi HB2.out
    injection hv with e1 e2 e3
    subst e1 e3
    clear e2
    obtain ⟨q, hq⟩ : ∃ q, q = 2 * i := ⟨_, rfl⟩
    have x1 := hrow.c1 i hi
    rw [← hq] at x1
    have hiq : i * 2 = q := by omega
    have hltI : (i : Int) < (L.length : Int) := by omega
    have hneg : ¬ (i : Int) < 0 := by omega
    clear hrow hd hf hq
    go_wp2_with fail
    go_ret2
    exact ⟨by rw [HE.out]; rfl, HB2.out⟩
end Go.Proofs.Ytanlggglbpibfaa
