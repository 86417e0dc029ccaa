/-
  TreeText of the code answers as the model does, at every list of nodes.
-/
import Derived.Test.YtadimakdjndcdaqDoorRows
import Derived.Test.YtadimakdjndcdaqDoorTie
import Derived.Test.YtadimakdjndcdaqDoorCards
import Derived.Test.YtadimakdjndcdaqDoorCardKitP
import Derived.Test.YtadimakdjndcdaqDoorTxC
import Derived.Test.YtadimakdjndcdaqDoorTxS
import Derived.Test.YtadimakdjndcdaqDoorNdR
import Derived.Test.YtadimakdjndcdaqDoorNdE
import Derived.SevenTiedAt
import Derived.Stop.Joined
import Derived.Lay
import Derived.WalkKit
import Derived.ProofKit
import Derived.OpenShut
import Derived.ShutString
import Derived.ChangeOld
import Derived.Below
import Derived.Lib.SmallJoins
import Derived.Deep.Slices
namespace Go.Proofs.YtadimakdjndcdaqDoor.fnExactTreeText
open Go.ChangeShapes Go.WideShapes Go.ChangeAt Go.RowKit
open Go.ChangeMaps (open_string shut_string)
open Go.Deep
set_option linter.unusedVariables false
set_option linter.unusedSimpArgs false

theorem own : ownKnob Tryd.prog.godebug = none := by kernel_rfl
theorem laidOut : laidOutB Tryd.prog = true := by kernel_rfl
set_option maxRecDepth 100000 in
set_option maxHeartbeats 2000000 in
theorem walk (v : Value) (n : Nat) (F : Nat → NdI) (hm : n ≤ maxLen) (hd : ∀ i, i < n → (F i).p.size ≤ maxLen ∧ (F i).d.size ≤ maxLen) (w : World) (hv : NdIn w v n F) (hmx : MxL w) :
    Calls Tryd.prog 7 #[v] w fun e w' => e = .returned (.bool true) ∧ Below w.heap.size w w' := by
  obtain ⟨a, c, rfl, _⟩ := hv.form
  have HZ : Hid (∀ w, NdIn w (.slice a n c) n F → Calls Tryd.prog 9 #[.slice a n c, .int .i64 1048576] w fun e w' => e = .returned (szVNd 1048576 (n + ndTot F n)) ∧ Below w.heap.size w w') := fun w h => szNdS_any _ n 1048576 F w (Nat.le_refl _) hm hd h
  have HMX : Hid (∀ w', Below w.heap.size w w' → MxL w') := fun w' h => hmx.on h
  clear hmx
  have HV : Hid (NdIn w (.slice a n c) n F) := hv
  clear hv
  by_cases hn : n + ndTot F n ≤ 1048576
  · have hF : NdLe F n := ⟨by omega, hn⟩
    have hn1 : n ≤ 1048576 := by omega
    rw [szVNd_le hn] at HZ
    have hl : ¬ ((1048576 - (n + ndTot F n) : Nat) : Int) < 0 := by omega
    have HT : Hid (∀ w, NdIn w (.slice a n c) n F → Calls Tryd.prog 11 #[.slice a n c] w fun e w' => (∃ v', e = .returned v' ∧ NdArg w' v' n F) ∧ Below w.heap.size w w') := fun w h => toNdS_any _ n F w hn1 h
    have HU : Hid (∀ v w, MxL w → NdArg w v n F → Calls Tryd.prog 27 #[v] w fun e w' => e = .returned (.string (txV F n)) ∧ Below w.heap.size w w') := fun v w h2 h => tx_any v n F w hF h2 h
    have HS : Hid (∀ v w, NdArg w v n F → Calls Tryd.prog 26 #[v] w fun e w' => e = .returned (.string (txV F n)) ∧ Below w.heap.size w w') := fun v w h => stx_any v n F w hF h
    have HE : Hid (∀ v1 v2 w, NdArg w v1 n F → NdArg w v2 n F → Calls Tryd.prog 13 #[v1, v2] w fun e w' => e = .returned (.bool true) ∧ Below w.heap.size w w') := fun v1 v2 w h1 h2 => eqNdS_any v1 v2 n F w hn1 h1 h2
    generalize 1048576 - (n + ndTot F n) = L at HZ hl
    generalize (txV F n) = S0 at HU HS
    clear hn hn1 hm hF hd
    go_enter Tryd.func7, Tryd.ntmps7
    go_wp2_with fail
    refine (HZ.out _ HV.out).mono ?_
    rintro e w1 ⟨rfl, hb1⟩
    have HV1 : Hid (NdIn w1 (.slice a n c) n F) := HV.out.below hb1
    go_wp2_with fail
    refine (HT.out _ HV1.out).mono ?_
    rintro e w2 ⟨⟨v1, rfl, h1⟩, hb2⟩
    have HV2 : Hid (NdIn w2 (.slice a n c) n F) := HV1.out.below hb2
    replace hb2 := blNd hb1 hb2 hb1.size
    clear hb1 HV1
    go_wp2_with fail
    refine (HS.out _ _ h1).mono ?_
    rintro e w3 ⟨rfl, hb3⟩
    have HV3 : Hid (NdIn w3 (.slice a n c) n F) := HV2.out.below hb3
    replace hb3 := blNd hb2 hb3 hb2.size
    clear hb2 HV2 h1
    go_wp2_with fail
    refine (HT.out _ HV3.out).mono ?_
    rintro e w4 ⟨⟨v2, rfl, h2⟩, hb4⟩
    have HV4 : Hid (NdIn w4 (.slice a n c) n F) := HV3.out.below hb4
    replace hb4 := blNd hb3 hb4 hb3.size
    clear hb3 HV3
    go_wp2_with fail
    refine (HU.out _ _ (HMX.out _ hb4) h2).mono ?_
    rintro e w5 ⟨rfl, hb5⟩
    have HV5 : Hid (NdIn w5 (.slice a n c) n F) := HV4.out.below hb5
    replace h2 := h2.below hb5
    replace hb5 := blNd hb4 hb5 hb4.size
    clear hb4 HV4
    go_wp2_with fail
    refine (HT.out _ HV5.out).mono ?_
    rintro e w6 ⟨⟨v3, rfl, h3⟩, hb6⟩
    replace h2 := h2.below hb6
    replace hb6 := blNd hb5 hb6 hb5.size
    clear hb5
    go_wp2_with fail
    refine (HE.out _ _ _ h2 h3).mono ?_
    rintro e w7 ⟨rfl, hb7⟩
    replace hb7 := blNd hb6 hb7 hb6.size
    go_wp2_with fail
    go_ret
    exact ⟨rfl, hb7⟩
  · rw [szVNd_no hn] at HZ
    clear hn hm hd
    go_enter Tryd.func7, Tryd.ntmps7
    go_wp2_with fail
    refine (HZ.out _ HV.out).mono ?_
    rintro e w1 ⟨rfl, hb1⟩
    go_wp2_with fail
    go_ret
    exact ⟨rfl, hb1⟩
set_option maxRecDepth 100000 in
theorem lifted (os : Os) (started : os.Started) (H : Type) (enc : TypeId × Value → H) :
    ReturnsInHanded {} Tryd.checked os 7 .any (fun w args => (Rows.fnExactTreeTextSpec.pre enc Tryd.prog Tryd.f7 [] false w args ∧ laidMetH Tryd.prog [("unicode/utf8.acceptRanges", Rows.laid_unicode_utf8_acceptRanges), ("unicode/utf8.first", Rows.laid_unicode_utf8_first)] w) ∧ sizedMet enc Tryd.prog Tryd.f7 (OpenSpec.ofChange Rows.fnExactTreeTextSpec) false w args) (Rows.fnExactTreeTextSpec.post enc Tryd.prog Tryd.f7 false true false false) := by
  refine handed_laid (C := Tryd.checked) (X := fun w => laidMetH Tryd.prog [("unicode/utf8.acceptRanges", Rows.laid_unicode_utf8_acceptRanges), ("unicode/utf8.first", Rows.laid_unicode_utf8_first)] w) (fun _ _ hh h => h.of_heap hh) own started (by kernel_rfl) Tryd.func7
    (ChangeSpec.witness_shaped (enc := enc) (C := Tryd.checked) (os := os) (X := fun w _ => laidMetH Tryd.prog [("unicode/utf8.acceptRanges", Rows.laid_unicode_utf8_acceptRanges), ("unicode/utf8.first", Rows.laid_unicode_utf8_first)] w) false (World.laidAll Tryd.prog os [("unicode/utf8.acceptRanges", Rows.laid_unicode_utf8_acceptRanges), ("unicode/utf8.first", Rows.laid_unicode_utf8_first)]) #[.slice none 0 0] 8 (World.laidAll_os _ _ _) (World.shaped_of_ZipB (by kernel_rfl) (by kernel_rfl)) (by kernel_rfl) (by kernel_rfl) (by kernel_rfl) (by rw [MakeChecks.laidMetH_plain _ _ _ (by kernel_rfl)]; exact laidMet_laidAll _ (by kernel_rfl) (by kernel_rfl))) ?_
  intro W base args ds gs before hval0 hW hL hsh
  have hval : ∀ (j : Nat) t v, Tryd.f7.params[j]? = some t → args[j]? = some v → Value.okWide Tryd.prog W .any base t v := hval0
  have hW' := hW
  obtain ⟨p, q, hA0, hV, rfl, hfz, hnd⟩ := hW
  have hA : DataW.TrodAll enc Tryd.prog W 0 (fun _ => true) true Tryd.f7.params.toList args.toList ds p := hA0
  rw [Tryd.params7] at hA hval
  obtain ⟨v0, vs0, d0, ds0, p0, q0, hargs, rfl, rfl, h0, r0⟩ := trodAll_cons hA
  obtain ⟨rfl, rfl, rfl⟩ := trodAll_nil r0
  obtain rfl : args = #[v0] := by cases args; simp_all
  obtain ⟨rfl, rfl⟩ := trodVars_none hV
  have hMX : MxL W := mx_of_shape hsh
  obtain ⟨n0, F0, hm0, hd0, hin0⟩ := read_inNd h0 (Value.okWide_any_base (hval 0 _ v0 rfl rfl))
  have k0 := h0
  have lt0 : ∀ x ∈ p0, x.block < W.heap.size := by obtain ⟨m, hm⟩ := k0; exact DataW.trod_lt m _ _ _ hm
  clear hA0 hval0
  refine (walk v0 n0 F0 hm0 hd0 W hin0 hMX).mono fun e W' ⟨he, bel⟩ => ?_
  subst he
  exact ⟨_, rfl, _, _, _, [], _, [], hW', trodAll_mk1 (shut_bool Tryd.underlying4 _), (trodAll_cons_mk (Below.trod laidOut (by kernel_rfl) (of_decide_eq_true (by kernel_rfl)) k0 bel lt0) trodAll_mk0), rfl, bel.frame _, fun h => by cases h⟩

theorem over : Rows.fnExactTreeTextRow.holds Tryd.pinned (OpenSpec.ofChange Rows.fnExactTreeTextSpec) :=
  OpenClaim.holds_of_wide 7 Tryd.f7 rfl rfl rfl rfl rfl rfl rfl ⟨rfl, rfl, rfl, rfl, rfl⟩ rfl rfl rfl rfl rfl (by kernel_rfl) Tryd.func7 (by kernel_rfl)
    (of_decide_eq_true (by kernel_rfl)) (by unfold Func.isWrapper; first | (rw [if_pos (by decide +kernel)]; kernel_rfl) | (rw [if_neg (by decide +kernel)]; exact ⟨rfl, rfl⟩))
    (fun os started H enc _ => lifted os started H enc)
theorem proved : Rows.FnExactTreeTextCardSaid :=
  Claim7.holds_tied_plain_at .later [] [.data, .pinned] true (true, "f552dfa21010d99ded90aa283424382b13206170bbf226c0f91d675e655e214c") false
    over (fun _ h => by cases h) (by kernel_rfl) (fun _ h => by cases h) fnExactTreeText_row_tie rfl ⟨rfl, rfl⟩ (by kernel_rfl) rfl
    (fun f fn hf hfn => by
      obtain rfl : f = 7 := Option.some.inj ((show Tryd.prog.funcNamed "loop.example/g00228/laws.FnExactTreeText" = some 7 by kernel_rfl).symm.trans hf) |>.symm
      obtain rfl : fn = Tryd.f7 := (Option.some.inj (Tryd.func7.symm.trans hfn)).symm
      exact ⟨by kernel_rfl, fun j t ht => by
        have hall : Tryd.f7.params.all (fun t => Tryd.prog.wantsStandIn t == false) = true := by kernel_rfl
        obtain ⟨hj, rfl⟩ := Array.getElem?_eq_some_iff.1 ht
        exact beq_iff_eq.1 (Array.all_eq_true.1 hall j hj)⟩)
    (by kernel_rfl)
#print axioms proved
end Go.Proofs.YtadimakdjndcdaqDoor.fnExactTreeText
