/-
  RangeEncode of the code answers as the model does: at every list of choices.
-/
import Derived.Test.YtckpnggjboafpamRows
import Derived.Test.YtckpnggjboafpamRngSt
import Derived.Test.YtckpnggjboafpamToCh
import Derived.Test.YtckpnggjboafpamRdCh
import Derived.WalkKit
import Derived.ProofKit
import Derived.OpenShut
import Derived.ShutString
import Derived.ChangeOld
import Derived.Below
import Derived.Lib.SmallJoins
import Derived.Deep.Slices
namespace Go.Proofs.Ytckpnggjboafpam.fnExactRangeEncode
open Go.ChangeShapes Go.WideShapes Go.ChangeAt Go.RowKit
open Go.ChangeMaps (open_string shut_string)
open Go.Deep
set_option linter.unusedVariables false
set_option linter.unusedSimpArgs false

theorem own : ownKnob Try.prog.godebug = none := by kernel_rfl
theorem laidOut : laidOutB Try.prog = true := by kernel_rfl
theorem szC_yes {n : Nat} (h : n ≤ 1048576) : (if n ≤ 1048576 then ((1048576 - n : Nat) : Int) else -1) = ((1048576 - n : Nat) : Int) := if_pos h
theorem szC_no {n : Nat} (h : ¬ n ≤ 1048576) : (if n ≤ 1048576 then ((1048576 - n : Nat) : Int) else -1) = -1 := if_neg h
set_option maxRecDepth 100000 in
set_option maxHeartbeats 2000000 in
theorem walk (v : Value) (n : Nat) (F : Nat → Int × Int) (hm : n ≤ maxLen) (w : World) (hv : ChIn w v n F) :
    Calls Try.prog 3 #[v] w fun e w' => e = .returned (.bool true) ∧ Below w.heap.size w w' := by
  obtain ⟨a, c, rfl, _⟩ := hv.form
  have HZ : Hid (∀ w, Calls Try.prog 8 #[.slice a n c, .int .i64 1048576] w fun e w' => e = .returned (.int .i64 (if n ≤ 1048576 then ((1048576 - n : Nat) : Int) else -1)) ∧ w' = w) := fun w => szCh_any a n c w hm
  have HV : Hid (ChIn w (.slice a n c) n F) := hv
  clear hv
  by_cases hn : n ≤ 1048576
  · rw [szC_yes hn] at HZ
    have hl : ¬ ((1048576 - n : Nat) : Int) < 0 := by omega
    have HT : Hid (∀ w, ChIn w (.slice a n c) n F → Calls Try.prog 10 #[.slice a n c] w fun e w' => (∃ v', e = .returned v' ∧ ChArg w' v' n F) ∧ Below w.heap.size w w') := fun w h => toChS_any _ n F w hn h
    have HU : Hid (∀ v w, ChArg w v n F → Calls Try.prog 11 #[v] w fun e w' => e = .returned (.tuple #[.string (encAns F n), .bool (encIs F n)]) ∧ Below w.heap.size w w') := fun v w h => encode_any v n F w h
    have HS : Hid (∀ v w, ChArg w v n F → Calls Try.prog 9 #[v] w fun e w' => e = .returned (.tuple #[.string (encAns F n), .bool (encIs F n)]) ∧ Below w.heap.size w w') := fun v w h => sencR_any v n F w h
    have HE : Hid (∀ v1 v2 w, ChArg w v1 n F → ChArg w v2 n F → Calls Try.prog 12 #[v1, v2] w fun e w' => e = .returned (.bool true) ∧ Below w.heap.size w w') := fun v1 v2 w h1 h2 => eqChS_any v1 v2 n F w hn h1 h2
    generalize 1048576 - n = L at HZ hl
    generalize encIs F n = b at HU HS
    generalize encAns F n = R at HU HS
    clear hn hm
    go_enter Try.func3, Try.ntmps3
    go_wp2_with fail
    refine (HZ.out _).mono ?_
    rintro e w1 ⟨rfl, rfl⟩
    go_wp2_with fail
    refine (HT.out _ HV.out).mono ?_
    rintro e w2 ⟨⟨v1, rfl, h1⟩, hb2⟩
    have HV2 : Hid (ChIn w2 (.slice a n c) n F) := HV.out.below hb2
    go_wp2_with fail
    refine (HS.out _ _ h1).mono ?_
    rintro e w3 ⟨rfl, hb3⟩
    have HV3 : Hid (ChIn w3 (.slice a n c) n F) := HV2.out.below hb3
    replace hb3 := blC hb2 hb3 hb2.size
    clear hb2 HV2 h1
    go_wp2_with fail
    refine (HT.out _ HV3.out).mono ?_
    rintro e w4 ⟨⟨v2, rfl, h2⟩, hb4⟩
    have HV4 : Hid (ChIn w4 (.slice a n c) n F) := HV3.out.below hb4
    replace hb4 := blC hb3 hb4 hb3.size
    clear hb3 HV3
    go_wp2_with fail
    refine (HU.out _ _ h2).mono ?_
    rintro e w5 ⟨rfl, hb5⟩
    have HV5 : Hid (ChIn w5 (.slice a n c) n F) := HV4.out.below hb5
    replace h2 := h2.below hb5
    replace hb5 := blC hb4 hb5 hb4.size
    clear hb4 HV4
    cases b with
    | true =>
      go_wp2_with fail
      refine (HT.out _ HV5.out).mono ?_
      rintro e w6 ⟨⟨v3, rfl, h3⟩, hb6⟩
      replace h2 := h2.below hb6
      replace hb6 := blC hb5 hb6 hb5.size
      clear hb5
      go_wp2_with fail
      refine (HE.out _ _ _ h2 h3).mono ?_
      rintro e w7 ⟨rfl, hb7⟩
      replace hb7 := blC hb6 hb7 hb6.size
      go_wp2_with fail
      go_ret
      exact ⟨rfl, hb7⟩
    | false =>
      go_wp2_with fail
      refine (HT.out _ HV5.out).mono ?_
      rintro e w6 ⟨⟨v3, rfl, h3⟩, hb6⟩
      replace h2 := h2.below hb6
      replace hb6 := blC hb5 hb6 hb5.size
      clear hb5
      go_wp2_with fail
      refine (HE.out _ _ _ h2 h3).mono ?_
      rintro e w7 ⟨rfl, hb7⟩
      replace hb7 := blC hb6 hb7 hb6.size
      go_wp2_with fail
      go_ret
      exact ⟨rfl, hb7⟩
  · rw [szC_no hn] at HZ
    clear hn hm
    go_enter Try.func3, Try.ntmps3
    go_wp2_with fail
    refine (HZ.out _).mono ?_
    rintro e w1 ⟨rfl, rfl⟩
    go_wp2_with fail
    go_ret
    exact ⟨rfl, Below.refl _ _⟩
set_option maxRecDepth 100000 in
theorem lifted (os : Os) (started : os.Started) (H : Type) (enc : TypeId × Value → H) :
    ReturnsInHanded {} Try.checked os 3 .any (Rows.fnExactRangeEncodeSpec.pre6 enc Try.prog Try.f3 Rows.fnExactRangeEncodeRow.domain false) (Rows.fnExactRangeEncodeSpec.post enc Try.prog Try.f3 false true false false) := by
  refine returnsInHanded_of_change (C := Try.checked) own started (by kernel_rfl) Try.func3
    (ChangeSpec.witness6 (enc := enc) (C := Try.checked) false ⟨#[], #[.slice none 0 0], []⟩ 8 (by kernel_rfl) (by kernel_rfl) (by kernel_rfl) (by kernel_rfl)) ?_
  intro W base args ds gs before hval0 hW hcnd _
  have hval : ∀ (j : Nat) t v, Try.f3.params[j]? = some t → args[j]? = some v → Value.okWide Try.prog W .any base t v := hval0
  have hW' := hW
  obtain ⟨p, q, hA0, hV, rfl, hfz, hnd⟩ := hW
  have hA : DataW.TrodAll enc Try.prog W 0 (fun _ => true) true Try.f3.params.toList args.toList ds p := hA0
  rw [Try.params3] at hA hval
  obtain ⟨v0, vs0, d0, ds0, p0, q0, hargs, rfl, rfl, h0, r0⟩ := trodAll_cons hA
  obtain ⟨rfl, rfl, rfl⟩ := trodAll_nil r0
  obtain rfl : args = #[v0] := by cases args; simp_all
  obtain ⟨rfl, rfl⟩ := trodVars_none hV
  obtain ⟨n0, F0, hm0, hin0⟩ := read_inCh h0 (Value.okWide_any_base (hval 0 _ v0 rfl rfl))
  have k0 := h0
  have lt0 : ∀ x ∈ p0, x.block < W.heap.size := by obtain ⟨m, hm⟩ := k0; exact DataW.trod_lt m _ _ _ hm
  clear hA0 hval0
  refine (walk v0 n0 F0 hm0 W hin0).mono fun e W' ⟨he, bel⟩ => ?_
  subst he
  exact ⟨_, rfl, _, _, _, [], _, [], hW', trodAll_mk1 (shut_bool Try.underlying4 _), (trodAll_cons_mk (Below.trod laidOut (by kernel_rfl) (of_decide_eq_true (by kernel_rfl)) k0 bel lt0) trodAll_mk0), rfl, bel.frame _, fun h => by cases h⟩

theorem over : Rows.fnExactRangeEncodeRow.holds Try.pinned (OpenSpec.ofChange Rows.fnExactRangeEncodeSpec) :=
  OpenClaim.holds_of_wide 3 Try.f3 rfl rfl rfl rfl rfl rfl rfl ⟨rfl, rfl, rfl, rfl, rfl⟩ rfl rfl rfl rfl rfl (by kernel_rfl) Try.func3 (by kernel_rfl)
    (of_decide_eq_true (by kernel_rfl)) (by unfold Func.isWrapper; first | (rw [if_pos (by decide +kernel)]; kernel_rfl) | (rw [if_neg (by decide +kernel)]; exact ⟨rfl, rfl⟩))
    (fun os started H enc _ => lifted os started H enc)
theorem proved : Rows.FnExactRangeEncodeSaid :=
  over
#print axioms proved
end Go.Proofs.Ytckpnggjboafpam.fnExactRangeEncode
