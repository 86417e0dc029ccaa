/-
  SolidOf of the code answers as the model does, at every list of members.
-/
import Derived.Test.YtbkjcngehhdchaaRows
import Derived.Test.YtbkjcngehhdchaaPk31
import Derived.Test.YtbkjcngehhdchaaSoS
import Derived.Test.YtbkjcngehhdchaaMbR
import Derived.Test.YtbkjcngehhdchaaMbE
import Derived.WalkKit
import Derived.ProofKit
import Derived.OpenShut
import Derived.ShutString
import Derived.ChangeOld
import Derived.Below
import Derived.Lib.SmallJoins
import Derived.Deep.Slices
namespace Go.Proofs.Ytbkjcngehhdchaa.fnExactSolidOf
open Go.ChangeShapes Go.WideShapes Go.ChangeAt Go.RowKit
open Go.ChangeMaps (open_string shut_string)
open Go.Deep
set_option linter.unusedVariables false
set_option linter.unusedSimpArgs false

theorem own : ownKnob Try.prog.godebug = none := by kernel_rfl
theorem laidOut : laidOutB Try.prog = true := by kernel_rfl
set_option maxRecDepth 100000 in
set_option maxHeartbeats 2000000 in
theorem walk (v : Value) (n : Nat) (F : Nat → MbI) (hm : n ≤ maxLen) (hd : ∀ i, i < n → (F i).a.size ≤ maxLen ∧ (F i).d.size ≤ maxLen) (w : World) (hv : MbIn w v n F) :
    Calls Try.prog 3 #[v] w fun e w' => e = .returned (.bool true) ∧ Below w.heap.size w w' := by
  obtain ⟨a, c, rfl, _⟩ := hv.form
  have HZ : Hid (∀ w, MbIn w (.slice a n c) n F → Calls Try.prog 8 #[.slice a n c, .int .i64 1048576] w fun e w' => e = .returned (szVMb 1048576 (n + mbTot F n)) ∧ Below w.heap.size w w') := fun w h => szMbS_any _ n 1048576 F w (Nat.le_refl _) hm hd h
  have HV : Hid (MbIn w (.slice a n c) n F) := hv
  clear hv
  by_cases hn : n + mbTot F n ≤ 1048576
  · have hF : MbLe F n := ⟨by omega, by omega⟩
    have hn1 : n ≤ 1048576 := by omega
    rw [szVMb_le hn] at HZ
    have hl : ¬ ((1048576 - (n + mbTot F n) : Nat) : Int) < 0 := by omega
    have HT : Hid (∀ w, MbIn w (.slice a n c) n F → Calls Try.prog 10 #[.slice a n c] w fun e w' => (∃ v', e = .returned v' ∧ MbArg w' v' n F) ∧ Below w.heap.size w w') := fun w h => toMbS_any _ n F w hn1 h
    have HU : Hid (∀ v w, MbArg w v n F → Calls Try.prog 11 #[v] w fun e w' => e = .returned (.tuple #[.string (soT F n), .bool (mbB F n)]) ∧ Below w.heap.size w w') := fun v w h => so_any v n F w hF h
    have HS : Hid (∀ v w, MbArg w v n F → Calls Try.prog 9 #[v] w fun e w' => e = .returned (.tuple #[.string (soT F n), .bool (mbB F n)]) ∧ Below w.heap.size w w') := fun v w h => sso_any v n F w hF h
    have HE : Hid (∀ v1 v2 w, MbArg w v1 n F → MbArg w v2 n F → Calls Try.prog 12 #[v1, v2] w fun e w' => e = .returned (.bool true) ∧ Below w.heap.size w w') := fun v1 v2 w h1 h2 => eqMbS_any v1 v2 n F w hn1 h1 h2
    generalize 1048576 - (n + mbTot F n) = L at HZ hl
    generalize (soT F n) = S0 at HU HS
    generalize (mbB F n) = B0 at HU HS
    clear hn hn1 hm hF hd
    go_enter Try.func3, Try.ntmps3
    go_wp2_with fail
    refine (HZ.out _ HV.out).mono ?_
    rintro e w1 ⟨rfl, hb1⟩
    have HV1 : Hid (MbIn w1 (.slice a n c) n F) := HV.out.below hb1
    go_wp2_with fail
    refine (HT.out _ HV1.out).mono ?_
    rintro e w2 ⟨⟨v1, rfl, h1⟩, hb2⟩
    have HV2 : Hid (MbIn w2 (.slice a n c) n F) := HV1.out.below hb2
    replace hb2 := blMb hb1 hb2 hb1.size
    clear hb1 HV1
    go_wp2_with fail
    refine (HS.out _ _ h1).mono ?_
    rintro e w3 ⟨rfl, hb3⟩
    have HV3 : Hid (MbIn w3 (.slice a n c) n F) := HV2.out.below hb3
    replace hb3 := blMb hb2 hb3 hb2.size
    clear hb2 HV2 h1
    go_wp2_with fail
    refine (HT.out _ HV3.out).mono ?_
    rintro e w4 ⟨⟨v2, rfl, h2⟩, hb4⟩
    have HV4 : Hid (MbIn w4 (.slice a n c) n F) := HV3.out.below hb4
    replace hb4 := blMb hb3 hb4 hb3.size
    clear hb3 HV3
    go_wp2_with fail
    refine (HU.out _ _ h2).mono ?_
    rintro e w5 ⟨rfl, hb5⟩
    have HV5 : Hid (MbIn w5 (.slice a n c) n F) := HV4.out.below hb5
    replace h2 := h2.below hb5
    replace hb5 := blMb hb4 hb5 hb4.size
    clear hb4 HV4
    cases B0 with
    | true =>
      go_wp2_with fail
      refine (HT.out _ HV5.out).mono ?_
      rintro e w6 ⟨⟨v3, rfl, h3⟩, hb6⟩
      replace h2 := h2.below hb6
      replace hb6 := blMb hb5 hb6 hb5.size
      clear hb5
      go_wp2_with fail
      refine (HE.out _ _ _ h2 h3).mono ?_
      rintro e w7 ⟨rfl, hb7⟩
      replace hb7 := blMb hb6 hb7 hb6.size
      go_wp2_with fail
      go_ret
      exact ⟨rfl, hb7⟩
    | false =>
      go_wp2_with fail
      refine (HT.out _ HV5.out).mono ?_
      rintro e w6 ⟨⟨v3, rfl, h3⟩, hb6⟩
      replace h2 := h2.below hb6
      replace hb6 := blMb hb5 hb6 hb5.size
      clear hb5
      go_wp2_with fail
      refine (HE.out _ _ _ h2 h3).mono ?_
      rintro e w7 ⟨rfl, hb7⟩
      replace hb7 := blMb hb6 hb7 hb6.size
      go_wp2_with fail
      go_ret
      exact ⟨rfl, hb7⟩
  · rw [szVMb_no hn] at HZ
    clear hn hm hd
    go_enter Try.func3, Try.ntmps3
    go_wp2_with fail
    refine (HZ.out _ HV.out).mono ?_
    rintro e w1 ⟨rfl, hb1⟩
    go_wp2_with fail
    go_ret
    exact ⟨rfl, hb1⟩
set_option maxRecDepth 100000 in
theorem lifted (os : Os) (started : os.Started) (H : Type) (enc : TypeId × Value → H) :
    ReturnsInHanded {} Try.checked os 3 .any (Rows.fnExactSolidOfSpec.pre6 enc Try.prog Try.f3 Rows.fnExactSolidOfRow.domain false) (Rows.fnExactSolidOfSpec.post enc Try.prog Try.f3 false true false false) := by
  refine returnsInHanded_of_change (C := Try.checked) own started (by kernel_rfl) Try.func3
    (ChangeSpec.witness6 (enc := enc) (C := Try.checked) false ⟨#[], #[.slice none 0 0], []⟩ 8 (by kernel_rfl) (by kernel_rfl) (by kernel_rfl) (by kernel_rfl)) ?_
  intro W base args ds gs before hval0 hW hcnd _
  have hval : ∀ (j : Nat) t v, Try.f3.params[j]? = some t → args[j]? = some v → Value.okWide Try.prog W .any base t v := hval0
  have hW' := hW
  obtain ⟨p, q, hA0, hV, rfl, hfz, hnd⟩ := hW
  have hA : DataW.TrodAll enc Try.prog W 0 (fun _ => true) true Try.f3.params.toList args.toList ds p := hA0
  rw [Try.params3] at hA hval
  obtain ⟨v0, vs0, d0, ds0, p0, q0, hargs, rfl, rfl, h0, r0⟩ := trodAll_cons hA
  obtain ⟨rfl, rfl, rfl⟩ := trodAll_nil r0
  obtain rfl : args = #[v0] := by cases args; simp_all
  obtain ⟨rfl, rfl⟩ := trodVars_none hV
  obtain ⟨n0, F0, hm0, hd0, hin0⟩ := read_inMb h0 (Value.okWide_any_base (hval 0 _ v0 rfl rfl))
  have k0 := h0
  have lt0 : ∀ x ∈ p0, x.block < W.heap.size := by obtain ⟨m, hm⟩ := k0; exact DataW.trod_lt m _ _ _ hm
  clear hA0 hval0
  refine (walk v0 n0 F0 hm0 hd0 W hin0).mono fun e W' ⟨he, bel⟩ => ?_
  subst he
  exact ⟨_, rfl, _, _, _, [], _, [], hW', trodAll_mk1 (shut_bool Try.underlying4 _), (trodAll_cons_mk (Below.trod laidOut (by kernel_rfl) (of_decide_eq_true (by kernel_rfl)) k0 bel lt0) trodAll_mk0), rfl, bel.frame _, fun h => by cases h⟩

theorem over : Rows.fnExactSolidOfRow.holds Try.pinned (OpenSpec.ofChange Rows.fnExactSolidOfSpec) :=
  OpenClaim.holds_of_wide 3 Try.f3 rfl rfl rfl rfl rfl rfl rfl ⟨rfl, rfl, rfl, rfl, rfl⟩ rfl rfl rfl rfl rfl (by kernel_rfl) Try.func3 (by kernel_rfl)
    (of_decide_eq_true (by kernel_rfl)) (by unfold Func.isWrapper; first | (rw [if_pos (by decide +kernel)]; kernel_rfl) | (rw [if_neg (by decide +kernel)]; exact ⟨rfl, rfl⟩))
    (fun os started H enc _ => lifted os started H enc)
theorem proved : Rows.FnExactSolidOfSaid :=
  over
#print axioms proved
end Go.Proofs.Ytbkjcngehhdchaa.fnExactSolidOf
