/-
  Expand answers as its model, and its words are its own.
-/
import Derived.Test.YtgemdegdimenialRows
import Derived.Test.YtgemdegdimenialPost
import Derived.Test.YtgemdegdimenialCipExp
import Derived.WalkKit
import Derived.ProofKit
import Derived.OpenShut
import Derived.ShutString
namespace Go.Proofs.Ytgemdegdimenial.fnExactExpand
open Go.ChangeShapes Go.WideShapes Go.ChangeAt Go.RowKit
open Go.ChangeMaps (open_string shut_string)
set_option linter.unusedVariables false      -- a walk need not use every 'w<i>' (that an integer argument fits its kind)

theorem own : ownKnob Try.prog.godebug = none := by kernel_rfl


set_option maxRecDepth 100000 in
set_option maxHeartbeats 1000000 in
theorem walk (a0 : ByteArray) (w0 : a0.size ≤ maxLen) (w : World) :
    Calls Try.prog 4 #[.string a0] w fun e w' => e = .returned (.bool true) ∧ Below w.heap.size w w' := by
  by_cases hbig : (1048576 : Int) < (a0.size : Int)
  · go_enter Try.func4, Try.ntmps4
    go_wp2_with fail
    go_ret
    exact ⟨rfl, Below.refl _ _⟩
  by_cases h32 : a0.size = 32
  · have HK : Hid (a0.size = 32) := h32
    have hlt : (a0.size : Int) ≤ 1048576 := by omega
    clear hbig h32 w0
    have HB0 : Hid (Below w.heap.size w w) := Below.refl _ _
    go_enter Try.func4, Try.ntmps4
    go_wp2_with fail
    refine (sexp_any a0 _ HK.out).mono ?_
    rintro e w1 ⟨⟨g, cap, rfl, hcap, hg⟩, hb1⟩
    have HG : Hid (EW w.heap.size w1 g (kw (bsOf a0)) ∧ Below w.heap.size w w1) := ⟨hg, hb1⟩
    clear hg hb1
    go_wp2_with fail
    refine (exp_any a0 _ HK.out).mono ?_
    rintro e w2 ⟨⟨b, rfl, hE, hfz⟩, hb2⟩
    have HG2 : Hid (EW w.heap.size w2 g (kw (bsOf a0))) := HG.out.1.below hb2 HG.out.1.lt
    have HE : Hid (EW w1.heap.size w2 b (kw (bsOf a0)) ∧ (∀ j, j < 60 → w2.frozen? ⟨b, j, none⟩ = false) ∧ Below w1.heap.size w1 w2) := ⟨hE, hfz, hb2⟩
    clear hE hfz hb2
    go_wp2_with fail
    refine (eq_any b g 60 cap _ _ HE.out.1.word HG2.out.word).mono ?_
    rintro e w3 ⟨rfl, hb3⟩
    have HB3 : Hid (Below w2.heap.size w2 w3) := hb3
    clear hb3
    go_wp2_with fail
    refine (mark_any b 60 w3 ⟨Below.refl _ _, Nat.lt_of_lt_of_le HE.out.1.lt HB3.out.size, fun j hj => absurd hj (by omega), fun j hj => by rw [HB3.out.cell (p := ⟨b, j, none⟩) HE.out.1.lt, HE.out.1.word j hj]; rfl, fun j hj => by rw [HB3.out.frozen (p := ⟨b, j, none⟩) HE.out.1.lt]; exact HE.out.2.1 j hj⟩).mono ?_
    rintro e w4 ⟨rfl, hm4⟩
    have HM4 : Hid (MW w3 b 60 w4) := hm4
    clear hm4
    go_wp2_with fail
    refine (held_any b 60 w4 HM4.out.word).mono ?_
    rintro e w' ⟨rfl, hw⟩
    subst w'
    go_wp2_with fail
    refine (exp_any a0 _ HK.out).mono ?_
    rintro e w5 ⟨⟨b5, rfl, hE, hfz⟩, hb5⟩
    have HG5 : Hid (EW w.heap.size w5 g (kw (bsOf a0))) := by
      have h2 := HG2.out
      have hgb : g < b := Nat.lt_of_lt_of_le HG.out.1.lt HE.out.1.low
      exact ((h2.below HB3.out h2.lt).below HM4.out.below hgb).below hb5 (Nat.lt_trans hgb HM4.out.lt)
    have HE5 : Hid (EW w4.heap.size w5 b5 (kw (bsOf a0))) := hE
    have HM5 : Hid (∀ j, j < 60 → w5.cell? ⟨b, j, none⟩ = some (.int .u32 ((j + 1 : Nat) : Int))) := fun j hj => (hb5.cell (p := ⟨b, j, none⟩) HM4.out.lt).trans (HM4.out.word j hj)
    have HB5 : Hid (Below w.heap.size w w5) := by
      have a := HG.out.2
      have b1 := HE.out.2.2
      have c := HB3.out
      have d := HM4.out.below
      have hbl := HE.out.1.low
      have hs1 := a.size
      have hs2 := b1.size
      have hs3 := c.size
      have hs4 := d.size
      refine ⟨hb5.os.trans (d.os.trans (c.os.trans (b1.os.trans a.os))), hb5.tape.trans (d.tape.trans (c.tape.trans (b1.tape.trans a.tape))), hb5.output.trans (d.output.trans (c.output.trans (b1.output.trans a.output))), by have := hb5.size; omega, fun i hi => ?_⟩
      exact (hb5.block i (by omega)).trans ((d.block i (by omega)).trans ((c.block i (by omega)).trans ((b1.block i (by omega)).trans (a.block i hi))))
    clear hE hfz hb5 HG2 HG HE HB3 HM4
    go_wp2_with fail
    refine (eq_any b5 g 60 cap _ _ HE5.out.word HG5.out.word).mono ?_
    rintro e w6 ⟨rfl, hb6⟩
    have HM6 : Hid (∀ j, j < 60 → w6.cell? ⟨b, j, none⟩ = some (.int .u32 ((j + 1 : Nat) : Int))) := fun j hj => (hb6.cell (p := ⟨b, j, none⟩) (lt_of_cell (HM5.out j hj))).trans (HM5.out j hj)
    have HB6 : Hid (Below w.heap.size w w6) := by
      have a := HB5.out
      exact ⟨hb6.os.trans a.os, hb6.tape.trans a.tape, hb6.output.trans a.output, by have := a.size; have := hb6.size; omega, fun i hi => (hb6.block i (by have := a.size; omega)).trans (a.block i hi)⟩
    clear hb6
    go_wp2_with fail
    refine (held_any b 60 w6 HM6.out).mono ?_
    rintro e w' ⟨rfl, hw⟩
    subst w'
    go_wp2_with fail
    go_ret
    exact ⟨rfl, HB6.out⟩
  · have HK : Hid (a0.size ≠ 32) := h32
    have hlt : (a0.size : Int) ≤ 1048576 := by omega
    clear hbig h32 w0
    go_enter Try.func4, Try.ntmps4
    go_wp2_with fail
    refine (sexp_no a0 _ HK.out).mono ?_
    rintro e w' ⟨rfl, hw⟩
    subst w'
    go_wp2_with fail
    refine (exp_no a0 _ HK.out).mono ?_
    rintro e w' ⟨rfl, hw⟩
    subst w'
    go_wp2_with fail
    refine (eq_no _).mono ?_
    rintro e w' ⟨rfl, hw⟩
    subst w'
    go_wp2_with fail
    refine (mark_no _).mono ?_
    rintro e w' ⟨rfl, hw⟩
    subst w'
    go_wp2_with fail
    refine (held_no _).mono ?_
    rintro e w' ⟨rfl, hw⟩
    subst w'
    go_wp2_with fail
    refine (exp_no a0 _ HK.out).mono ?_
    rintro e w' ⟨rfl, hw⟩
    subst w'
    go_wp2_with fail
    refine (eq_no _).mono ?_
    rintro e w' ⟨rfl, hw⟩
    subst w'
    go_wp2_with fail
    refine (held_no _).mono ?_
    rintro e w' ⟨rfl, hw⟩
    subst w'
    go_wp2_with fail
    go_ret
    exact ⟨rfl, Below.refl _ _⟩

set_option maxRecDepth 100000 in
theorem lifted (os : Os) (started : os.Started) (H : Type) (enc : TypeId × Value → H) :
    ReturnsInHanded {} Try.checked os 4 .any (Rows.fnExactExpandSpec.pre6 enc Try.prog Try.f4 Rows.fnExactExpandRow.domain false) (Rows.fnExactExpandSpec.post enc Try.prog Try.f4 false true false false) := by
  refine returnsInHanded_of_change (C := Try.checked) own started (by kernel_rfl) Try.func4
    (ChangeSpec.witness6 (enc := enc) (C := Try.checked) false ⟨#[], #[.string ByteArray.empty], []⟩ 8 (by kernel_rfl) (by kernel_rfl) (by kernel_rfl) (by kernel_rfl)) ?_
  intro W base args ds gs before hval0 hW hcnd _
  have hval : ∀ (j : Nat) t v, Try.f4.params[j]? = some t → args[j]? = some v → Value.okWide Try.prog W .any base t v := hval0
  have hW' := hW
  obtain ⟨p, q, hA0, hV, rfl, hfz, hnd⟩ := hW
  have hA : DataW.TrodAll enc Try.prog W 0 (fun _ => true) true Try.f4.params.toList args.toList ds p := hA0
  rw [Try.params4] at hA hval
  obtain ⟨v0, vs0, d0, ds0, p0, q0, hargs, rfl, rfl, h0, r0⟩ := trodAll_cons hA
  obtain ⟨rfl, rfl, rfl⟩ := trodAll_nil r0
  obtain rfl : args = #[v0] := by cases args; simp_all
  obtain ⟨rfl, rfl⟩ := trodVars_none hV
  obtain ⟨a0, rfl, rfl, rfl, w0⟩ := open_string Try.underlying9 (hval 0 9 v0 rfl rfl) h0
  clear hA0 hval0
  simp only [List.append_nil] at hW'
  refine (walk a0 w0 W).mono fun e W' ⟨he, hg⟩ => ?_
  subst he
  exact ⟨_, rfl, post_of_below (pa := []) (pv := []) hW' (fun _ _ _ => (trodAll_cons_mk (shut_bool Try.underlying4 _) trodAll_mk0)) (fun sp _ => (trodAll_cons_mk (shut_string Try.underlying9 w0) trodAll_mk0)) (fun _ _ => rfl) rfl
    hg (ok_one (by kernel_rfl) rfl (okWide_bool_mk Try.underlying4 _))⟩

theorem over : Rows.fnExactExpandRow.holds Try.pinned (OpenSpec.ofChange Rows.fnExactExpandSpec) :=
  OpenClaim.holds_of_wide 4 Try.f4 rfl rfl rfl rfl rfl rfl rfl ⟨rfl, rfl, rfl, rfl, rfl⟩ rfl rfl rfl rfl rfl (by kernel_rfl) Try.func4 (by kernel_rfl)
    (of_decide_eq_true (by kernel_rfl)) (by unfold Func.isWrapper; first | (rw [if_pos (by decide +kernel)]; kernel_rfl) | (rw [if_neg (by decide +kernel)]; exact ⟨rfl, rfl⟩))
    (fun os started H enc _ => lifted os started H enc)

theorem proved : Rows.FnExactExpandSaid :=
  over
#print axioms proved
end Go.Proofs.Ytgemdegdimenial.fnExactExpand
