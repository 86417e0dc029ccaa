/-
  ChainBytes of the code answers as the model does: at every list of links.
-/
import Derived.Test.YtpeddaljgmkomaaRows
import Derived.Test.YtpeddaljgmkomaaCb
import Derived.Test.YtpeddaljgmkomaaLkL
import Derived.Test.YtpeddaljgmkomaaLkR
import Derived.Test.YtpeddaljgmkomaaLkB
import Derived.WalkKit
import Derived.ProofKit
import Derived.OpenShut
import Derived.ShutString
import Derived.ChangeOld
import Derived.Below
import Derived.Lib.SmallJoins
import Derived.Deep.Slices
namespace Go.Proofs.Ytpeddaljgmkomaa.fnExactChainBytes
open Go.ChangeShapes Go.WideShapes Go.ChangeAt Go.RowKit
open Go.ChangeMaps (open_string shut_string)
open Go.Deep
set_option linter.unusedVariables false
set_option linter.unusedSimpArgs false

theorem own : ownKnob Try.prog.godebug = none := by kernel_rfl
theorem laidOut : laidOutB Try.prog = true := by kernel_rfl
set_option maxRecDepth 100000 in
set_option maxHeartbeats 2000000 in
theorem walk (v : Value) (L : List LkI) (hm : L.length ≤ maxLen) (hz : ∀ x ∈ L, LkZ x) (w : World) (hv : Rd w (lksD L) v) :
    Calls Try.prog 9 #[v] w fun e w' => e = .returned (.bool true) ∧ Below w.heap.size w w' := by
  obtain ⟨a, n, c, rfl, _⟩ := hv.slice
  have HZ : Hid (∀ w, Rd w (lksD L) (.slice a n c) → Calls Try.prog 13 #[.slice a n c, .int .i64 1048576] w fun e w' => e = .returned (szV 1048576 (lkN L)) ∧ Below w.heap.size w w') := fun w h => szLkS_deep _ L 1048576 w (Nat.le_refl _) hm hz h
  have HV : Hid (Rd w (lksD L) (.slice a n c)) := hv
  clear hv
  by_cases hn : lkN L ≤ 1048576
  · obtain ⟨hL, hn1, hp1⟩ := lkLe_of hz hn
    rw [szV_le hn] at HZ
    have hl : ¬ ((1048576 - lkN L : Nat) : Int) < 0 := by omega
    have HT : Hid (∀ w, Rd w (lksD L) (.slice a n c) → Calls Try.prog 15 #[.slice a n c] w fun e w' => (∃ v', e = .returned v' ∧ Own w' w.heap.size (lksD L) v') ∧ Below w.heap.size w w') := fun w h => toLkS_deep _ L w hn1 hp1 h
    have HE : Hid (∀ v1 v2 b1 b2 w, Hd w (lksD L) v1 b1 → Hd w (lksD L) v2 b2 → Calls Try.prog 17 #[v1, v2] w fun e w' => e = .returned (.bool true) ∧ Below w.heap.size w w') := fun v1 v2 b1 b2 w h1 h2 => eqLkS_deep v1 v2 L b1 b2 w hn1 hp1 h1 h2
    have HU : Hid (∀ v bs w, Hd w (lksD L) v bs → Calls Try.prog 31 #[v] w fun e w' => e = .returned (.int .i64 (cbI L)) ∧ Below w.heap.size w w') := fun v bs w h => cb_any v L bs w hL h
    have HS : Hid (∀ v bs w, Hd w (lksD L) v bs → Calls Try.prog 30 #[v] w fun e w' => e = .returned (.int .i64 (cbI L)) ∧ Below w.heap.size w w') := fun v bs w h => scb_any v L bs w hL h
    generalize (cbI L) = r0 at HU HS
    generalize 1048576 - lkN L = M at HZ hl
    clear hn hn1 hp1 hm hL hz
    go_enter Try.func9, Try.ntmps9
    go_wp2_with fail
    refine (HZ.out _ HV.out).mono ?_
    rintro e w1 ⟨rfl, hb1⟩
    have HV1 := dhid (HV.out.under hb1)
    have HB1 := dhid hb1
    clear hb1 HV
    go_wp2_with fail
    refine (HT.out _ HV1.out).mono ?_
    rintro e w2 ⟨⟨v1, rfl, b1, h1, _⟩, hb2⟩
    have HV2 := dhid (HV1.out.under hb2)
    have HB2 := dhid (dblow HB1.out hb2 HB1.out.size)
    clear hb2 HV1 HB1
    go_wp2_with fail
    refine (HS.out _ _ _ h1).mono ?_
    rintro e w3 ⟨rfl, hb3⟩
    have HV3 := dhid (HV2.out.under hb3)
    have HB3 := dhid (dblow HB2.out hb3 HB2.out.size)
    clear hb3 HV2 HB2 h1
    go_wp2_with fail
    refine (HT.out _ HV3.out).mono ?_
    rintro e w4 ⟨⟨v2, rfl, b2, h2, _⟩, hb4⟩
    have HV4 := dhid (HV3.out.under hb4)
    have HB4 := dhid (dblow HB3.out hb4 HB3.out.size)
    have H2 := dhid h2
    clear hb4 HV3 HB3 h2
    go_wp2_with fail
    refine (HU.out _ _ _ H2.out).mono ?_
    rintro e w5 ⟨rfl, hb5⟩
    have HV5 := dhid (HV4.out.under hb5)
    have H25 := dhid (H2.out.under hb5)
    have HB5 := dhid (dblow HB4.out hb5 HB4.out.size)
    clear hb5 HV4 HB4 H2
    go_wp2_with fail
    refine (HT.out _ HV5.out).mono ?_
    rintro e w6 ⟨⟨v3, rfl, b3, h3, _⟩, hb6⟩
    have H26 := dhid (H25.out.under hb6)
    have HB6 := dhid (dblow HB5.out hb6 HB5.out.size)
    clear hb6 HB5 H25 HV5
    go_wp2_with fail
    refine (HE.out _ _ _ _ _ H26.out h3).mono ?_
    rintro e w7 ⟨rfl, hb7⟩
    have HB7 := dhid (dblow HB6.out hb7 HB6.out.size)
    clear hb7
    go_wp2_with fail
    go_ret
    exact ⟨rfl, HB7.out⟩
  · rw [szV_no hn] at HZ
    clear hn hm hz
    go_enter Try.func9, Try.ntmps9
    go_wp2_with fail
    refine (HZ.out _ HV.out).mono ?_
    rintro e w1 ⟨rfl, hb1⟩
    go_wp2_with fail
    go_ret
    exact ⟨rfl, hb1⟩
set_option maxRecDepth 100000 in
theorem lifted (os : Os) (started : os.Started) (H : Type) (enc : TypeId × Value → H) :
    ReturnsInHanded {} Try.checked os 9 .any (Rows.fnExactChainBytesSpec.pre6 enc Try.prog Try.f9 Rows.fnExactChainBytesRow.domain false) (Rows.fnExactChainBytesSpec.post enc Try.prog Try.f9 false true false false) := by
  refine returnsInHanded_of_change (C := Try.checked) own started (by kernel_rfl) Try.func9
    (ChangeSpec.witness6 (enc := enc) (C := Try.checked) false ⟨#[], #[.slice none 0 0], []⟩ 8 (by kernel_rfl) (by kernel_rfl) (by kernel_rfl) (by kernel_rfl)) ?_
  intro W base args ds gs before hval0 hW hcnd _
  have hval : ∀ (j : Nat) t v, Try.f9.params[j]? = some t → args[j]? = some v → Value.okWide Try.prog W .any base t v := hval0
  have hW' := hW
  obtain ⟨p, q, hA0, hV, rfl, hfz, hnd⟩ := hW
  have hA : DataW.TrodAll enc Try.prog W 0 (fun _ => true) true Try.f9.params.toList args.toList ds p := hA0
  rw [Try.params9] at hA hval
  obtain ⟨v0, vs0, d0, ds0, p0, q0, hargs, rfl, rfl, h0, r0⟩ := trodAll_cons hA
  obtain ⟨rfl, rfl, rfl⟩ := trodAll_nil r0
  obtain rfl : args = #[v0] := by cases args; simp_all
  obtain ⟨rfl, rfl⟩ := trodVars_none hV
  obtain ⟨L0, hm0, hz0, hr0⟩ := read_inLk h0 (Value.okWide_any_base (hval 0 _ v0 rfl rfl))
  have k0 := h0
  have lt0 : ∀ x ∈ p0, x.block < W.heap.size := by obtain ⟨m, hm⟩ := k0; exact DataW.trod_lt m _ _ _ hm
  clear hA0 hval0
  refine (walk v0 L0 hm0 hz0 W hr0).mono fun e W' ⟨he, bel⟩ => ?_
  subst he
  exact ⟨_, rfl, _, _, _, [], _, [], hW', trodAll_mk1 (shut_bool Try.underlying4 _), (trodAll_cons_mk (Below.trod laidOut (by kernel_rfl) (of_decide_eq_true (by kernel_rfl)) k0 bel lt0) trodAll_mk0), rfl, bel.frame _, fun h => by cases h⟩

theorem over : Rows.fnExactChainBytesRow.holds Try.pinned (OpenSpec.ofChange Rows.fnExactChainBytesSpec) :=
  OpenClaim.holds_of_wide 9 Try.f9 rfl rfl rfl rfl rfl rfl rfl ⟨rfl, rfl, rfl, rfl, rfl⟩ rfl rfl rfl rfl rfl (by kernel_rfl) Try.func9 (by kernel_rfl)
    (of_decide_eq_true (by kernel_rfl)) (by unfold Func.isWrapper; first | (rw [if_pos (by decide +kernel)]; kernel_rfl) | (rw [if_neg (by decide +kernel)]; exact ⟨rfl, rfl⟩))
    (fun os started H enc _ => lifted os started H enc)
theorem proved : Rows.FnExactChainBytesSaid :=
  over
#print axioms proved
end Go.Proofs.Ytpeddaljgmkomaa.fnExactChainBytes
