/-
  DeltaOf: the program answers as the specification.
-/
import Derived.Test.YtibciflmalfbjaaRows
import Derived.Test.YtibciflmalfbjaaDoC
import Derived.Test.YtibciflmalfbjaaDoS
import Derived.Test.YtibciflmalfbjaaEqPc
import Derived.Test.YtibciflmalfbjaaPMk
import Derived.WalkKit
import Derived.ProofKit
import Derived.OpenShut
import Derived.ShutString
import Derived.ChangeOld
import Derived.Below
import Derived.Lib.SmallJoins
import Derived.Deep.Slices
namespace Go.Proofs.Ytibciflmalfbjaa.fnExactDeltaOf
open Go.ChangeShapes Go.WideShapes Go.ChangeAt Go.RowKit
open Go.ChangeMaps (open_string shut_string)
open Go.Deep
set_option linter.unusedVariables false
set_option linter.unusedSimpArgs false

theorem own : ownKnob Try.prog.godebug = none := by kernel_rfl
theorem laidOut : laidOutB Try.prog = true := by kernel_rfl
set_option maxRecDepth 100000 in
set_option maxHeartbeats 4000000 in
theorem walkL (o s : ByteArray) (w : World) (R : Option (List PcI)) (hR : (R.getD []).length ≤ 500)
    (hA : ∀ w, Calls Try.prog 12 #[.string o, .string s] w fun e w' => DoPost w R e w') (hB : ∀ w, Calls Try.prog 13 #[.string o, .string s] w fun e w' => DoPost w R e w') (ho : o.size ≤ 1048576) (hs : s.size ≤ 1048576) :
    Calls Try.prog 5 #[.string o, .string s] w fun e w' => e = .returned (.bool true) ∧ Below w.heap.size w w' := by
  obtain ⟨b, hb⟩ : ∃ b, b = R.isSome := ⟨_, rfl⟩
  obtain ⟨L, hL⟩ : ∃ L, L = R.getD [] := ⟨_, rfl⟩
  have HA : Hid (∀ w, Calls Try.prog 12 #[.string o, .string s] w fun e w' => (∃ v, e = .returned (.tuple #[v, .bool b]) ∧ w'.ownsRow w.heap.size 39 3 v L.length (pcC L)) ∧ Below w.heap.size w w') := by rw [hb, hL]; exact hA
  have HB : Hid (∀ w, Calls Try.prog 13 #[.string o, .string s] w fun e w' => (∃ v, e = .returned (.tuple #[v, .bool b]) ∧ w'.ownsRow w.heap.size 39 3 v L.length (pcC L)) ∧ Below w.heap.size w w') := by rw [hb, hL]; exact hB
  rw [← hL] at hR
  clear hb hL hA hB
  have HE : Hid (∀ v1 v2 w, PcArg w v1 L.length (pcF L) → PcArg w v2 L.length (pcF L) → Calls Try.prog 14 #[v1, v2] w fun e w' => e = .returned (.bool true) ∧ Below w.heap.size w w') := fun v1 v2 w h1 h2 => eqPcS_any v1 v2 L.length (pcF L) w (by omega) h1 h2
  go_enter Try.func5, Try.ntmps5
  go_wp2_with fail
  refine (HA.out _).mono ?_
  rintro e w1 ⟨⟨v1, rfl, ho1⟩, hb1⟩
  have HP1 := hid (own3_arg ho1)
  have HB1 := hid hb1
  clear ho1 hb1
  go_wp2_with fail
  refine (HB.out _).mono ?_
  rintro e w2 ⟨⟨v2, rfl, ho2⟩, hb2⟩
  have HP2 := hid (own3_arg ho2)
  have HO2 := hid ho2
  have HB2 := hid hb2
  have HEE := hid (HE.out v2 v1 w2 HP2.out (HP1.out.below hb2))
  clear ho2 hb2
  by_cases hn0 : 0 < L.length
  · obtain ⟨g2, c2, cur2, rfl, hg2, hr2, hs2, _⟩ := own3_form HO2.out hn0
    have HG2 : Hid (w1.heap.size ≤ g2 ∧ w2.heap[g2]? = some (.cells cur2 39 (0, 0)) ∧ 3 * L.length ≤ cur2.size) := ⟨hg2, hr2, hs2⟩
    obtain ⟨n, hn⟩ : ∃ n, n = L.length := ⟨_, rfl⟩
    rw [← hn] at hR hn0 HEE HG2 HP1 HP2 HE HO2 HA HB ⊢
    have hxs : Hid (n = L.length) := hn
    obtain ⟨K, hK⟩ : ∃ K : Nat, K = 1 + 3 * n := ⟨_, rfl⟩
    have HM : Hid (∀ w cur, w.heap[g2]? = some (.cells cur 39 (0, 0)) → 3 * n ≤ cur.size → Calls Try.prog 15 #[.slice (some ⟨g2, 0, none⟩) n c2, .int .i64 1] w fun e w' => (e = .returned (.int .i64 (K : Int)) ∧ MkAt w' g2 n 1) ∧ w.grownBy w' (some g2)) := fun w cur h1 h2 => by
      rw [hK]; exact markP_any g2 c2 n 1 cur w (by omega) (by omega) (by omega) h1 h2
    have HH : Hid (∀ w, g2 < w.heap.size → MkAt w g2 n 1 → Calls Try.prog 16 #[.slice (some ⟨g2, 0, none⟩) n c2, .int .i64 1] w fun e w' => e = .returned (.int .i64 (K : Int)) ∧ Below w.heap.size w w') := fun w h1 h2 => by
      rw [hK]; exact heldP_any g2 c2 n 1 w (by omega) (by omega) (by omega) h1 h2
    have hkk : ¬ (K : Int) < 0 := by omega
    clear hg2 hr2 hs2 hn HO2 hK
    go_wp2_with fail
    refine HEE.out.mono ?_
    rintro e w3 ⟨rfl, hb3⟩
    have hr3 := (hb3.block _ (Array.getElem?_eq_some_iff.1 HG2.out.2.1).1).trans HG2.out.2.1
    have HR3 := hid hr3
    have HB3 := hid (bl3 HB2.out hb3 HB2.out.size)
    have HG3 : Hid (w1.heap.size ≤ g2 ∧ 3 * n ≤ cur2.size) := ⟨HG2.out.1, HG2.out.2.2⟩
    clear hb3 hr3 HEE HG2 HB2 HP2
    cases b with
    | true =>
      go_wp2_with fail
      refine (HM.out _ _ HR3.out HG3.out.2).mono ?_
      rintro e w4 ⟨⟨rfl, hmk⟩, hgr⟩
      have HB4 := hid ((HB3.out).grown hgr HB3.out.size (fun k hk => by have := Option.some.inj hk; have := HG3.out.1; omega))
      have HMK := hid hmk
      have HL4 : Hid (g2 < w4.heap.size) := Nat.lt_of_lt_of_le (Array.getElem?_eq_some_iff.1 HR3.out).1 hgr.size
      clear hmk hgr HB3 HR3
      go_wp2_with fail
      refine (HH.out _ HL4.out HMK.out).mono ?_
      rintro e w5 ⟨rfl, hb5⟩
      have HB5 := hid (bl3 HB4.out hb5 HB4.out.size)
      have HMK5 := hid (HMK.out.below hb5 HL4.out)
      have HL5 : Hid (g2 < w5.heap.size) := Nat.lt_of_lt_of_le HL4.out hb5.size
      clear hb5 HB4 HMK HL4
      go_wp2_with fail
      refine (HB.out _).mono ?_
      rintro e w6 ⟨⟨v3, rfl, ho3⟩, hb6⟩
      have HB6 := hid (bl3 HB5.out hb6 HB5.out.size)
      have HMK6 := hid (HMK5.out.below hb6 HL5.out)
      have HL6 : Hid (g2 < w6.heap.size) := Nat.lt_of_lt_of_le HL5.out hb6.size
      rw [hxs.out] at ho3
      have HP3 := hid (own3_arg ho3)
      rw [← hxs.out] at HP3
      have HE3 := hid (HE.out v3 v1 w6 HP3.out (HP1.out.below HB6.out))
      clear hb6 HB5 HMK5 HL5 ho3 HP3
      go_wp2_with fail
      refine HE3.out.mono ?_
      rintro e w7 ⟨rfl, hb7⟩
      have HB7 := hid (bl3 HB6.out hb7 HB6.out.size)
      have HMK7 := hid (HMK6.out.below hb7 HL6.out)
      have HL7 : Hid (g2 < w7.heap.size) := Nat.lt_of_lt_of_le HL6.out hb7.size
      clear hb7 HB6 HMK6 HL6 HE3
      go_wp2_with fail
      refine (HH.out _ HL7.out HMK7.out).mono ?_
      rintro e w8 ⟨rfl, hb8⟩
      have HB8 := hid (bl3 HB7.out hb8 HB7.out.size)
      clear hb8 HB7
      go_wp2_with fail
      go_ret
      exact ⟨rfl, bl3 HB1.out HB8.out HB1.out.size⟩
    | false =>
      go_wp2_with fail
      refine (HM.out _ _ HR3.out HG3.out.2).mono ?_
      rintro e w4 ⟨⟨rfl, hmk⟩, hgr⟩
      have HB4 := hid ((HB3.out).grown hgr HB3.out.size (fun k hk => by have := Option.some.inj hk; have := HG3.out.1; omega))
      have HMK := hid hmk
      have HL4 : Hid (g2 < w4.heap.size) := Nat.lt_of_lt_of_le (Array.getElem?_eq_some_iff.1 HR3.out).1 hgr.size
      clear hmk hgr HB3 HR3
      go_wp2_with fail
      refine (HH.out _ HL4.out HMK.out).mono ?_
      rintro e w5 ⟨rfl, hb5⟩
      have HB5 := hid (bl3 HB4.out hb5 HB4.out.size)
      have HMK5 := hid (HMK.out.below hb5 HL4.out)
      have HL5 : Hid (g2 < w5.heap.size) := Nat.lt_of_lt_of_le HL4.out hb5.size
      clear hb5 HB4 HMK HL4
      go_wp2_with fail
      refine (HB.out _).mono ?_
      rintro e w6 ⟨⟨v3, rfl, ho3⟩, hb6⟩
      have HB6 := hid (bl3 HB5.out hb6 HB5.out.size)
      have HMK6 := hid (HMK5.out.below hb6 HL5.out)
      have HL6 : Hid (g2 < w6.heap.size) := Nat.lt_of_lt_of_le HL5.out hb6.size
      rw [hxs.out] at ho3
      have HP3 := hid (own3_arg ho3)
      rw [← hxs.out] at HP3
      have HE3 := hid (HE.out v3 v1 w6 HP3.out (HP1.out.below HB6.out))
      clear hb6 HB5 HMK5 HL5 ho3 HP3
      go_wp2_with fail
      refine HE3.out.mono ?_
      rintro e w7 ⟨rfl, hb7⟩
      have HB7 := hid (bl3 HB6.out hb7 HB6.out.size)
      have HMK7 := hid (HMK6.out.below hb7 HL6.out)
      have HL7 : Hid (g2 < w7.heap.size) := Nat.lt_of_lt_of_le HL6.out hb7.size
      clear hb7 HB6 HMK6 HL6 HE3
      go_wp2_with fail
      refine (HH.out _ HL7.out HMK7.out).mono ?_
      rintro e w8 ⟨rfl, hb8⟩
      have HB8 := hid (bl3 HB7.out hb8 HB7.out.size)
      clear hb8 HB7
      go_wp2_with fail
      go_ret
      exact ⟨rfl, bl3 HB1.out HB8.out HB1.out.size⟩
  · obtain ⟨n, hn⟩ : ∃ n, n = L.length := ⟨_, rfl⟩
    rw [← hn] at hR hn0 HP1 HP2 HE HO2 HA HB
    have hxs : Hid (n = L.length) := hn
    obtain rfl : n = 0 := by omega
    obtain ⟨a2, c2, rfl⟩ := own3_slice HO2.out
    have HM : Hid (∀ w, Calls Try.prog 15 #[.slice a2 0 c2, .int .i64 1] w fun e w' => e = .returned (.int .i64 1) ∧ w' = w) := fun w => markP_zero a2 c2 1 w
    have HH : Hid (∀ w, Calls Try.prog 16 #[.slice a2 0 c2, .int .i64 1] w fun e w' => e = .returned (.int .i64 1) ∧ w' = w) := fun w => heldP_zero a2 c2 1 w
    clear hn HO2
    go_wp2_with fail
    refine HEE.out.mono ?_
    rintro e w3 ⟨rfl, hb3⟩
    have HB3 := hid (bl3 HB2.out hb3 HB2.out.size)
    clear hb3 HEE HB2 HP2
    cases b with
    | true =>
      go_wp2_with fail
      refine (HM.out _).mono ?_
      rintro e w4 ⟨rfl, hw4⟩
      subst w4
      go_wp2_with fail
      refine (HH.out _).mono ?_
      rintro e w4 ⟨rfl, hw4⟩
      subst w4
      go_wp2_with fail
      refine (HB.out _).mono ?_
      rintro e w6 ⟨⟨v3, rfl, ho3⟩, hb6⟩
      have HB6 := hid (bl3 HB3.out hb6 HB3.out.size)
      rw [hxs.out] at ho3
      have HP3 := hid (own3_arg ho3)
      rw [← hxs.out] at HP3
      have HE3 := hid (HE.out v3 v1 w6 HP3.out (HP1.out.below HB6.out))
      clear hb6 HB3 ho3 HP3
      go_wp2_with fail
      refine HE3.out.mono ?_
      rintro e w7 ⟨rfl, hb7⟩
      have HB7 := hid (bl3 HB6.out hb7 HB6.out.size)
      clear hb7 HB6 HE3
      go_wp2_with fail
      refine (HH.out _).mono ?_
      rintro e w8 ⟨rfl, hw8⟩
      subst w8
      go_wp2_with fail
      go_ret
      exact ⟨rfl, bl3 HB1.out HB7.out HB1.out.size⟩
    | false =>
      go_wp2_with fail
      refine (HM.out _).mono ?_
      rintro e w4 ⟨rfl, hw4⟩
      subst w4
      go_wp2_with fail
      refine (HH.out _).mono ?_
      rintro e w4 ⟨rfl, hw4⟩
      subst w4
      go_wp2_with fail
      refine (HB.out _).mono ?_
      rintro e w6 ⟨⟨v3, rfl, ho3⟩, hb6⟩
      have HB6 := hid (bl3 HB3.out hb6 HB3.out.size)
      rw [hxs.out] at ho3
      have HP3 := hid (own3_arg ho3)
      rw [← hxs.out] at HP3
      have HE3 := hid (HE.out v3 v1 w6 HP3.out (HP1.out.below HB6.out))
      clear hb6 HB3 ho3 HP3
      go_wp2_with fail
      refine HE3.out.mono ?_
      rintro e w7 ⟨rfl, hb7⟩
      have HB7 := hid (bl3 HB6.out hb7 HB6.out.size)
      clear hb7 HB6 HE3
      go_wp2_with fail
      refine (HH.out _).mono ?_
      rintro e w8 ⟨rfl, hw8⟩
      subst w8
      go_wp2_with fail
      go_ret
      exact ⟨rfl, bl3 HB1.out HB7.out HB1.out.size⟩

set_option maxRecDepth 100000 in
theorem walk (o : ByteArray) (wo : o.size ≤ maxLen) (s : ByteArray) (ws : s.size ≤ maxLen) (w : World) :
    Calls Try.prog 5 #[.string o, .string s] w fun e w' => e = .returned (.bool true) ∧ Below w.heap.size w w' := by
  unfold maxLen at wo ws
  by_cases hbig : 1048576 < o.size
  · go_enter Try.func5, Try.ntmps5
    go_wp2_with fail
    go_ret
    exact ⟨rfl, Below.refl _ _⟩
  · by_cases hbig2 : 1048576 < s.size
    · go_enter Try.func5, Try.ntmps5
      go_wp2_with fail
      go_ret
      exact ⟨rfl, Below.refl _ _⟩
    · exact walkL o s w (doD o s) (doD_len o s) (fun w => sdos_any o s w (by omega) (by omega)) (fun w => do_any o s w (by omega) (by omega)) (by omega) (by omega)
set_option maxRecDepth 100000 in
theorem lifted (os : Os) (started : os.Started) (H : Type) (enc : TypeId × Value → H) :
    ReturnsInHanded {} Try.checked os 5 .any (Rows.fnExactDeltaOfSpec.pre6 enc Try.prog Try.f5 Rows.fnExactDeltaOfRow.domain false) (Rows.fnExactDeltaOfSpec.post enc Try.prog Try.f5 false true false false) := by
  refine returnsInHanded_of_change (C := Try.checked) own started (by kernel_rfl) Try.func5
    (ChangeSpec.witness6 (enc := enc) (C := Try.checked) false ⟨#[], #[.string ByteArray.empty, .string ByteArray.empty], []⟩ 8 (by kernel_rfl) (by kernel_rfl) (by kernel_rfl) (by kernel_rfl)) ?_
  intro W base args ds gs before hval0 hW hcnd _
  have hval : ∀ (j : Nat) t v, Try.f5.params[j]? = some t → args[j]? = some v → Value.okWide Try.prog W .any base t v := hval0
  have hW' := hW
  obtain ⟨p, q, hA0, hV, rfl, hfz, hnd⟩ := hW
  have hA : DataW.TrodAll enc Try.prog W 0 (fun _ => true) true Try.f5.params.toList args.toList ds p := hA0
  rw [Try.params5] at hA hval
  obtain ⟨v0, vs0, d0, ds0, p0, q0, hargs, rfl, rfl, h0, r0⟩ := trodAll_cons hA
  obtain ⟨v1, vs1, d1, ds1, p1, q1, rfl, rfl, rfl, h1, r1⟩ := trodAll_cons r0
  obtain ⟨rfl, rfl, rfl⟩ := trodAll_nil r1
  obtain rfl : args = #[v0, v1] := by cases args; simp_all
  obtain ⟨rfl, rfl⟩ := trodVars_none hV
  obtain ⟨a0, rfl, rfl, rfl, w0⟩ := open_string Try.underlying9 (hval 0 _ v0 rfl rfl) h0
  obtain ⟨a1, rfl, rfl, rfl, w1⟩ := open_string Try.underlying9 (hval 1 _ v1 rfl rfl) h1
  clear hA0 hval0
  refine (walk a0 w0 a1 w1 W ).mono fun e W' ⟨he, bel⟩ => ?_
  subst he
  exact ⟨_, rfl, _, _, _, [], _, [], hW', trodAll_mk1 (shut_bool Try.underlying4 _), (trodAll_cons_mk (shut_string Try.underlying9 w0) (trodAll_cons_mk (shut_string Try.underlying9 w1) trodAll_mk0)), rfl, bel.frame _, fun h => by cases h⟩

theorem over : Rows.fnExactDeltaOfRow.holds Try.pinned (OpenSpec.ofChange Rows.fnExactDeltaOfSpec) :=
  OpenClaim.holds_of_wide 5 Try.f5 rfl rfl rfl rfl rfl rfl rfl ⟨rfl, rfl, rfl, rfl, rfl⟩ rfl rfl rfl rfl rfl (by kernel_rfl) Try.func5 (by kernel_rfl)
    (of_decide_eq_true (by kernel_rfl)) (by unfold Func.isWrapper; first | (rw [if_pos (by decide +kernel)]; kernel_rfl) | (rw [if_neg (by decide +kernel)]; exact ⟨rfl, rfl⟩))
    (fun os started H enc _ => lifted os started H enc)
theorem proved : Rows.FnExactDeltaOfSaid :=
  over
#print axioms proved
end Go.Proofs.Ytibciflmalfbjaa.fnExactDeltaOf
