/-
  Under, the code and the specification alike
-/
import Derived.Test.YtfegoldjejlcaaaDoorRows
import Derived.Test.YtfegoldjejlcaaaDoorTie
import Derived.Test.YtfegoldjejlcaaaDoorCards
import Derived.Test.YtfegoldjejlcaaaDoorCardKitP
import Derived.Test.YtfegoldjejlcaaaDoorUdS
import Derived.Test.YtfegoldjejlcaaaDoorToNdO
import Derived.Test.YtfegoldjejlcaaaDoorNdR
import Derived.Test.YtfegoldjejlcaaaDoorNdE
import Derived.SevenTiedAt
import Derived.Stop.Joined
import Derived.Lay
import Derived.WalkKit
import Derived.ProofKit
import Derived.OpenShut
import Derived.ShutString
import Derived.ChangeOld
import Derived.Below
import Derived.Lib.SmallJoins
import Derived.Deep.Slices
namespace Go.Proofs.YtfegoldjejlcaaaDoor.fnExactUnder
open Go.ChangeShapes Go.WideShapes Go.ChangeAt Go.RowKit
open Go.ChangeMaps (open_string shut_string)
open Go.Deep
set_option linter.unusedVariables false
set_option linter.unusedSimpArgs false

theorem own : ownKnob Tryd.prog.godebug = none := by kernel_rfl
theorem laidOut : laidOutB Tryd.prog = true := by kernel_rfl
set_option maxRecDepth 100000 in
set_option maxHeartbeats 8000000 in
theorem walkM (v0 : Value) (n0 K0 : Nat) (F0 : Nat → NdI) (s1 : ByteArray) (L : List NdI) (w : World) (hL : L.length ≤ 900) (hmx : MxL w)
    (hCS : ∀ x0 w, NdArg w x0 n0 F0 → Calls Tryd.prog 13 #[x0, .string s1] w fun e w' => (∃ v, e = .returned v ∧ w'.ownsRow w.heap.size 30 4 v L.length (ndC L)) ∧ Below w.heap.size w w')
    (hCI : ∀ x0 w, MxL w → NdArg w x0 n0 F0 → Calls Tryd.prog 11 #[x0, .string s1] w fun e w' => (∃ v, e = .returned v ∧ w'.ownsRow w.heap.size 30 4 v L.length (ndC L)) ∧ Below w.heap.size w w')
    (hv0 : NdIn w v0 n0 F0) (hn0 : n0 ≤ 1048576) (hs0 : ∀ w', Below w.heap.size w w' → Calls Tryd.prog 27 #[v0, .int .i64 1048576] w' fun e w'' => e = .returned (.int .i64 (K0 : Int)) ∧ Below w'.heap.size w' w'')
    (hb1 : ¬ 1048576 < s1.size)
    : Calls Tryd.prog 6 #[v0, .string s1] w fun e w' => e = .returned (.bool true) ∧ Below w.heap.size w w' := by
  have HCS := hid hCS
  have HCI := hid hCI
  have HMX : Hid (∀ w', Below w.heap.size w w' → MxL w') := fun w' h => hmx.on h
  have HT0 : Hid (∀ w, NdIn w v0 n0 F0 → Calls Tryd.prog 28 #[v0] w fun e w' => (∃ v', e = .returned v' ∧ NdArg w' v' n0 F0 ∧ NdO w' w.heap.size w'.heap.size v' n0) ∧ Below w.heap.size w w') := fun w h => toNdO_any v0 n0 F0 w hn0 h
  have HE0 : Hid (∀ v1 v2 w, NdArg w v1 n0 F0 → NdArg w v2 n0 F0 → Calls Tryd.prog 29 #[v1, v2] w fun e w' => e = .returned (.bool true) ∧ Below w.heap.size w w') := fun v1 v2 w h1 h2 => eqNdS_any v1 v2 n0 F0 w hn0 h1 h2
  have HS0 := hid hs0
  have HEL : Hid (∀ v1 v2 w, NdArg w v1 L.length (ndF L) → NdArg w v2 L.length (ndF L) → Calls Tryd.prog 29 #[v1, v2] w fun e w' => e = .returned (.bool true) ∧ Below w.heap.size w w') := fun v1 v2 w h1 h2 => eqNdS_any v1 v2 L.length (ndF L) w (by omega) h1 h2
  have HLL : Hid (L.length ≤ 900 ∧ n0 ≤ 1048576) := ⟨hL, hn0⟩
  have HV : Hid (∀ w', Below w.heap.size w w' → NdIn w' v0 n0 F0) := fun w' hb => hv0.below hb
  obtain ⟨sa0, ca0, rfl, _⟩ := hv0.form
  have hk0 : ¬ (K0 : Int) < 0 := by omega
  have hbi1 : ¬ (1048576 : Int) < (s1.size : Int) := by omega
  clear hv0 hn0 hs0 hL hmx hCS hCI hb1
  go_enter Tryd.func6, Tryd.ntmps6
  have HB0 := hid (Below.refl w.heap.size w)
  go_wp2_with fail
  refine (HS0.out _ HB0.out).mono ?_
  rintro e q1 ⟨rfl, hb⟩
  have HB1 := hid (blNd HB0.out hb HB0.out.size)
  clear hb HB0
  go_wp2_with fail
  refine (HT0.out _ (HV.out _ HB1.out)).mono ?_
  rintro e q2 ⟨⟨y0, rfl, h1, _⟩, hb⟩
  have HY0 := hid h1
  have HB2 := hid (blNd HB1.out hb HB1.out.size)
  clear hb h1 HB1
  have HWS := hid HB2.out.size
  go_wp2_with fail
  refine (HCS.out _ _ HY0.out).mono ?_
  rintro e q3 ⟨⟨v3, rfl, ho⟩, hb⟩
  have HO := hid ho
  have HPO := hid (own4_NdO ho)
  have HB3 := hid (blNd HB2.out hb HB2.out.size)
  have hz3 := hb.size
  clear hb ho HB2 HY0
  go_wp2_with fail
  refine (HT0.out _ (HV.out _ HB3.out)).mono ?_
  rintro e q4 ⟨⟨x0, rfl, hx, hxo⟩, hb⟩
  have HX0 := hid hx
  have HXO0 := hid hxo
  replace HO := hid (own_callK HO.out hb)
  replace HPO := hid (HPO.out.kept ((Kp.refl _ []).below hb) (by simp))
  have HB4 := hid (blNd HB3.out hb HB3.out.size)
  have hz4 := hb.size
  clear hb hx hxo HB3
  go_wp2_with fail
  refine (HCI.out _ _ (HMX.out _ HB4.out) HX0.out).mono ?_
  rintro e q5 ⟨⟨g0, rfl, ho⟩, hb⟩
  have HG := hid (own4_arg ho)
  have HGO := hid (own4_NdO ho)
  have HVV := hid (own4_arg (own_callK HO.out hb))
  have HVO := hid (HPO.out.kept ((Kp.refl _ []).below hb) (by simp))
  replace HXO0 := hid (HXO0.out.kept ((Kp.refl _ []).below hb) (by simp))
  replace HX0 := hid (HX0.out.below hb)
  have HB5 := hid (blNd HB4.out hb HB4.out.size)
  have hz5 := hb.size
  have HSS : Hid (q2.heap.size ≤ q3.heap.size ∧ q3.heap.size ≤ q4.heap.size ∧ q4.heap.size ≤ q5.heap.size ∧ w.heap.size ≤ q3.heap.size) := ⟨hz3, hz4, hz5, Nat.le_trans HWS.out hz3⟩
  clear hb ho HO HPO HB4 hz3 hz4 hz5 HWS
  go_wp2_with fail
  refine (HEL.out _ _ _ HG.out HVV.out).mono ?_
  rintro e q6 ⟨rfl, hb⟩
  have HK := hid ((Kp.refl q5 []).below hb)
  have HB6 := hid (blNd HB5.out hb HB5.out.size)
  clear hb HB5
  go_wp2_with fail
  refine (HT0.out _ (HV.out _ HB6.out)).mono ?_
  rintro e q7 ⟨⟨t0, rfl, ht, _⟩, hb⟩
  replace HK := hid (HK.out.below hb)
  have HB7 := hid (blNd HB6.out hb HB6.out.size)
  have HEQ := hid (HE0.out _ _ _ (HX0.out.kept HXO0.out HK.out (by simp)) ht)
  clear hb ht HB6
  go_wp2_with fail
  refine HEQ.out.mono ?_
  rintro e q8 ⟨rfl, hb⟩
  replace HK := hid (HK.out.below hb)
  have HB8 := hid (blNd HB7.out hb HB7.out.size)
  clear hb HB7 HEQ
  obtain ⟨m0, hm0⟩ : ∃ m0 : Nat, m0 = 1 + 4 * n0 := ⟨_, rfl⟩
  obtain ⟨kk, hkk⟩ : ∃ kk : Nat, kk = 1 + 4 * L.length := ⟨_, rfl⟩
  have HM0 : Hid (∀ w', Kp q5 w' [] → Below w.heap.size w w' → Calls Tryd.prog 30 #[x0, .int .i64 1] w' fun e w'' => (e = .returned (.int .i64 (m0 : Int)) ∧ MkLNd w'' x0 n0 1) ∧ Kp q5 w'' [(q3.heap.size, q4.heap.size)] ∧ Below w.heap.size w w'') := fun w' hk hb => by
    have hs := HSS.out
    have hl := HLL.out
    rw [hm0]; exact markNdL_any x0 n0 1 q3.heap.size q4.heap.size w' q5 [] (by omega) (by omega) (by omega) (HXO0.out.kept hk (by simp)) hk hb (by omega) hk.size
  have HMG : Hid (∀ w', Kp q5 w' [(q3.heap.size, q4.heap.size)] → Below w.heap.size w w' → Calls Tryd.prog 30 #[g0, .int .i64 1] w' fun e w'' => (e = .returned (.int .i64 (kk : Int)) ∧ MkLNd w'' g0 L.length 1) ∧ Kp q5 w'' [(q4.heap.size, q5.heap.size), (q3.heap.size, q4.heap.size)] ∧ Below w.heap.size w w'') := fun w' hk hb => by
    have hs := HSS.out
    have hl := HLL.out
    rw [hkk]; exact markNdL_any g0 L.length 1 q4.heap.size q5.heap.size w' q5 _ (by omega) (by omega) (by omega) (HGO.out.kept hk (by intro b hb; simp at hb; subst hb; left; show _ ≤ _; omega)) hk hb (by omega) hk.size
  have HHG : Hid (∀ w', MkLNd w' g0 L.length 1 → Calls Tryd.prog 31 #[g0, .int .i64 1] w' fun e w'' => e = .returned (.int .i64 (kk : Int)) ∧ Below w'.heap.size w' w'') := fun w' hm => by
    have hl := HLL.out
    rw [hkk]; exact heldNdL_any g0 L.length 1 w' (by omega) (by omega) (by omega) hm
  have HEG : Hid (∀ w', Kp q5 w' [(q3.heap.size, q4.heap.size)] → Calls Tryd.prog 29 #[g0, v3] w' fun e w'' => e = .returned (.bool true) ∧ Below w'.heap.size w' w'') := fun w' hk => by
    have hs := HSS.out
    exact HEL.out _ _ _ (HG.out.kept HGO.out hk (by intro b hb; simp at hb; subst hb; left; show _ ≤ _; omega)) (HVV.out.kept HVO.out hk (by intro b hb; simp at hb; subst hb; right; show _ ≤ _; omega))
  have HVG : Hid (∀ w', Kp q5 w' [(q4.heap.size, q5.heap.size), (q3.heap.size, q4.heap.size)] → NdArg w' v3 L.length (ndF L)) := fun w' hk => by
    have hs := HSS.out
    exact HVV.out.kept HVO.out hk (by intro b hb; simp at hb; rcases hb with rfl | rfl <;> (right; show _ ≤ _; omega))
  have hkn : ¬ (kk : Int) < 0 := by omega
  have hmn : ¬ (m0 : Int) < 0 := by omega
  clear hm0 hkk HX0 HXO0 HG HGO HVV HVO
  go_wp2_with fail
  refine (HM0.out _ HK.out HB8.out).mono ?_
  rintro e q9 ⟨⟨rfl, _⟩, hk, hb⟩
  replace HK := hid hk
  have HB9 := hid hb
  clear hk hb HM0 HB8
  go_wp2_with fail
  refine (HEG.out _ HK.out).mono ?_
  rintro e q10 ⟨rfl, hb⟩
  replace HK := hid (HK.out.below hb)
  have HB10 := hid (blNd HB9.out hb HB9.out.size)
  clear hb HB9
  go_wp2_with fail
  refine (HMG.out _ HK.out HB10.out).mono ?_
  rintro e q11 ⟨⟨rfl, hm⟩, hk, hb⟩
  replace HK := hid hk
  have HB11 := hid hb
  have HMM := hid hm
  clear hk hb hm HMG HEG HB10
  go_wp2_with fail
  refine (HHG.out _ HMM.out).mono ?_
  rintro e q12 ⟨rfl, hb⟩
  replace HK := hid (HK.out.below hb)
  replace HMM := hid (HMM.out.below hb)
  have HB12 := hid (blNd HB11.out hb HB11.out.size)
  clear hb HB11
  go_wp2_with fail
  refine (HT0.out _ (HV.out _ HB12.out)).mono ?_
  rintro e q13 ⟨⟨z0, rfl, ht, _⟩, hb⟩
  replace HK := hid (HK.out.below hb)
  replace HMM := hid (HMM.out.below hb)
  have HZ0 := hid ht
  clear ht
  have HB13 := hid (blNd HB12.out hb HB12.out.size)
  clear hb HB12
  go_wp2_with fail
  refine (HCI.out _ _ (HMX.out _ HB13.out) HZ0.out).mono ?_
  rintro e q14 ⟨⟨h0, rfl, ho⟩, hb⟩
  replace HK := hid (HK.out.below hb)
  replace HMM := hid (HMM.out.below hb)
  have HEQ := hid (HEL.out _ _ _ (own4_arg ho) (HVG.out _ HK.out))
  clear ho HZ0
  have HB14 := hid (blNd HB13.out hb HB13.out.size)
  clear hb HB13
  go_wp2_with fail
  refine HEQ.out.mono ?_
  rintro e q15 ⟨rfl, hb⟩
  replace HMM := hid (HMM.out.below hb)
  clear HEQ
  have HB15 := hid (blNd HB14.out hb HB14.out.size)
  clear hb HB14
  go_wp2_with fail
  refine (HHG.out _ HMM.out).mono ?_
  rintro e q16 ⟨rfl, hb⟩
  have HB16 := hid (blNd HB15.out hb HB15.out.size)
  clear hb HB15
  go_wp2_with fail
  go_ret
  exact ⟨rfl, HB16.out⟩
set_option maxRecDepth 100000 in
set_option maxHeartbeats 2000000 in
theorem walk (v0 : Value) (n0 : Nat) (F0 : Nat → NdI) (hm0 : n0 ≤ maxLen) (hd0 : ∀ i, i < n0 → (F0 i).p.size ≤ maxLen ∧ (F0 i).d.size ≤ maxLen) (s1 : ByteArray) (hsm1 : s1.size ≤ maxLen) (w : World) (hv0 : NdIn w v0 n0 F0) (hmx : MxL w) :
    Calls Tryd.prog 6 #[v0, .string s1] w fun e w' => e = .returned (.bool true) ∧ Below w.heap.size w w' := by
  by_cases hbs1 : 1048576 < s1.size
  · obtain ⟨sa0, ca0, rfl, _⟩ := hv0.form
    have hbi1 : (1048576 : Int) < (s1.size : Int) := by omega
    clear hm0 hd0 hv0 hsm1 hmx
    go_enter Tryd.func6, Tryd.ntmps6
    go_wp2_with fail
    go_ret
    exact ⟨rfl, Below.refl _ _⟩
  ·
    have HS0 : Hid (∀ w', Below w.heap.size w w' → Calls Tryd.prog 27 #[v0, .int .i64 1048576] w' fun e w'' => e = .returned (szVNd 1048576 (n0 + ndTot F0 n0)) ∧ Below w'.heap.size w' w'') := fun w' hb => szNdS_any v0 n0 1048576 F0 w' (by omega) hm0 hd0 (hv0.below hb)
    by_cases hz0 : n0 + ndTot F0 n0 ≤ 1048576
    · obtain ⟨K0, hK0⟩ : ∃ K0, K0 = 1048576 - (n0 + ndTot F0 n0) := ⟨_, rfl⟩
      rw [szVNd_le hz0, ← hK0] at HS0
      have HF0 : NdLe F0 n0 := ⟨by omega, by omega⟩
      exact walkM v0 n0 K0 F0 s1 (unA F0 n0 s1) w (by have := unA_len F0 n0 s1; omega) hmx (fun x0 w h0 => sund_any x0 n0 F0 s1 w HF0 (by omega) h0) (fun x0 w hmw h0 => und_any x0 n0 F0 s1 w hmw HF0 (by omega) h0) hv0 (by omega) HS0.out hbs1
    · rw [szVNd_no hz0] at HS0
      obtain ⟨sa0, ca0, rfl, _⟩ := hv0.form
      have hbi1 : ¬ (1048576 : Int) < (s1.size : Int) := by omega
      clear hm0 hd0 hv0 hsm1 hmx hz0 hbs1
      go_enter Tryd.func6, Tryd.ntmps6
      go_wp2_with fail
      refine (HS0.out _ (Below.refl _ _)).mono ?_
      rintro e w0 ⟨rfl, hb0⟩
      go_wp2_with fail
      go_ret
      exact ⟨rfl, hb0⟩
set_option maxRecDepth 100000 in
theorem lifted (os : Os) (started : os.Started) (H : Type) (enc : TypeId × Value → H) :
    ReturnsInHanded {} Tryd.checked os 6 .any (fun w args => (Rows.fnExactUnderSpec.pre enc Tryd.prog Tryd.f6 [] false w args ∧ laidMetH Tryd.prog [("unicode/utf8.acceptRanges", Rows.laid_unicode_utf8_acceptRanges), ("unicode/utf8.first", Rows.laid_unicode_utf8_first)] w) ∧ sizedMet enc Tryd.prog Tryd.f6 (OpenSpec.ofChange Rows.fnExactUnderSpec) false w args) (Rows.fnExactUnderSpec.post enc Tryd.prog Tryd.f6 false true false false) := by
  refine handed_laid (C := Tryd.checked) (X := fun w => laidMetH Tryd.prog [("unicode/utf8.acceptRanges", Rows.laid_unicode_utf8_acceptRanges), ("unicode/utf8.first", Rows.laid_unicode_utf8_first)] w) (fun _ _ hh h => h.of_heap hh) own started (by kernel_rfl) Tryd.func6
    (ChangeSpec.witness_shaped (enc := enc) (C := Tryd.checked) (os := os) (X := fun w _ => laidMetH Tryd.prog [("unicode/utf8.acceptRanges", Rows.laid_unicode_utf8_acceptRanges), ("unicode/utf8.first", Rows.laid_unicode_utf8_first)] w) false (World.laidAll Tryd.prog os [("unicode/utf8.acceptRanges", Rows.laid_unicode_utf8_acceptRanges), ("unicode/utf8.first", Rows.laid_unicode_utf8_first)]) #[.slice none 0 0, .string ByteArray.empty] 8 (World.laidAll_os _ _ _) (World.shaped_of_ZipB (by kernel_rfl) (by kernel_rfl)) (by kernel_rfl) (by kernel_rfl) (by kernel_rfl) (by rw [MakeChecks.laidMetH_plain _ _ _ (by kernel_rfl)]; exact laidMet_laidAll _ (by kernel_rfl) (by kernel_rfl))) ?_
  intro W base args ds gs before hval0 hW hL hsh
  have hval : ∀ (j : Nat) t v, Tryd.f6.params[j]? = some t → args[j]? = some v → Value.okWide Tryd.prog W .any base t v := hval0
  have hW' := hW
  obtain ⟨p, q, hA0, hV, rfl, hfz, hnd⟩ := hW
  have hA : DataW.TrodAll enc Tryd.prog W 0 (fun _ => true) true Tryd.f6.params.toList args.toList ds p := hA0
  rw [Tryd.params6] at hA hval
  obtain ⟨v0, vs0, d0, ds0, p0, q0, hargs, rfl, rfl, h0, r0⟩ := trodAll_cons hA
  obtain ⟨v1, vs1, d1, ds1, p1, q1, rfl, rfl, rfl, h1, r1⟩ := trodAll_cons r0
  obtain ⟨rfl, rfl, rfl⟩ := trodAll_nil r1
  obtain rfl : args = #[v0, v1] := by cases args; simp_all
  obtain ⟨rfl, rfl⟩ := trodVars_none hV
  have hMX : MxL W := mx_of_shape hsh
  obtain ⟨n0, F0, hm0, hd0, hin0⟩ := read_inNd h0 (Value.okWide_any_base (hval 0 _ v0 rfl rfl))
  have k0 := h0
  have lt0 : ∀ x ∈ p0, x.block < W.heap.size := by obtain ⟨m, hm⟩ := k0; exact DataW.trod_lt m _ _ _ hm
  obtain ⟨a1, rfl, rfl, rfl, w1⟩ := open_string Tryd.underlying9 (hval 1 _ v1 rfl rfl) h1
  clear hA0 hval0
  refine (walk v0 n0 F0 hm0 hd0 a1 w1 W hin0 hMX).mono fun e W' ⟨he, bel⟩ => ?_
  subst he
  exact ⟨_, rfl, _, _, _, [], _, [], hW', trodAll_mk1 (shut_bool Tryd.underlying4 _), (trodAll_cons_mk (Below.trod laidOut (by kernel_rfl) (of_decide_eq_true (by kernel_rfl)) k0 bel lt0) (trodAll_cons_mk (shut_string Tryd.underlying9 w1) trodAll_mk0)), rfl, bel.frame _, fun h => by cases h⟩

theorem over : Rows.fnExactUnderRow.holds Tryd.pinned (OpenSpec.ofChange Rows.fnExactUnderSpec) :=
  OpenClaim.holds_of_wide 6 Tryd.f6 rfl rfl rfl rfl rfl rfl rfl ⟨rfl, rfl, rfl, rfl, rfl⟩ rfl rfl rfl rfl rfl (by kernel_rfl) Tryd.func6 (by kernel_rfl)
    (of_decide_eq_true (by kernel_rfl)) (by unfold Func.isWrapper; first | (rw [if_pos (by decide +kernel)]; kernel_rfl) | (rw [if_neg (by decide +kernel)]; exact ⟨rfl, rfl⟩))
    (fun os started H enc _ => lifted os started H enc)
theorem proved : Rows.FnExactUnderCardSaid :=
  Claim7.holds_tied_plain_at .later [] [.data, .pinned] true (true, "035472ad97aa82c5e00724a87885a4d71eec7f57e226dfe30d186398433c0bb3") false
    over (fun _ h => by cases h) (by kernel_rfl) (fun _ h => by cases h) fnExactUnder_row_tie rfl ⟨rfl, rfl⟩ (by kernel_rfl) rfl
    (fun f fn hf hfn => by
      obtain rfl : f = 6 := Option.some.inj ((show Tryd.prog.funcNamed "loop.example/g00228/laws.FnExactUnder" = some 6 by kernel_rfl).symm.trans hf) |>.symm
      obtain rfl : fn = Tryd.f6 := (Option.some.inj (Tryd.func6.symm.trans hfn)).symm
      exact ⟨by kernel_rfl, fun j t ht => by
        have hall : Tryd.f6.params.all (fun t => Tryd.prog.wantsStandIn t == false) = true := by kernel_rfl
        obtain ⟨hj, rfl⟩ := Array.getElem?_eq_some_iff.1 ht
        exact beq_iff_eq.1 (Array.all_eq_true.1 hall j hj)⟩)
    (by kernel_rfl)
#print axioms proved
end Go.Proofs.YtfegoldjejlcaaaDoor.fnExactUnder
