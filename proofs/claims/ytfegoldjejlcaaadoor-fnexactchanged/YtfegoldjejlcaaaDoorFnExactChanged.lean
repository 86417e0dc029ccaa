/-
  Changed answers at every two lists of nodes as its model in verifier/spec does: the same paths, in memory of their own; neither list is written into. (The tables of the library are laid as the program holds them; the one variable that a path may read may hold any number.)
-/
import Derived.Test.YtfegoldjejlcaaaDoorRows
import Derived.Test.YtfegoldjejlcaaaDoorTie
import Derived.Test.YtfegoldjejlcaaaDoorCards
import Derived.Test.YtfegoldjejlcaaaDoorCardKitP
import Derived.Test.YtfegoldjejlcaaaDoorChgS
import Derived.Test.YtfegoldjejlcaaaDoorToNdO
import Derived.Test.YtfegoldjejlcaaaDoorToStO
import Derived.Test.YtfegoldjejlcaaaDoorNdR
import Derived.Test.YtfegoldjejlcaaaDoorNdE
import Derived.SevenTiedAt
import Derived.Stop.Joined
import Derived.Lay
import Derived.WalkKit
import Derived.ProofKit
import Derived.OpenShut
import Derived.ShutString
import Derived.ChangeOld
import Derived.Below
import Derived.Lib.SmallJoins
import Derived.Deep.Slices
namespace Go.Proofs.YtfegoldjejlcaaaDoor.fnExactChanged
open Go.ChangeShapes Go.WideShapes Go.ChangeAt Go.RowKit
open Go.ChangeMaps (open_string shut_string)
open Go.Deep
set_option linter.unusedVariables false
set_option linter.unusedSimpArgs false

theorem own : ownKnob Tryd.prog.godebug = none := by kernel_rfl
theorem laidOut : laidOutB Tryd.prog = true := by kernel_rfl
set_option maxRecDepth 100000 in
set_option maxHeartbeats 8000000 in
theorem walkM (v0 : Value) (n0 K0 : Nat) (F0 : Nat → NdI) (v1 : Value) (n1 K1 : Nat) (F1 : Nat → NdI)  (L : List ByteArray) (w : World) (hL : L.length ≤ 900) (hmx : MxL w)
    (hCS : ∀ x0 x1 w, NdArg w x0 n0 F0 → NdArg w x1 n1 F1 → Calls Tryd.prog 19 #[x0, x1] w fun e w' => (∃ v, e = .returned v ∧ w'.ownsRow w.heap.size 9 1 v L.length (stC L)) ∧ Below w.heap.size w w')
    (hCI : ∀ x0 x1 w, MxL w → NdArg w x0 n0 F0 → NdArg w x1 n1 F1 → Calls Tryd.prog 17 #[x0, x1] w fun e w' => (∃ v, e = .returned v ∧ w'.ownsRow w.heap.size 9 1 v L.length (stC L)) ∧ Below w.heap.size w w')
    (hv0 : NdIn w v0 n0 F0) (hn0 : n0 ≤ 1048576) (hs0 : ∀ w', Below w.heap.size w w' → Calls Tryd.prog 27 #[v0, .int .i64 1048576] w' fun e w'' => e = .returned (.int .i64 (K0 : Int)) ∧ Below w'.heap.size w' w'')
    (hv1 : NdIn w v1 n1 F1) (hn1 : n1 ≤ 1048576) (hs1 : ∀ w', Below w.heap.size w w' → Calls Tryd.prog 27 #[v1, .int .i64 (K0 : Int)] w' fun e w'' => e = .returned (.int .i64 (K1 : Int)) ∧ Below w'.heap.size w' w'')
    : Calls Tryd.prog 7 #[v0, v1] w fun e w' => e = .returned (.bool true) ∧ Below w.heap.size w w' := by
  have HCS := hid hCS
  have HCI := hid hCI
  have HMX : Hid (∀ w', Below w.heap.size w w' → MxL w') := fun w' h => hmx.on h
  have HT0 : Hid (∀ w, NdIn w v0 n0 F0 → Calls Tryd.prog 28 #[v0] w fun e w' => (∃ v', e = .returned v' ∧ NdArg w' v' n0 F0 ∧ NdO w' w.heap.size w'.heap.size v' n0) ∧ Below w.heap.size w w') := fun w h => toNdO_any v0 n0 F0 w hn0 h
  have HE0 : Hid (∀ v1 v2 w, NdArg w v1 n0 F0 → NdArg w v2 n0 F0 → Calls Tryd.prog 29 #[v1, v2] w fun e w' => e = .returned (.bool true) ∧ Below w.heap.size w w') := fun v1 v2 w h1 h2 => eqNdS_any v1 v2 n0 F0 w hn0 h1 h2
  have HS0 := hid hs0
  have HT1 : Hid (∀ w, NdIn w v1 n1 F1 → Calls Tryd.prog 28 #[v1] w fun e w' => (∃ v', e = .returned v' ∧ NdArg w' v' n1 F1 ∧ NdO w' w.heap.size w'.heap.size v' n1) ∧ Below w.heap.size w w') := fun w h => toNdO_any v1 n1 F1 w hn1 h
  have HE1 : Hid (∀ v1 v2 w, NdArg w v1 n1 F1 → NdArg w v2 n1 F1 → Calls Tryd.prog 29 #[v1, v2] w fun e w' => e = .returned (.bool true) ∧ Below w.heap.size w w') := fun v1 v2 w h1 h2 => eqNdS_any v1 v2 n1 F1 w hn1 h1 h2
  have HS1 := hid hs1
  have HEL : Hid (∀ v1 v2 w, StArg w v1 L → StArg w v2 L → Calls Tryd.prog 32 #[v1, v2] w fun e w' => e = .returned (.bool true) ∧ Below w.heap.size w w') := fun v1 v2 w h1 h2 => eqSt_any v1 v2 L w (by omega) h1 h2
  have HLL : Hid (L.length ≤ 900 ∧ n0 ≤ 1048576 ∧ n1 ≤ 1048576) := ⟨hL, hn0, hn1⟩
  have HV : Hid (∀ w', Below w.heap.size w w' → NdIn w' v0 n0 F0 ∧ NdIn w' v1 n1 F1) := fun w' hb => ⟨hv0.below hb, hv1.below hb⟩
  obtain ⟨sa0, ca0, rfl, _⟩ := hv0.form
  have hk0 : ¬ (K0 : Int) < 0 := by omega
  obtain ⟨sa1, ca1, rfl, _⟩ := hv1.form
  have hk1 : ¬ (K1 : Int) < 0 := by omega
  clear hv0 hn0 hs0 hv1 hn1 hs1 hL hmx hCS hCI
  go_enter Tryd.func7, Tryd.ntmps7
  have HB0 := hid (Below.refl w.heap.size w)
  go_wp2_with fail
  refine (HS0.out _ HB0.out).mono ?_
  rintro e q1 ⟨rfl, hb⟩
  have HB1 := hid (blNd HB0.out hb HB0.out.size)
  clear hb HB0
  go_wp2_with fail
  refine (HS1.out _ HB1.out).mono ?_
  rintro e q2 ⟨rfl, hb⟩
  have HB2 := hid (blNd HB1.out hb HB1.out.size)
  clear hb HB1
  go_wp2_with fail
  refine (HT0.out _ (HV.out _ HB2.out).1).mono ?_
  rintro e q3 ⟨⟨y0, rfl, h1, _⟩, hb⟩
  have HY0 := hid h1
  have HB3 := hid (blNd HB2.out hb HB2.out.size)
  clear hb h1 HB2
  go_wp2_with fail
  refine (HT1.out _ (HV.out _ HB3.out).2).mono ?_
  rintro e q4 ⟨⟨y1, rfl, h1, _⟩, hb⟩
  have HY1 := hid h1
  replace HY0 := hid (HY0.out.below hb)
  have HB4 := hid (blNd HB3.out hb HB3.out.size)
  clear hb h1 HB3
  have HWS := hid HB4.out.size
  go_wp2_with fail
  refine (HCS.out _ _ _ HY0.out HY1.out).mono ?_
  rintro e q5 ⟨⟨v3, rfl, ho⟩, hb⟩
  have HO := hid ho
  have HPO := hid (ownSt_StO ho)
  have HB5 := hid (blNd HB4.out hb HB4.out.size)
  have hz5 := hb.size
  clear hb ho HB4 HY0 HY1
  go_wp2_with fail
  refine (HT0.out _ (HV.out _ HB5.out).1).mono ?_
  rintro e q6 ⟨⟨x0, rfl, hx, hxo⟩, hb⟩
  have HX0 := hid hx
  have HXO0 := hid hxo
  replace HO := hid (own_callK HO.out hb)
  replace HPO := hid (HPO.out.kept ((Kp.refl _ []).below hb) (by simp))
  have HB6 := hid (blNd HB5.out hb HB5.out.size)
  have hz6 := hb.size
  clear hb hx hxo HB5
  go_wp2_with fail
  refine (HT1.out _ (HV.out _ HB6.out).2).mono ?_
  rintro e q7 ⟨⟨x1, rfl, hx, hxo⟩, hb⟩
  have HX1 := hid hx
  have HXO1 := hid hxo
  replace HXO0 := hid (HXO0.out.kept ((Kp.refl _ []).below hb) (by simp))
  replace HX0 := hid (HX0.out.below hb)
  replace HO := hid (own_callK HO.out hb)
  replace HPO := hid (HPO.out.kept ((Kp.refl _ []).below hb) (by simp))
  have HB7 := hid (blNd HB6.out hb HB6.out.size)
  have hz7 := hb.size
  clear hb hx hxo HB6
  go_wp2_with fail
  refine (HCI.out _ _ _ (HMX.out _ HB7.out) HX0.out HX1.out).mono ?_
  rintro e q8 ⟨⟨g0, rfl, ho⟩, hb⟩
  have HG := hid (ownSt_arg ho)
  have HGO := hid (ownSt_StO ho)
  have HVV := hid (ownSt_arg (own_callK HO.out hb))
  have HVO := hid (HPO.out.kept ((Kp.refl _ []).below hb) (by simp))
  replace HXO0 := hid (HXO0.out.kept ((Kp.refl _ []).below hb) (by simp))
  replace HX0 := hid (HX0.out.below hb)
  replace HXO1 := hid (HXO1.out.kept ((Kp.refl _ []).below hb) (by simp))
  replace HX1 := hid (HX1.out.below hb)
  have HB8 := hid (blNd HB7.out hb HB7.out.size)
  have hz8 := hb.size
  have HSS : Hid (q4.heap.size ≤ q5.heap.size ∧ q5.heap.size ≤ q6.heap.size ∧ q6.heap.size ≤ q7.heap.size ∧ q7.heap.size ≤ q8.heap.size ∧ w.heap.size ≤ q5.heap.size) := ⟨hz5, hz6, hz7, hz8, Nat.le_trans HWS.out hz5⟩
  clear hb ho HO HPO HB7 hz5 hz6 hz7 hz8 HWS
  go_wp2_with fail
  refine (HEL.out _ _ _ HG.out HVV.out).mono ?_
  rintro e q9 ⟨rfl, hb⟩
  have HK := hid ((Kp.refl q8 []).below hb)
  have HB9 := hid (blNd HB8.out hb HB8.out.size)
  clear hb HB8
  go_wp2_with fail
  refine (HT0.out _ (HV.out _ HB9.out).1).mono ?_
  rintro e q10 ⟨⟨t0, rfl, ht, _⟩, hb⟩
  replace HK := hid (HK.out.below hb)
  have HB10 := hid (blNd HB9.out hb HB9.out.size)
  have HEQ := hid (HE0.out _ _ _ (HX0.out.kept HXO0.out HK.out (by simp)) ht)
  clear hb ht HB9
  go_wp2_with fail
  refine HEQ.out.mono ?_
  rintro e q11 ⟨rfl, hb⟩
  replace HK := hid (HK.out.below hb)
  have HB11 := hid (blNd HB10.out hb HB10.out.size)
  clear hb HB10 HEQ
  go_wp2_with fail
  refine (HT1.out _ (HV.out _ HB11.out).2).mono ?_
  rintro e q12 ⟨⟨t0, rfl, ht, _⟩, hb⟩
  replace HK := hid (HK.out.below hb)
  have HB12 := hid (blNd HB11.out hb HB11.out.size)
  have HEQ := hid (HE1.out _ _ _ (HX1.out.kept HXO1.out HK.out (by simp)) ht)
  clear hb ht HB11
  go_wp2_with fail
  refine HEQ.out.mono ?_
  rintro e q13 ⟨rfl, hb⟩
  replace HK := hid (HK.out.below hb)
  have HB13 := hid (blNd HB12.out hb HB12.out.size)
  clear hb HB12 HEQ
  obtain ⟨m0, hm0⟩ : ∃ m0 : Nat, m0 = 1 + 4 * n0 := ⟨_, rfl⟩
  obtain ⟨m1, hm1⟩ : ∃ m1 : Nat, m1 = m0 + 4 * n1 := ⟨_, rfl⟩
  obtain ⟨kk, hkk⟩ : ∃ kk : Nat, kk = L.length + 1 := ⟨_, rfl⟩
  have HM0 : Hid (∀ w', Kp q8 w' [] → Below w.heap.size w w' → Calls Tryd.prog 30 #[x0, .int .i64 1] w' fun e w'' => (e = .returned (.int .i64 (m0 : Int)) ∧ MkLNd w'' x0 n0 1) ∧ Kp q8 w'' [(q5.heap.size, q6.heap.size)] ∧ Below w.heap.size w w'') := fun w' hk hb => by
    have hs := HSS.out
    have hl := HLL.out
    rw [hm0]; exact markNdL_any x0 n0 1 q5.heap.size q6.heap.size w' q8 [] (by omega) (by omega) (by omega) (HXO0.out.kept hk (by simp)) hk hb (by omega) hk.size
  have HM1 : Hid (∀ w', Kp q8 w' [(q5.heap.size, q6.heap.size)] → Below w.heap.size w w' → Calls Tryd.prog 30 #[x1, .int .i64 (m0 : Int)] w' fun e w'' => (e = .returned (.int .i64 (m1 : Int)) ∧ MkLNd w'' x1 n1 m0) ∧ Kp q8 w'' [(q6.heap.size, q7.heap.size), (q5.heap.size, q6.heap.size)] ∧ Below w.heap.size w w'') := fun w' hk hb => by
    have hs := HSS.out
    have hl := HLL.out
    rw [hm1]; exact markNdL_any x1 n1 m0 q6.heap.size q7.heap.size w' q8 _ (by omega) (by omega) (by omega) (HXO1.out.kept hk (by intro b hb; simp at hb; subst hb; exact Or.inl (Nat.le_refl _))) hk hb (by omega) hk.size
  have HMG : Hid (∀ w', Kp q8 w' [(q6.heap.size, q7.heap.size), (q5.heap.size, q6.heap.size)] → Below w.heap.size w w' → Calls Tryd.prog 33 #[g0, .int .i64 1] w' fun e w'' => (e = .returned (.int .i64 (kk : Int)) ∧ MkLSt w'' g0 L.length) ∧ Kp q8 w'' [(q7.heap.size, q8.heap.size), (q6.heap.size, q7.heap.size), (q5.heap.size, q6.heap.size)] ∧ Below w.heap.size w w'') := fun w' hk hb => by
    have hs := HSS.out
    have hl := HLL.out
    rw [hkk]; exact markStL_any g0 L.length q7.heap.size q8.heap.size w' q8 _ (by omega) (HGO.out.kept hk (by intro b hb; simp at hb; rcases hb with rfl | rfl <;> (left; show _ ≤ _; omega))) hk hb (by omega) hk.size
  have HHG : Hid (∀ w', MkLSt w' g0 L.length → Calls Tryd.prog 34 #[g0, .int .i64 1] w' fun e w'' => e = .returned (.int .i64 (kk : Int)) ∧ Below w'.heap.size w' w'') := fun w' hm => by
    have hl := HLL.out
    rw [hkk]; exact heldStL_any g0 L.length w' (by omega) hm
  have HEG : Hid (∀ w', Kp q8 w' [(q6.heap.size, q7.heap.size), (q5.heap.size, q6.heap.size)] → Calls Tryd.prog 32 #[g0, v3] w' fun e w'' => e = .returned (.bool true) ∧ Below w'.heap.size w' w'') := fun w' hk => by
    have hs := HSS.out
    exact HEL.out _ _ _ (HG.out.kept HGO.out hk (by intro b hb; simp at hb; rcases hb with rfl | rfl <;> (left; show _ ≤ _; omega))) (HVV.out.kept HVO.out hk (by intro b hb; simp at hb; rcases hb with rfl | rfl <;> (right; show _ ≤ _; omega)))
  have HVG : Hid (∀ w', Kp q8 w' [(q7.heap.size, q8.heap.size), (q6.heap.size, q7.heap.size), (q5.heap.size, q6.heap.size)] → StArg w' v3 L) := fun w' hk => by
    have hs := HSS.out
    exact HVV.out.kept HVO.out hk (by intro b hb; simp at hb; rcases hb with rfl | rfl | rfl <;> (right; show _ ≤ _; omega))
  have hkn : ¬ (kk : Int) < 0 := by omega
  have hmn : ¬ (m1 : Int) < 0 := by omega
  clear hm0 hm1 hkk HX0 HXO0 HX1 HXO1 HG HGO HVV HVO
  go_wp2_with fail
  refine (HM0.out _ HK.out HB13.out).mono ?_
  rintro e q14 ⟨⟨rfl, _⟩, hk, hb⟩
  replace HK := hid hk
  have HB14 := hid hb
  clear hk hb HM0 HB13
  go_wp2_with fail
  refine (HM1.out _ HK.out HB14.out).mono ?_
  rintro e q15 ⟨⟨rfl, _⟩, hk, hb⟩
  replace HK := hid hk
  have HB15 := hid hb
  clear hk hb HM1 HB14
  go_wp2_with fail
  refine (HEG.out _ HK.out).mono ?_
  rintro e q16 ⟨rfl, hb⟩
  replace HK := hid (HK.out.below hb)
  have HB16 := hid (blNd HB15.out hb HB15.out.size)
  clear hb HB15
  go_wp2_with fail
  refine (HMG.out _ HK.out HB16.out).mono ?_
  rintro e q17 ⟨⟨rfl, hm⟩, hk, hb⟩
  replace HK := hid hk
  have HB17 := hid hb
  have HMM := hid hm
  clear hk hb hm HMG HEG HB16
  go_wp2_with fail
  refine (HHG.out _ HMM.out).mono ?_
  rintro e q18 ⟨rfl, hb⟩
  replace HK := hid (HK.out.below hb)
  replace HMM := hid (HMM.out.below hb)
  have HB18 := hid (blNd HB17.out hb HB17.out.size)
  clear hb HB17
  go_wp2_with fail
  refine (HT0.out _ (HV.out _ HB18.out).1).mono ?_
  rintro e q19 ⟨⟨z0, rfl, ht, _⟩, hb⟩
  replace HK := hid (HK.out.below hb)
  replace HMM := hid (HMM.out.below hb)
  have HZ0 := hid ht
  clear ht
  have HB19 := hid (blNd HB18.out hb HB18.out.size)
  clear hb HB18
  go_wp2_with fail
  refine (HT1.out _ (HV.out _ HB19.out).2).mono ?_
  rintro e q20 ⟨⟨z1, rfl, ht, _⟩, hb⟩
  replace HK := hid (HK.out.below hb)
  replace HMM := hid (HMM.out.below hb)
  have HZ1 := hid ht
  replace HZ0 := hid (HZ0.out.below hb)
  clear ht
  have HB20 := hid (blNd HB19.out hb HB19.out.size)
  clear hb HB19
  go_wp2_with fail
  refine (HCI.out _ _ _ (HMX.out _ HB20.out) HZ0.out HZ1.out).mono ?_
  rintro e q21 ⟨⟨h0, rfl, ho⟩, hb⟩
  replace HK := hid (HK.out.below hb)
  replace HMM := hid (HMM.out.below hb)
  have HEQ := hid (HEL.out _ _ _ (ownSt_arg ho) (HVG.out _ HK.out))
  clear ho HZ0 HZ1
  have HB21 := hid (blNd HB20.out hb HB20.out.size)
  clear hb HB20
  go_wp2_with fail
  refine HEQ.out.mono ?_
  rintro e q22 ⟨rfl, hb⟩
  replace HMM := hid (HMM.out.below hb)
  clear HEQ
  have HB22 := hid (blNd HB21.out hb HB21.out.size)
  clear hb HB21
  go_wp2_with fail
  refine (HHG.out _ HMM.out).mono ?_
  rintro e q23 ⟨rfl, hb⟩
  have HB23 := hid (blNd HB22.out hb HB22.out.size)
  clear hb HB22
  go_wp2_with fail
  go_ret
  exact ⟨rfl, HB23.out⟩
set_option maxRecDepth 100000 in
set_option maxHeartbeats 2000000 in
theorem walk (v0 : Value) (n0 : Nat) (F0 : Nat → NdI) (hm0 : n0 ≤ maxLen) (hd0 : ∀ i, i < n0 → (F0 i).p.size ≤ maxLen ∧ (F0 i).d.size ≤ maxLen) (v1 : Value) (n1 : Nat) (F1 : Nat → NdI) (hm1 : n1 ≤ maxLen) (hd1 : ∀ i, i < n1 → (F1 i).p.size ≤ maxLen ∧ (F1 i).d.size ≤ maxLen) (w : World) (hv0 : NdIn w v0 n0 F0) (hv1 : NdIn w v1 n1 F1) (hmx : MxL w) :
    Calls Tryd.prog 7 #[v0, v1] w fun e w' => e = .returned (.bool true) ∧ Below w.heap.size w w' := by
  have HS0 : Hid (∀ w', Below w.heap.size w w' → Calls Tryd.prog 27 #[v0, .int .i64 1048576] w' fun e w'' => e = .returned (szVNd 1048576 (n0 + ndTot F0 n0)) ∧ Below w'.heap.size w' w'') := fun w' hb => szNdS_any v0 n0 1048576 F0 w' (by omega) hm0 hd0 (hv0.below hb)
  by_cases hz0 : n0 + ndTot F0 n0 ≤ 1048576
  · obtain ⟨K0, hK0⟩ : ∃ K0, K0 = 1048576 - (n0 + ndTot F0 n0) := ⟨_, rfl⟩
    rw [szVNd_le hz0, ← hK0] at HS0
    have HS1 : Hid (∀ w', Below w.heap.size w w' → Calls Tryd.prog 27 #[v1, .int .i64 (K0 : Int)] w' fun e w'' => e = .returned (szVNd K0 (n1 + ndTot F1 n1)) ∧ Below w'.heap.size w' w'') := fun w' hb => szNdS_any v1 n1 K0 F1 w' (by omega) hm1 hd1 (hv1.below hb)
    by_cases hz1 : n1 + ndTot F1 n1 ≤ K0
    · obtain ⟨K1, hK1⟩ : ∃ K1, K1 = K0 - (n1 + ndTot F1 n1) := ⟨_, rfl⟩
      rw [szVNd_le hz1, ← hK1] at HS1
      have HF0 : NdLe F0 n0 := ⟨by omega, by omega⟩
      have HF1 : NdLe F1 n1 := ⟨by omega, by omega⟩
      exact walkM v0 n0 K0 F0 v1 n1 K1 F1  (chL F0 n0 F1 n1) w (by have := chL_len F0 F1 n0 n1; omega) hmx (fun x0 x1 w h0 h1 => schg_any x0 x1 n0 n1 F0 F1 w HF0 HF1 h0 h1) (fun x0 x1 w hmw h0 h1 => chg_any x0 x1 n0 n1 F0 F1 w hmw HF0 HF1 h0 h1) hv0 (by omega) HS0.out hv1 (by omega) HS1.out 
    · rw [szVNd_no hz1] at HS1
      obtain ⟨sa0, ca0, rfl, _⟩ := hv0.form
      obtain ⟨sa1, ca1, rfl, _⟩ := hv1.form
      have hk0 : ¬ (K0 : Int) < 0 := by omega
      clear hm0 hd0 hv0 hm1 hd1 hv1 hmx hz0 hz1 hK0
      go_enter Tryd.func7, Tryd.ntmps7
      go_wp2_with fail
      refine (HS0.out _ (Below.refl _ _)).mono ?_
      rintro e w0 ⟨rfl, hb0⟩
      go_wp2_with fail
      refine (HS1.out _ hb0).mono ?_
      rintro e w1 ⟨rfl, hb1⟩
      replace hb1 := blNd hb0 hb1 hb0.size
      go_wp2_with fail
      go_ret
      exact ⟨rfl, hb1⟩
  · rw [szVNd_no hz0] at HS0
    obtain ⟨sa0, ca0, rfl, _⟩ := hv0.form
    obtain ⟨sa1, ca1, rfl, _⟩ := hv1.form
    clear hm0 hd0 hv0 hm1 hd1 hv1 hmx hz0
    go_enter Tryd.func7, Tryd.ntmps7
    go_wp2_with fail
    refine (HS0.out _ (Below.refl _ _)).mono ?_
    rintro e w0 ⟨rfl, hb0⟩
    go_wp2_with fail
    go_ret
    exact ⟨rfl, hb0⟩
set_option maxRecDepth 100000 in
theorem lifted (os : Os) (started : os.Started) (H : Type) (enc : TypeId × Value → H) :
    ReturnsInHanded {} Tryd.checked os 7 .any (fun w args => (Rows.fnExactChangedSpec.pre enc Tryd.prog Tryd.f7 [] false w args ∧ laidMetH Tryd.prog [("unicode/utf8.acceptRanges", Rows.laid_unicode_utf8_acceptRanges), ("unicode/utf8.first", Rows.laid_unicode_utf8_first)] w) ∧ sizedMet enc Tryd.prog Tryd.f7 (OpenSpec.ofChange Rows.fnExactChangedSpec) false w args) (Rows.fnExactChangedSpec.post enc Tryd.prog Tryd.f7 false true false false) := by
  refine handed_laid (C := Tryd.checked) (X := fun w => laidMetH Tryd.prog [("unicode/utf8.acceptRanges", Rows.laid_unicode_utf8_acceptRanges), ("unicode/utf8.first", Rows.laid_unicode_utf8_first)] w) (fun _ _ hh h => h.of_heap hh) own started (by kernel_rfl) Tryd.func7
    (ChangeSpec.witness_shaped (enc := enc) (C := Tryd.checked) (os := os) (X := fun w _ => laidMetH Tryd.prog [("unicode/utf8.acceptRanges", Rows.laid_unicode_utf8_acceptRanges), ("unicode/utf8.first", Rows.laid_unicode_utf8_first)] w) false (World.laidAll Tryd.prog os [("unicode/utf8.acceptRanges", Rows.laid_unicode_utf8_acceptRanges), ("unicode/utf8.first", Rows.laid_unicode_utf8_first)]) #[.slice none 0 0, .slice none 0 0] 8 (World.laidAll_os _ _ _) (World.shaped_of_ZipB (by kernel_rfl) (by kernel_rfl)) (by kernel_rfl) (by kernel_rfl) (by kernel_rfl) (by rw [MakeChecks.laidMetH_plain _ _ _ (by kernel_rfl)]; exact laidMet_laidAll _ (by kernel_rfl) (by kernel_rfl))) ?_
  intro W base args ds gs before hval0 hW hL hsh
  have hval : ∀ (j : Nat) t v, Tryd.f7.params[j]? = some t → args[j]? = some v → Value.okWide Tryd.prog W .any base t v := hval0
  have hW' := hW
  obtain ⟨p, q, hA0, hV, rfl, hfz, hnd⟩ := hW
  have hA : DataW.TrodAll enc Tryd.prog W 0 (fun _ => true) true Tryd.f7.params.toList args.toList ds p := hA0
  rw [Tryd.params7] at hA hval
  obtain ⟨v0, vs0, d0, ds0, p0, q0, hargs, rfl, rfl, h0, r0⟩ := trodAll_cons hA
  obtain ⟨v1, vs1, d1, ds1, p1, q1, rfl, rfl, rfl, h1, r1⟩ := trodAll_cons r0
  obtain ⟨rfl, rfl, rfl⟩ := trodAll_nil r1
  obtain rfl : args = #[v0, v1] := by cases args; simp_all
  obtain ⟨rfl, rfl⟩ := trodVars_none hV
  have hMX : MxL W := mx_of_shape hsh
  obtain ⟨n0, F0, hm0, hd0, hin0⟩ := read_inNd h0 (Value.okWide_any_base (hval 0 _ v0 rfl rfl))
  have k0 := h0
  have lt0 : ∀ x ∈ p0, x.block < W.heap.size := by obtain ⟨m, hm⟩ := k0; exact DataW.trod_lt m _ _ _ hm
  obtain ⟨n1, F1, hm1, hd1, hin1⟩ := read_inNd h1 (Value.okWide_any_base (hval 1 _ v1 rfl rfl))
  have k1 := h1
  have lt1 : ∀ x ∈ p1, x.block < W.heap.size := by obtain ⟨m, hm⟩ := k1; exact DataW.trod_lt m _ _ _ hm
  clear hA0 hval0
  refine (walk v0 n0 F0 hm0 hd0 v1 n1 F1 hm1 hd1 W hin0 hin1 hMX).mono fun e W' ⟨he, bel⟩ => ?_
  subst he
  exact ⟨_, rfl, _, _, _, [], _, [], hW', trodAll_mk1 (shut_bool Tryd.underlying4 _), (trodAll_cons_mk (Below.trod laidOut (by kernel_rfl) (of_decide_eq_true (by kernel_rfl)) k0 bel lt0) (trodAll_cons_mk (Below.trod laidOut (by kernel_rfl) (of_decide_eq_true (by kernel_rfl)) k1 bel lt1) trodAll_mk0)), rfl, bel.frame _, fun h => by cases h⟩

theorem over : Rows.fnExactChangedRow.holds Tryd.pinned (OpenSpec.ofChange Rows.fnExactChangedSpec) :=
  OpenClaim.holds_of_wide 7 Tryd.f7 rfl rfl rfl rfl rfl rfl rfl ⟨rfl, rfl, rfl, rfl, rfl⟩ rfl rfl rfl rfl rfl (by kernel_rfl) Tryd.func7 (by kernel_rfl)
    (of_decide_eq_true (by kernel_rfl)) (by unfold Func.isWrapper; first | (rw [if_pos (by decide +kernel)]; kernel_rfl) | (rw [if_neg (by decide +kernel)]; exact ⟨rfl, rfl⟩))
    (fun os started H enc _ => lifted os started H enc)
theorem proved : Rows.FnExactChangedCardSaid :=
  Claim7.holds_tied_plain_at .later [] [.data, .pinned] true (true, "035472ad97aa82c5e00724a87885a4d71eec7f57e226dfe30d186398433c0bb3") false
    over (fun _ h => by cases h) (by kernel_rfl) (fun _ h => by cases h) fnExactChanged_row_tie rfl ⟨rfl, rfl⟩ (by kernel_rfl) rfl
    (fun f fn hf hfn => by
      obtain rfl : f = 7 := Option.some.inj ((show Tryd.prog.funcNamed "loop.example/g00228/laws.FnExactChanged" = some 7 by kernel_rfl).symm.trans hf) |>.symm
      obtain rfl : fn = Tryd.f7 := (Option.some.inj (Tryd.func7.symm.trans hfn)).symm
      exact ⟨by kernel_rfl, fun j t ht => by
        have hall : Tryd.f7.params.all (fun t => Tryd.prog.wantsStandIn t == false) = true := by kernel_rfl
        obtain ⟨hj, rfl⟩ := Array.getElem?_eq_some_iff.1 ht
        exact beq_iff_eq.1 (Array.all_eq_true.1 hall j hj)⟩)
    (by kernel_rfl)
#print axioms proved
end Go.Proofs.YtfegoldjejlcaaaDoor.fnExactChanged
