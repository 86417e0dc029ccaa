/-
  Compose of the code answers as the model does: at every two lists of pieces.
-/
import Derived.Test.YtckpnggjboafpapRows
import Derived.Test.YtckpnggjboafpapCmpS
import Derived.Test.YtckpnggjboafpapToPcO
import Derived.Test.YtckpnggjboafpapRdPc
import Derived.Test.YtckpnggjboafpapEqPc
import Derived.WalkKit
import Derived.ProofKit
import Derived.OpenShut
import Derived.ShutString
import Derived.ChangeOld
import Derived.Below
import Derived.Lib.SmallJoins
import Derived.Deep.Slices
namespace Go.Proofs.Ytckpnggjboafpap.fnExactCompose
open Go.ChangeShapes Go.WideShapes Go.ChangeAt Go.RowKit
open Go.ChangeMaps (open_string shut_string)
open Go.Deep
set_option linter.unusedVariables false
set_option linter.unusedSimpArgs false

theorem own : ownKnob Try.prog.godebug = none := by kernel_rfl
theorem laidOut : laidOutB Try.prog = true := by kernel_rfl
theorem cmR_len {Fa Fb : Nat → PcI} {na nb : Nat} : ((cmR Fa na Fb nb).getD []).length ≤ 500 := by
  by_cases h : cmP Fa na Fb nb
  · rw [cmR_yes h]; exact h.2
  · rw [cmR_no h]; exact Nat.zero_le _
set_option maxRecDepth 100000 in
set_option maxHeartbeats 8000000 in
theorem walkM (va vb : Value) (na nb KA LB : Nat) (Fa Fb : Nat → PcI) (w : World) (hva : PcIn w va na Fa) (hvb : PcIn w vb nb Fb) (hna : na ≤ 1048576) (hnb : nb ≤ 1048576) (hFa : PcLe Fa na) (hFb : PcLe Fb nb)
    (hsa : ∀ w', Below w.heap.size w w' → Calls Try.prog 7 #[va, .int .i64 1048576] w' fun e w'' => e = .returned (.int .i64 (KA : Int)) ∧ Below w'.heap.size w' w'')
    (hsb : ∀ w', Below w.heap.size w w' → Calls Try.prog 7 #[vb, .int .i64 (KA : Int)] w' fun e w'' => e = .returned (.int .i64 (LB : Int)) ∧ Below w'.heap.size w' w'') :
    Calls Try.prog 3 #[va, vb] w fun e w' => e = .returned (.bool true) ∧ Below w.heap.size w w' := by
  obtain ⟨R, hR⟩ : ∃ R, R = cmR Fa na Fb nb := ⟨_, rfl⟩
  have hRl : (R.getD []).length ≤ 500 := by rw [hR]; exact cmR_len
  obtain ⟨b, hb⟩ : ∃ b, b = R.isSome := ⟨_, rfl⟩
  obtain ⟨L, hL⟩ : ∃ L, L = R.getD [] := ⟨_, rfl⟩
  have HCS : Hid (∀ v1 v2 w, PcArg w v1 na Fa → PcArg w v2 nb Fb → Calls Try.prog 8 #[v1, v2] w fun e w' => (∃ v, e = .returned (.tuple #[v, .bool b]) ∧ w'.ownsRow w.heap.size 41 3 v L.length (pcC L)) ∧ Below w.heap.size w w') := fun v1 v2 w h1 h2 => by rw [hb, hL, hR]; exact scmp_any v1 v2 na nb Fa Fb w hFa hFb h1 h2
  have HCI : Hid (∀ v1 v2 w, PcArg w v1 na Fa → PcArg w v2 nb Fb → Calls Try.prog 10 #[v1, v2] w fun e w' => (∃ v, e = .returned (.tuple #[v, .bool b]) ∧ w'.ownsRow w.heap.size 41 3 v L.length (pcC L)) ∧ Below w.heap.size w w') := fun v1 v2 w h1 h2 => by rw [hb, hL, hR]; exact cmp_any v1 v2 na nb Fa Fb w hFa hFb h1 h2
  rw [← hL] at hRl
  clear hb hL hR hFa hFb
  have HTA : Hid (∀ w, PcIn w va na Fa → Calls Try.prog 9 #[va] w fun e w' => (∃ v', e = .returned v' ∧ PcArg w' v' na Fa ∧ PcO w' w.heap.size w'.heap.size v' na) ∧ Below w.heap.size w w') := fun w h => toPcO_any va na Fa w hna h
  have HTB : Hid (∀ w, PcIn w vb nb Fb → Calls Try.prog 9 #[vb] w fun e w' => (∃ v', e = .returned v' ∧ PcArg w' v' nb Fb ∧ PcO w' w.heap.size w'.heap.size v' nb) ∧ Below w.heap.size w w') := fun w h => toPcO_any vb nb Fb w hnb h
  have HEA : Hid (∀ v1 v2 w, PcArg w v1 na Fa → PcArg w v2 na Fa → Calls Try.prog 11 #[v1, v2] w fun e w' => e = .returned (.bool true) ∧ Below w.heap.size w w') := fun v1 v2 w h1 h2 => eqPcS_any v1 v2 na Fa w hna h1 h2
  have HEB : Hid (∀ v1 v2 w, PcArg w v1 nb Fb → PcArg w v2 nb Fb → Calls Try.prog 11 #[v1, v2] w fun e w' => e = .returned (.bool true) ∧ Below w.heap.size w w') := fun v1 v2 w h1 h2 => eqPcS_any v1 v2 nb Fb w hnb h1 h2
  have HEL : Hid (∀ v1 v2 w, PcArg w v1 L.length (pcF L) → PcArg w v2 L.length (pcF L) → Calls Try.prog 11 #[v1, v2] w fun e w' => e = .returned (.bool true) ∧ Below w.heap.size w w') := fun v1 v2 w h1 h2 => eqPcS_any v1 v2 L.length (pcF L) w (by omega) h1 h2
  have HLL : Hid (L.length ≤ 500 ∧ na ≤ 1048576 ∧ nb ≤ 1048576) := ⟨hRl, hna, hnb⟩
  have HSA := hid hsa
  have HSB := hid hsb
  have HV : Hid (∀ w', Below w.heap.size w w' → PcIn w' va na Fa ∧ PcIn w' vb nb Fb) := fun w' hb => ⟨hva.below hb, hvb.below hb⟩
  obtain ⟨sa, ca, rfl, _⟩ := hva.form
  obtain ⟨sb, cb, rfl, _⟩ := hvb.form
  have hka : ¬ (KA : Int) < 0 := by omega
  have hlb : ¬ (LB : Int) < 0 := by omega
  clear hsa hsb hva hvb hna hnb hRl
  go_enter Try.func3, Try.ntmps3
  go_wp2_with fail
  refine (HSA.out _ (Below.refl _ _)).mono ?_
  rintro e wa ⟨rfl, hb⟩
  have HBa := hid hb
  clear hb
  go_wp2_with fail
  refine (HSB.out _ HBa.out).mono ?_
  rintro e wb ⟨rfl, hb⟩
  have HBb := hid (bl3 HBa.out hb HBa.out.size)
  clear hb HBa HSA HSB
  go_wp2_with fail
  refine (HTA.out _ (HV.out _ HBb.out).1).mono ?_
  rintro e w1 ⟨⟨v1, rfl, h1, _⟩, hb⟩
  have HA1 := hid h1
  have HB1 := hid (bl3 HBb.out hb HBb.out.size)
  clear hb h1 HBb
  go_wp2_with fail
  refine (HTB.out _ (HV.out _ HB1.out).2).mono ?_
  rintro e w2 ⟨⟨v2, rfl, h2, _⟩, hb⟩
  have HA2 := hid (HA1.out.below hb)
  have HAb := hid h2
  have HB2 := hid (bl3 HB1.out hb HB1.out.size)
  have HWS := hid HB2.out.size
  clear hb h2 HA1 HB1
  go_wp2_with fail
  refine (HCS.out _ _ _ HA2.out HAb.out).mono ?_
  rintro e w3 ⟨⟨v3, rfl, ho⟩, hb⟩
  have HO3 := hid ho
  have HB3 := hid (bl3 HB2.out hb HB2.out.size)
  have hs3 := hb.size
  clear hb ho HA2 HAb HB2
  go_wp2_with fail
  refine (HTA.out _ (HV.out _ HB3.out).1).mono ?_
  rintro e w4 ⟨⟨x0, rfl, hx, hxo⟩, hb⟩
  have HX0 := hid hx
  have HXO0 := hid hxo
  have HO4 := hid (own3_call HO3.out hb)
  have HP3 := hid (own3_PcO HO3.out)
  have HP4 := hid (HP3.out.kept ((Kp.refl _ []).below hb) (by simp))
  have HB4 := hid (bl3 HB3.out hb HB3.out.size)
  have hs4 := hb.size
  clear hb hx hxo HO3 HP3 HB3
  go_wp2_with fail
  refine (HTB.out _ (HV.out _ HB4.out).2).mono ?_
  rintro e w5 ⟨⟨x1, rfl, hx, hxo⟩, hb⟩
  have HX1 := hid hx
  have HXO1 := hid hxo
  have HX05 := hid (HX0.out.below hb)
  have HXO05 := hid (HXO0.out.kept ((Kp.refl _ []).below hb) (by simp))
  have HO5 := hid (own3_call HO4.out hb)
  have HP5 := hid (HP4.out.kept ((Kp.refl _ []).below hb) (by simp))
  have HB5 := hid (bl3 HB4.out hb HB4.out.size)
  have hs5 := hb.size
  clear hb hx hxo HX0 HXO0 HO4 HP4 HB4
  go_wp2_with fail
  refine (HCI.out _ _ _ HX05.out HX1.out).mono ?_
  rintro e w6 ⟨⟨g0, rfl, ho⟩, hb⟩
  have HG6 := hid (own3_arg ho)
  have HGO6 := hid (own3_PcO ho)
  have HV6 := hid (own3_arg (own3_call HO5.out hb))
  have HVO6 := hid (HP5.out.kept ((Kp.refl _ []).below hb) (by simp))
  have HX06 := hid (HX05.out.below hb)
  have HXO06 := hid (HXO05.out.kept ((Kp.refl _ []).below hb) (by simp))
  have HX16 := hid (HX1.out.below hb)
  have HXO16 := hid (HXO1.out.kept ((Kp.refl _ []).below hb) (by simp))
  have HB6 := hid (bl3 HB5.out hb HB5.out.size)
  have hs6 := hb.size
  have HSS : Hid (w2.heap.size ≤ w3.heap.size ∧ w3.heap.size ≤ w4.heap.size ∧ w4.heap.size ≤ w5.heap.size ∧ w5.heap.size ≤ w6.heap.size ∧ w.heap.size ≤ w3.heap.size) := ⟨hs3, hs4, hs5, hs6, by have := HB5.out.size; exact Nat.le_trans HWS.out hs3⟩
  clear hb ho HX05 HXO05 HX1 HXO1 HO5 HP5 HB5 hs3 hs4 hs5 hs6 HWS
  go_wp2_with fail
  refine (HEL.out _ _ _ HG6.out HV6.out).mono ?_
  rintro e w7 ⟨rfl, hb⟩
  have HK7 := hid ((Kp.refl w6 []).below hb)
  have HB7 := hid (bl3 HB6.out hb HB6.out.size)
  clear hb HB6
  cases b with
  | true =>
    go_wp2_with fail
    refine (HTA.out _ (HV.out _ HB7.out).1).mono ?_
    rintro e w8 ⟨⟨t0, rfl, ht, _⟩, hb⟩
    have HK8 := hid (HK7.out.below hb)
    have HB8 := hid (bl3 HB7.out hb HB7.out.size)
    have HEQ := hid (HEA.out _ _ _ (HX06.out.kept HXO06.out HK8.out (by simp)) ht)
    clear hb ht HK7 HB7
    go_wp2_with fail
    refine HEQ.out.mono ?_
    rintro e w9 ⟨rfl, hb⟩
    have HK9 := hid (HK8.out.below hb)
    have HB9 := hid (bl3 HB8.out hb HB8.out.size)
    clear hb HK8 HB8 HEQ
    go_wp2_with fail
    refine (HTB.out _ (HV.out _ HB9.out).2).mono ?_
    rintro e w10 ⟨⟨t1, rfl, ht, _⟩, hb⟩
    have HK10 := hid (HK9.out.below hb)
    have HB10 := hid (bl3 HB9.out hb HB9.out.size)
    have HEQ := hid (HEB.out _ _ _ (HX16.out.kept HXO16.out HK10.out (by simp)) ht)
    clear hb ht HK9 HB9
    go_wp2_with fail
    refine HEQ.out.mono ?_
    rintro e w11 ⟨rfl, hb⟩
    have HK11 := hid (HK10.out.below hb)
    have HB11 := hid (bl3 HB10.out hb HB10.out.size)
    clear hb HK10 HB10 HEQ
    obtain ⟨k1, hk1⟩ : ∃ k1 : Nat, k1 = 1 + 3 * na := ⟨_, rfl⟩
    obtain ⟨k2, hk2⟩ : ∃ k2 : Nat, k2 = k1 + 3 * nb := ⟨_, rfl⟩
    obtain ⟨k3, hk3⟩ : ∃ k3 : Nat, k3 = 1 + 3 * L.length := ⟨_, rfl⟩
    have HM1 : Hid (Calls Try.prog 12 #[x0, .int .i64 1] w11 fun e w' => (e = .returned (.int .i64 (k1 : Int)) ∧ MkL w' x0 na 1) ∧ Kp w6 w' [(w3.heap.size, w4.heap.size)] ∧ Below w.heap.size w w') := by
      rw [hk1]; exact markL_any x0 na 1 w3.heap.size w4.heap.size w11 w6 [] HLL.out.2.1 (by omega) (by omega) (HXO06.out.kept HK11.out (by simp)) HK11.out HB11.out HSS.out.2.2.2.2 HK11.out.size
    have HM2 : Hid (∀ w', Kp w6 w' [(w3.heap.size, w4.heap.size)] → Below w.heap.size w w' → Calls Try.prog 12 #[x1, .int .i64 (k1 : Int)] w' fun e w'' => (e = .returned (.int .i64 (k2 : Int)) ∧ MkL w'' x1 nb k1) ∧ Kp w6 w'' [(w4.heap.size, w5.heap.size), (w3.heap.size, w4.heap.size)] ∧ Below w.heap.size w w'') := fun w' hk hb => by
      have hs := HSS.out
      have hl := HLL.out
      rw [hk2]; exact markL_any x1 nb k1 w4.heap.size w5.heap.size w' w6 _ HLL.out.2.2 (by omega) (by omega) (HXO16.out.kept hk (by intro b hb; simp at hb; subst hb; exact Or.inl (Nat.le_refl _))) hk hb (by omega) hk.size
    have HM3 : Hid (∀ w', Kp w6 w' [(w4.heap.size, w5.heap.size), (w3.heap.size, w4.heap.size)] → Below w.heap.size w w' → Calls Try.prog 12 #[g0, .int .i64 1] w' fun e w'' => (e = .returned (.int .i64 (k3 : Int)) ∧ MkL w'' g0 L.length 1) ∧ Kp w6 w'' [(w5.heap.size, w6.heap.size), (w4.heap.size, w5.heap.size), (w3.heap.size, w4.heap.size)] ∧ Below w.heap.size w w'') := fun w' hk hb => by
      have hs := HSS.out
      have hl := HLL.out
      rw [hk3]; exact markL_any g0 L.length 1 w5.heap.size w6.heap.size w' w6 _ (by omega) (by omega) (by omega) (HGO6.out.kept hk (by intro b hb; simp at hb; rcases hb with rfl | rfl <;> (left; show _ ≤ _; omega))) hk hb (by omega) hk.size
    have HH3 : Hid (∀ w', MkL w' g0 L.length 1 → Calls Try.prog 13 #[g0, .int .i64 1] w' fun e w'' => e = .returned (.int .i64 (k3 : Int)) ∧ Below w'.heap.size w' w'') := fun w' hm => by
      have hl := HLL.out
      rw [hk3]; exact heldL_any g0 L.length 1 w' (by omega) (by omega) (by omega) hm
    have HEG : Hid (∀ w', Kp w6 w' [(w4.heap.size, w5.heap.size), (w3.heap.size, w4.heap.size)] → Calls Try.prog 11 #[g0, v3] w' fun e w'' => e = .returned (.bool true) ∧ Below w'.heap.size w' w'') := fun w' hk => by
      have hs := HSS.out
      exact HEL.out _ _ _ (HG6.out.kept HGO6.out hk (by intro b hb; simp at hb; rcases hb with rfl | rfl <;> (left; show _ ≤ _; omega))) (HV6.out.kept HVO6.out hk (by intro b hb; simp at hb; rcases hb with rfl | rfl <;> (right; show _ ≤ _; omega)))
    have HVG : Hid (∀ w', Kp w6 w' [(w5.heap.size, w6.heap.size), (w4.heap.size, w5.heap.size), (w3.heap.size, w4.heap.size)] → PcArg w' v3 L.length (pcF L)) := fun w' hk => by
      have hs := HSS.out
      exact HV6.out.kept HVO6.out hk (by intro b hb; simp at hb; rcases hb with rfl | rfl | rfl <;> (right; show _ ≤ _; omega))
    have hk2n : ¬ (k2 : Int) < 0 := by omega
    have hk3n : ¬ (k3 : Int) < 0 := by omega
    clear hk1 hk2 hk3 HK11 HB11 HX06 HXO06 HX16 HXO16 HG6 HGO6 HV6 HVO6
    go_wp2_with fail
    refine HM1.out.mono ?_
    rintro e w12 ⟨⟨rfl, _⟩, hk, hb⟩
    have HK12 := hid hk
    have HB12 := hid hb
    clear hk hb HM1
    go_wp2_with fail
    refine (HM2.out _ HK12.out HB12.out).mono ?_
    rintro e w13 ⟨⟨rfl, _⟩, hk, hb⟩
    have HK13 := hid hk
    have HB13 := hid hb
    clear hk hb HM2 HK12 HB12
    go_wp2_with fail
    refine (HEG.out _ HK13.out).mono ?_
    rintro e w14 ⟨rfl, hb⟩
    have HK14 := hid (HK13.out.below hb)
    have HB14 := hid (bl3 HB13.out hb HB13.out.size)
    clear hb HEG HK13 HB13
    go_wp2_with fail
    refine (HM3.out _ HK14.out HB14.out).mono ?_
    rintro e w15 ⟨⟨rfl, hm⟩, hk, hb⟩
    have HK15 := hid hk
    have HB15 := hid hb
    have HM15 := hid hm
    clear hk hb hm HM3 HK14 HB14
    go_wp2_with fail
    refine (HH3.out _ HM15.out).mono ?_
    rintro e w16 ⟨rfl, hb⟩
    have HK16 := hid (HK15.out.below hb)
    have HM16 := hid (HM15.out.below hb)
    have HB16 := hid (bl3 HB15.out hb HB15.out.size)
    clear hb HK15 HM15 HB15
    go_wp2_with fail
    refine (HTA.out _ (HV.out _ HB16.out).1).mono ?_
    rintro e w17 ⟨⟨t2, rfl, ht, _⟩, hb⟩
    have HK17 := hid (HK16.out.below hb)
    have HM17 := hid (HM16.out.below hb)
    have HB17 := hid (bl3 HB16.out hb HB16.out.size)
    have HT2 := hid ht
    clear hb ht HK16 HM16 HB16
    go_wp2_with fail
    refine (HTB.out _ (HV.out _ HB17.out).2).mono ?_
    rintro e w18 ⟨⟨t3, rfl, ht, _⟩, hb⟩
    have HK18 := hid (HK17.out.below hb)
    have HM18 := hid (HM17.out.below hb)
    have HB18 := hid (bl3 HB17.out hb HB17.out.size)
    have HT3 := hid ht
    have HT22 := hid (HT2.out.below hb)
    clear hb ht HK17 HM17 HB17 HT2
    go_wp2_with fail
    refine (HCI.out _ _ _ HT22.out HT3.out).mono ?_
    rintro e w19 ⟨⟨h0, rfl, ho⟩, hb⟩
    have HK19 := hid (HK18.out.below hb)
    have HM19 := hid (HM18.out.below hb)
    have HB19 := hid (bl3 HB18.out hb HB18.out.size)
    have HEQ := hid (HEL.out _ _ _ (own3_arg ho) (HVG.out _ HK19.out))
    clear hb ho HK18 HM18 HB18 HT22 HT3 HK19
    go_wp2_with fail
    refine HEQ.out.mono ?_
    rintro e w20 ⟨rfl, hb⟩
    have HM20 := hid (HM19.out.below hb)
    have HB20 := hid (bl3 HB19.out hb HB19.out.size)
    clear hb HM19 HB19 HEQ
    go_wp2_with fail
    refine (HH3.out _ HM20.out).mono ?_
    rintro e w21 ⟨rfl, hb⟩
    have HB21 := hid (bl3 HB20.out hb HB20.out.size)
    clear hb HM20 HB20
    go_wp2_with fail
    go_ret
    exact ⟨rfl, HB21.out⟩
  | false =>
    go_wp2_with fail
    refine (HTA.out _ (HV.out _ HB7.out).1).mono ?_
    rintro e w8 ⟨⟨t0, rfl, ht, _⟩, hb⟩
    have HK8 := hid (HK7.out.below hb)
    have HB8 := hid (bl3 HB7.out hb HB7.out.size)
    have HEQ := hid (HEA.out _ _ _ (HX06.out.kept HXO06.out HK8.out (by simp)) ht)
    clear hb ht HK7 HB7
    go_wp2_with fail
    refine HEQ.out.mono ?_
    rintro e w9 ⟨rfl, hb⟩
    have HK9 := hid (HK8.out.below hb)
    have HB9 := hid (bl3 HB8.out hb HB8.out.size)
    clear hb HK8 HB8 HEQ
    go_wp2_with fail
    refine (HTB.out _ (HV.out _ HB9.out).2).mono ?_
    rintro e w10 ⟨⟨t1, rfl, ht, _⟩, hb⟩
    have HK10 := hid (HK9.out.below hb)
    have HB10 := hid (bl3 HB9.out hb HB9.out.size)
    have HEQ := hid (HEB.out _ _ _ (HX16.out.kept HXO16.out HK10.out (by simp)) ht)
    clear hb ht HK9 HB9
    go_wp2_with fail
    refine HEQ.out.mono ?_
    rintro e w11 ⟨rfl, hb⟩
    have HK11 := hid (HK10.out.below hb)
    have HB11 := hid (bl3 HB10.out hb HB10.out.size)
    clear hb HK10 HB10 HEQ
    obtain ⟨k1, hk1⟩ : ∃ k1 : Nat, k1 = 1 + 3 * na := ⟨_, rfl⟩
    obtain ⟨k2, hk2⟩ : ∃ k2 : Nat, k2 = k1 + 3 * nb := ⟨_, rfl⟩
    obtain ⟨k3, hk3⟩ : ∃ k3 : Nat, k3 = 1 + 3 * L.length := ⟨_, rfl⟩
    have HM1 : Hid (Calls Try.prog 12 #[x0, .int .i64 1] w11 fun e w' => (e = .returned (.int .i64 (k1 : Int)) ∧ MkL w' x0 na 1) ∧ Kp w6 w' [(w3.heap.size, w4.heap.size)] ∧ Below w.heap.size w w') := by
      rw [hk1]; exact markL_any x0 na 1 w3.heap.size w4.heap.size w11 w6 [] HLL.out.2.1 (by omega) (by omega) (HXO06.out.kept HK11.out (by simp)) HK11.out HB11.out HSS.out.2.2.2.2 HK11.out.size
    have HM2 : Hid (∀ w', Kp w6 w' [(w3.heap.size, w4.heap.size)] → Below w.heap.size w w' → Calls Try.prog 12 #[x1, .int .i64 (k1 : Int)] w' fun e w'' => (e = .returned (.int .i64 (k2 : Int)) ∧ MkL w'' x1 nb k1) ∧ Kp w6 w'' [(w4.heap.size, w5.heap.size), (w3.heap.size, w4.heap.size)] ∧ Below w.heap.size w w'') := fun w' hk hb => by
      have hs := HSS.out
      have hl := HLL.out
      rw [hk2]; exact markL_any x1 nb k1 w4.heap.size w5.heap.size w' w6 _ HLL.out.2.2 (by omega) (by omega) (HXO16.out.kept hk (by intro b hb; simp at hb; subst hb; exact Or.inl (Nat.le_refl _))) hk hb (by omega) hk.size
    have HM3 : Hid (∀ w', Kp w6 w' [(w4.heap.size, w5.heap.size), (w3.heap.size, w4.heap.size)] → Below w.heap.size w w' → Calls Try.prog 12 #[g0, .int .i64 1] w' fun e w'' => (e = .returned (.int .i64 (k3 : Int)) ∧ MkL w'' g0 L.length 1) ∧ Kp w6 w'' [(w5.heap.size, w6.heap.size), (w4.heap.size, w5.heap.size), (w3.heap.size, w4.heap.size)] ∧ Below w.heap.size w w'') := fun w' hk hb => by
      have hs := HSS.out
      have hl := HLL.out
      rw [hk3]; exact markL_any g0 L.length 1 w5.heap.size w6.heap.size w' w6 _ (by omega) (by omega) (by omega) (HGO6.out.kept hk (by intro b hb; simp at hb; rcases hb with rfl | rfl <;> (left; show _ ≤ _; omega))) hk hb (by omega) hk.size
    have HH3 : Hid (∀ w', MkL w' g0 L.length 1 → Calls Try.prog 13 #[g0, .int .i64 1] w' fun e w'' => e = .returned (.int .i64 (k3 : Int)) ∧ Below w'.heap.size w' w'') := fun w' hm => by
      have hl := HLL.out
      rw [hk3]; exact heldL_any g0 L.length 1 w' (by omega) (by omega) (by omega) hm
    have HEG : Hid (∀ w', Kp w6 w' [(w4.heap.size, w5.heap.size), (w3.heap.size, w4.heap.size)] → Calls Try.prog 11 #[g0, v3] w' fun e w'' => e = .returned (.bool true) ∧ Below w'.heap.size w' w'') := fun w' hk => by
      have hs := HSS.out
      exact HEL.out _ _ _ (HG6.out.kept HGO6.out hk (by intro b hb; simp at hb; rcases hb with rfl | rfl <;> (left; show _ ≤ _; omega))) (HV6.out.kept HVO6.out hk (by intro b hb; simp at hb; rcases hb with rfl | rfl <;> (right; show _ ≤ _; omega)))
    have HVG : Hid (∀ w', Kp w6 w' [(w5.heap.size, w6.heap.size), (w4.heap.size, w5.heap.size), (w3.heap.size, w4.heap.size)] → PcArg w' v3 L.length (pcF L)) := fun w' hk => by
      have hs := HSS.out
      exact HV6.out.kept HVO6.out hk (by intro b hb; simp at hb; rcases hb with rfl | rfl | rfl <;> (right; show _ ≤ _; omega))
    have hk2n : ¬ (k2 : Int) < 0 := by omega
    have hk3n : ¬ (k3 : Int) < 0 := by omega
    clear hk1 hk2 hk3 HK11 HB11 HX06 HXO06 HX16 HXO16 HG6 HGO6 HV6 HVO6
    go_wp2_with fail
    refine HM1.out.mono ?_
    rintro e w12 ⟨⟨rfl, _⟩, hk, hb⟩
    have HK12 := hid hk
    have HB12 := hid hb
    clear hk hb HM1
    go_wp2_with fail
    refine (HM2.out _ HK12.out HB12.out).mono ?_
    rintro e w13 ⟨⟨rfl, _⟩, hk, hb⟩
    have HK13 := hid hk
    have HB13 := hid hb
    clear hk hb HM2 HK12 HB12
    go_wp2_with fail
    refine (HEG.out _ HK13.out).mono ?_
    rintro e w14 ⟨rfl, hb⟩
    have HK14 := hid (HK13.out.below hb)
    have HB14 := hid (bl3 HB13.out hb HB13.out.size)
    clear hb HEG HK13 HB13
    go_wp2_with fail
    refine (HM3.out _ HK14.out HB14.out).mono ?_
    rintro e w15 ⟨⟨rfl, hm⟩, hk, hb⟩
    have HK15 := hid hk
    have HB15 := hid hb
    have HM15 := hid hm
    clear hk hb hm HM3 HK14 HB14
    go_wp2_with fail
    refine (HH3.out _ HM15.out).mono ?_
    rintro e w16 ⟨rfl, hb⟩
    have HK16 := hid (HK15.out.below hb)
    have HM16 := hid (HM15.out.below hb)
    have HB16 := hid (bl3 HB15.out hb HB15.out.size)
    clear hb HK15 HM15 HB15
    go_wp2_with fail
    refine (HTA.out _ (HV.out _ HB16.out).1).mono ?_
    rintro e w17 ⟨⟨t2, rfl, ht, _⟩, hb⟩
    have HK17 := hid (HK16.out.below hb)
    have HM17 := hid (HM16.out.below hb)
    have HB17 := hid (bl3 HB16.out hb HB16.out.size)
    have HT2 := hid ht
    clear hb ht HK16 HM16 HB16
    go_wp2_with fail
    refine (HTB.out _ (HV.out _ HB17.out).2).mono ?_
    rintro e w18 ⟨⟨t3, rfl, ht, _⟩, hb⟩
    have HK18 := hid (HK17.out.below hb)
    have HM18 := hid (HM17.out.below hb)
    have HB18 := hid (bl3 HB17.out hb HB17.out.size)
    have HT3 := hid ht
    have HT22 := hid (HT2.out.below hb)
    clear hb ht HK17 HM17 HB17 HT2
    go_wp2_with fail
    refine (HCI.out _ _ _ HT22.out HT3.out).mono ?_
    rintro e w19 ⟨⟨h0, rfl, ho⟩, hb⟩
    have HK19 := hid (HK18.out.below hb)
    have HM19 := hid (HM18.out.below hb)
    have HB19 := hid (bl3 HB18.out hb HB18.out.size)
    have HEQ := hid (HEL.out _ _ _ (own3_arg ho) (HVG.out _ HK19.out))
    clear hb ho HK18 HM18 HB18 HT22 HT3 HK19
    go_wp2_with fail
    refine HEQ.out.mono ?_
    rintro e w20 ⟨rfl, hb⟩
    have HM20 := hid (HM19.out.below hb)
    have HB20 := hid (bl3 HB19.out hb HB19.out.size)
    clear hb HM19 HB19 HEQ
    go_wp2_with fail
    refine (HH3.out _ HM20.out).mono ?_
    rintro e w21 ⟨rfl, hb⟩
    have HB21 := hid (bl3 HB20.out hb HB20.out.size)
    clear hb HM20 HB20
    go_wp2_with fail
    go_ret
    exact ⟨rfl, HB21.out⟩
set_option maxRecDepth 100000 in
set_option maxHeartbeats 1000000 in
theorem walk (va : Value) (na : Nat) (Fa : Nat → PcI) (hma : na ≤ maxLen) (hda : ∀ i, i < na → (Fa i).d.size ≤ maxLen) (vb : Value) (nb : Nat) (Fb : Nat → PcI) (hmb : nb ≤ maxLen) (hdb : ∀ i, i < nb → (Fb i).d.size ≤ maxLen) (w : World) (hva : PcIn w va na Fa) (hvb : PcIn w vb nb Fb) :
    Calls Try.prog 3 #[va, vb] w fun e w' => e = .returned (.bool true) ∧ Below w.heap.size w w' := by
  have HSA : Hid (∀ w', Below w.heap.size w w' → Calls Try.prog 7 #[va, .int .i64 1048576] w' fun e w'' => e = .returned (szV 1048576 (na + pcTot Fa na)) ∧ Below w'.heap.size w' w'') := fun w' hb => szPcS_any va na 1048576 Fa w' (Nat.le_refl _) hma hda (hva.below hb)
  by_cases h1 : na + pcTot Fa na ≤ 1048576
  · obtain ⟨KA, hKA⟩ : ∃ KA, KA = 1048576 - (na + pcTot Fa na) := ⟨_, rfl⟩
    rw [szV_le h1, ← hKA] at HSA
    have HSB : Hid (∀ w', Below w.heap.size w w' → Calls Try.prog 7 #[vb, .int .i64 (KA : Int)] w' fun e w'' => e = .returned (szV KA (nb + pcTot Fb nb)) ∧ Below w'.heap.size w' w'') := fun w' hb => szPcS_any vb nb KA Fb w' (by omega) hmb hdb (hvb.below hb)
    by_cases h2 : nb + pcTot Fb nb ≤ KA
    · rw [szV_le h2] at HSB
      exact walkM va vb na nb KA _ Fa Fb w hva hvb (by omega) (by omega) ⟨by omega, fun i hi => by have := pcTot_one Fa hi; omega⟩ ⟨by omega, fun i hi => by have := pcTot_one Fb hi; omega⟩ HSA.out HSB.out
    · rw [szV_no h2] at HSB
      obtain ⟨sa, ca, rfl, _⟩ := hva.form
      obtain ⟨sb, cb, rfl, _⟩ := hvb.form
      have hka : ¬ (KA : Int) < 0 := by omega
      clear h1 h2 hKA hda hdb hma hmb hva hvb
      go_enter Try.func3, Try.ntmps3
      go_wp2_with fail
      refine (HSA.out _ (Below.refl _ _)).mono ?_
      rintro e wa ⟨rfl, hb⟩
      have HBa := hid hb
      clear hb
      go_wp2_with fail
      refine (HSB.out _ HBa.out).mono ?_
      rintro e wb ⟨rfl, hb⟩
      have HBb := hid (bl3 HBa.out hb HBa.out.size)
      clear hb
      go_wp2_with fail
      go_ret
      exact ⟨rfl, HBb.out⟩
  · rw [szV_no h1] at HSA
    obtain ⟨sa, ca, rfl, _⟩ := hva.form
    obtain ⟨sb, cb, rfl, _⟩ := hvb.form
    clear h1 hda hdb hma hmb hva hvb
    go_enter Try.func3, Try.ntmps3
    go_wp2_with fail
    refine (HSA.out _ (Below.refl _ _)).mono ?_
    rintro e wa ⟨rfl, hb⟩
    go_wp2_with fail
    go_ret
    exact ⟨rfl, hb⟩
set_option maxRecDepth 100000 in
theorem lifted (os : Os) (started : os.Started) (H : Type) (enc : TypeId × Value → H) :
    ReturnsInHanded {} Try.checked os 3 .any (Rows.fnExactComposeSpec.pre6 enc Try.prog Try.f3 Rows.fnExactComposeRow.domain false) (Rows.fnExactComposeSpec.post enc Try.prog Try.f3 false true false false) := by
  refine returnsInHanded_of_change (C := Try.checked) own started (by kernel_rfl) Try.func3
    (ChangeSpec.witness6 (enc := enc) (C := Try.checked) false ⟨#[], #[.slice none 0 0, .slice none 0 0], []⟩ 8 (by kernel_rfl) (by kernel_rfl) (by kernel_rfl) (by kernel_rfl)) ?_
  intro W base args ds gs before hval0 hW hcnd _
  have hval : ∀ (j : Nat) t v, Try.f3.params[j]? = some t → args[j]? = some v → Value.okWide Try.prog W .any base t v := hval0
  have hW' := hW
  obtain ⟨p, q, hA0, hV, rfl, hfz, hnd⟩ := hW
  have hA : DataW.TrodAll enc Try.prog W 0 (fun _ => true) true Try.f3.params.toList args.toList ds p := hA0
  rw [Try.params3] at hA hval
  obtain ⟨v0, vs0, d0, ds0, p0, q0, hargs, rfl, rfl, h0, r0⟩ := trodAll_cons hA
  obtain ⟨v1, vs1, d1, ds1, p1, q1, rfl, rfl, rfl, h1, r1⟩ := trodAll_cons r0
  obtain ⟨rfl, rfl, rfl⟩ := trodAll_nil r1
  obtain rfl : args = #[v0, v1] := by cases args; simp_all
  obtain ⟨rfl, rfl⟩ := trodVars_none hV
  obtain ⟨n0, F0, hm0, hd0, hin0⟩ := read_inPc h0 (Value.okWide_any_base (hval 0 _ v0 rfl rfl))
  have k0 := h0
  have lt0 : ∀ x ∈ p0, x.block < W.heap.size := by obtain ⟨m, hm⟩ := k0; exact DataW.trod_lt m _ _ _ hm
  obtain ⟨n1, F1, hm1, hd1, hin1⟩ := read_inPc h1 (Value.okWide_any_base (hval 1 _ v1 rfl rfl))
  have k1 := h1
  have lt1 : ∀ x ∈ p1, x.block < W.heap.size := by obtain ⟨m, hm⟩ := k1; exact DataW.trod_lt m _ _ _ hm
  clear hA0 hval0
  refine (walk v0 n0 F0 hm0 hd0 v1 n1 F1 hm1 hd1 W hin0 hin1).mono fun e W' ⟨he, bel⟩ => ?_
  subst he
  exact ⟨_, rfl, _, _, _, [], _, [], hW', trodAll_mk1 (shut_bool Try.underlying4 _), (trodAll_cons_mk (Below.trod laidOut (by kernel_rfl) (of_decide_eq_true (by kernel_rfl)) k0 bel lt0) (trodAll_cons_mk (Below.trod laidOut (by kernel_rfl) (of_decide_eq_true (by kernel_rfl)) k1 bel lt1) trodAll_mk0)), rfl, bel.frame _, fun h => by cases h⟩

theorem over : Rows.fnExactComposeRow.holds Try.pinned (OpenSpec.ofChange Rows.fnExactComposeSpec) :=
  OpenClaim.holds_of_wide 3 Try.f3 rfl rfl rfl rfl rfl rfl rfl ⟨rfl, rfl, rfl, rfl, rfl⟩ rfl rfl rfl rfl rfl (by kernel_rfl) Try.func3 (by kernel_rfl)
    (of_decide_eq_true (by kernel_rfl)) (by unfold Func.isWrapper; first | (rw [if_pos (by decide +kernel)]; kernel_rfl) | (rw [if_neg (by decide +kernel)]; exact ⟨rfl, rfl⟩))
    (fun os started H enc _ => lifted os started H enc)
theorem proved : Rows.FnExactComposeSaid :=
  over
#print axioms proved
end Go.Proofs.Ytckpnggjboafpap.fnExactCompose
