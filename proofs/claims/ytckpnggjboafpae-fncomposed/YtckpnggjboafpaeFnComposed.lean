/-
  Two deltas one behind the other, drawn, make what the delta of both makes.
-/
import Derived.Test.YtckpnggjboafpaeRows
import Derived.Test.YtckpnggjboafpaeDrwCom
import Derived.Test.YtckpnggjboafpaeSamePc
import Derived.Test.YtckpnggjboafpaeComM
import Derived.Test.YtckpnggjboafpaeCmpC
import Derived.Test.YtckpnggjboafpaeCmpS
import Derived.Test.YtckpnggjboafpaePatC
import Derived.Test.YtckpnggjboafpaeBig
import Derived.Test.YtckpnggjboafpaeDrw
import Derived.Laws.Rows
import Derived.BigQuiet
import Derived.WalkKit
import Derived.ProofKit
import Derived.OpenShut
import Derived.ShutString
import Derived.ChangeOld
import Derived.Below
namespace Go.Proofs.Ytckpnggjboafpae.fnComposed
open Go.ChangeShapes Go.WideShapes Go.ChangeAt Go.RowKit
open Go.ChangeMaps (open_string shut_string)
set_option linter.unusedVariables false

theorem own : ownKnob Try.prog.godebug = none := by kernel_rfl
theorem laidOut : laidOutB Try.prog = true := by kernel_rfl

/-- WHAT THE WALK IS TOLD OF A SLICE OF INTEGERS THAT CAME IN: it is nil; or it leads to a row of 'cap' cells, the numbers 'zs' (the first 'len' are its elements, the rest its spare room), each fitting its kind. -/
def IsRow (k : IntKind) (w : World) (a : Option Addr) (len cap : Nat) (zs : List Int) : Prop :=
  (a = none ∧ len = 0 ∧ cap = 0 ∧ zs = []) ∨
  ∃ x, a = some x ∧ len ≤ cap ∧ cap ≤ maxLen ∧ zs.length = cap ∧ (∀ i, i < zs.length → w.cell? (x.add i) = some (.int k (zs.getD i 0))) ∧ ∀ n ∈ zs, (Lit.int k n).wf = true

set_option linter.unusedSimpArgs false
set_option linter.unusedVariables false
theorem pcF_le2 (L : List PcI) (hL : L.length ≤ 7) (h : ∀ p ∈ L, p.d.size ≤ 5) : PcLe (pcF L) L.length := by
  refine ⟨by omega, fun i hi => ?_⟩
  have e : pcF L i = L[i] := by unfold pcF; simp [hi]
  rw [e]
  have := h _ (List.getElem_mem hi)
  omega
theorem conv8 (i : Nat) (h : i < 60) : IntKind.i64.wrap ((i : Int) + 33) = (i : Int) + 33 ∧ IntKind.u8.wrap ((i : Int) + 33) = (i : Int) + 33 := by
  rw [IntKind.wrap_i64, IntKind.wrap_u8]; omega
theorem oneB (wr : World) (i : Nat) (u : UInt8) (hu : (i : Int) + 33 = (u.toNat : Int)) : (convert 22 9 (.slice (some ⟨wr.heap.size, 0, none⟩) 1 1)).run Try.prog (wr.alloc (.cells #[.int .u8 ((i : Int) + 33)] 5)) = .ok (.string ⟨[u].toArray⟩) (wr.alloc (.cells #[.int .u8 ((i : Int) + 33)] 5)) := by
  rw [hu]
  exact conv_bytes (base := 0) (l := [u]) ⟨rfl, .inr ⟨wr.heap.size, 1, _, rfl, Nat.zero_le _, heap_alloc_new wr _, Nat.le_refl _, by unfold maxLen; decide, rfl, rfl⟩⟩
theorem pcR_le {F : Nat → PcI} {n : Nat} {old : Int} (h : pcR F n old) : PcLe F n := ⟨by have := h.2.2.1; omega, fun i hi => by
  by_cases hd : (F i).d = ⟨#[]⟩
  · rw [hd]; exact Nat.zero_le _
  · have h1 := pcSz_yes hd
    have h2 := pcSum_mono (i := i + 1) (n := n) (by omega) h.2.2.2.1
    have h3 : pcSum F (i + 1) = pcSum F i + pcSz (F i) := rfl
    have h4 : pcSum F 0 ≤ pcSum F i := pcSum_mono (Nat.zero_le _) (fun j hj => h.2.2.2.1 j (by omega))
    have h5 : pcSum F 0 = 0 := rfl
    have := h.2.2.2.2
    omega⟩

set_option maxRecDepth 100000 in
set_option maxHeartbeats 1000000 in
theorem walk (a0 : Option Addr) (len0 cap0 : Nat) (z0 : List Int) (w : World) (w0 : IsRow .u8 w a0 len0 cap0 z0) :
    Calls Try.prog 3 #[.slice a0 len0 cap0] w fun e w' => e = .returned (.bool true) ∧ Below w.heap.size w w' := by
  by_cases hbig : 1048576 < len0
  · go_enter Try.func3, Try.ntmps3
    go_wp2_with fail
    refine (big_yes a0 len0 cap0 _ hbig).mono ?_
    rintro e w1 ⟨rfl, rfl⟩
    go_wp2_with fail
    go_ret
    exact ⟨rfl, Below.refl _ _⟩
  · have hS := src_of w0 (by omega)
    clear w0
    go_enter Try.func3, Try.ntmps3
    go_wp2_with fail
    refine (big_no a0 len0 cap0 _ hbig).mono ?_
    rintro e w1 ⟨rfl, hw1⟩
    subst w1
    go_wp2_with fail
    refine (drawCompose hS (Below.refl _ _)).mono ?_
    rintro e w2 ⟨⟨va, vb, La, Lb, hLa, hLb, hda, hdb, rfl, hoa, hob⟩, hb2⟩
    clear hS hbig
    have HFA := hid (pcF_le2 La hLa hda)
    have HFB := hid (pcF_le2 Lb hLb hdb)
    have HA := hid (own3_arg hoa)
    have HB := hid (own3_arg hob)
    clear hoa hob hda hdb
    have HU := hid (fun w h1 h2 => cmp_any va vb La.length Lb.length (pcF La) (pcF Lb) w HFA.out HFB.out h1 h2)
    have HSP := hid (fun w h1 h2 => scmp_any va vb La.length Lb.length (pcF La) (pcF Lb) w HFA.out HFB.out h1 h2)
    have HPA := hid (fun old w h1 => pat_any old va La.length (pcF La) w HFA.out h1)
    have HPB := hid (fun old w h1 => pat_any old vb Lb.length (pcF Lb) w HFB.out h1)
    go_wp2_with fail
    refine (HU.out _ HA.out HB.out).mono ?_
    rintro e w3 ⟨⟨v1, rfl, ho1⟩, hb3⟩
    have HA3 := hid (HA.out.below hb3)
    have HB3 := hid (HB.out.below hb3)
    replace hb3 := bl3 hb2 hb3 hb2.size
    have HO1 := hid (own3_arg ho1)
    clear HA HB hb2 ho1
    go_wp2_with fail
    refine (HSP.out _ HA3.out HB3.out).mono ?_
    rintro e w4 ⟨⟨v2, rfl, ho2⟩, hb4⟩
    have HA4 := hid (HA3.out.below hb4)
    have HB4 := hid (HB3.out.below hb4)
    have HO14 := hid (HO1.out.below hb4)
    have HW4 := hid (bl3 hb3 hb4 hb3.size)
    have HO2 := hid (own3_arg ho2)
    clear HA3 HB3 HO1 hb3 hb4 ho2 HU HSP
    have HSM : Hid (∀ w n F va vb, n ≤ 1048576 → PcArg w va n F → PcArg w vb n F → Calls Try.prog 9 #[va, vb] w fun e w' => e = .returned (.bool true) ∧ Below w.heap.size w w') := fun w n F va vb hn h1 h2 => sameP_any va vb n F w hn h1 h2
    by_cases hc : cmP (pcF La) La.length (pcF Lb) Lb.length
    · have hr := cmR_yes hc
      rw [hr] at HO14 HO2 ⊢
      have HC := hid hc
      have hlen : (cmL (pcF La) La.length (pcF Lb) Lb.length).length ≤ 500 := hc.2
      clear hc hr
      have HO14 : Hid (PcArg w4 v1 (cmL (pcF La) La.length (pcF Lb) Lb.length).length (pcF (cmL (pcF La) La.length (pcF Lb) Lb.length))) := HO14.out
      have HO2 : Hid (PcArg w4 v2 (cmL (pcF La) La.length (pcF Lb) Lb.length).length (pcF (cmL (pcF La) La.length (pcF Lb) Lb.length))) := HO2.out
      have hrt : (some (cmL (pcF La) La.length (pcF Lb) Lb.length)).isSome = true := rfl
      have HMT : Hid (∀ old : ByteArray, old.size = 60 → pcR (pcF La) La.length (old.size : Int) → pcR (pcF (cmL (pcF La) La.length (pcF Lb) Lb.length)) (cmL (pcF La) La.length (pcF Lb) Lb.length).length (old.size : Int) ∧ pcR (pcF Lb) Lb.length ((patB old (pcF La) La.length).size : Int) ∧ patB old (pcF (cmL (pcF La) La.length (pcF Lb) Lb.length)) (cmL (pcF La) La.length (pcF Lb) Lb.length).length = patB (patB old (pcF La) La.length) (pcF Lb) Lb.length) := fun old ho ha => ⟨com_ok ha HC.out.1.2 HC.out.2, by rw [patB_size ha.2.2.2.1]; exact HC.out.1.2, com_tx ha HC.out.1.2⟩
      go_wp2_with fail
      refine (HSM.out _ _ _ _ _ (by omega) HO14.out HO2.out).mono ?_
      rintro e w5 ⟨rfl, hb5⟩
      have HA5 := hid (HA4.out.below hb5)
      have HB5 := hid (HB4.out.below hb5)
      have HO5 := hid (HO14.out.below hb5)
      have HW5 := hid (bl3 HW4.out hb5 HW4.out.size)
      clear HA4 HB4 HO14 HO2 HW4 hb5 HSM HC
      go_wp2_with fail
      go_loopw [9, 10] (fun u v wr => ∃ (i : Nat) (s : ByteArray), i ≤ 60 ∧ s.size = i ∧ u = .string s ∧ v = .int .i64 (i : Int) ∧ Below w5.heap.size w5 wr) (fun _ v _ => 60 - (intN v).toNat)
      case atStart => exact ⟨0, ⟨#[]⟩, by omega, rfl, rfl, rfl, Below.refl _ _⟩
      case round =>
        obtain ⟨i, s, hi, hs, rfl, rfl, hbr⟩ := hrel
        by_cases hlt : i < 60
        · have hltI : (i : Int) < 60 := by omega
          obtain ⟨k1, k2⟩ := conv8 i hlt
          have HBR := hid hbr
          clear hbr
          obtain ⟨u, hu⟩ : ∃ u : UInt8, (i : Int) + 33 = (u.toNat : Int) := ⟨UInt8.ofNat (i + 33), by rw [UInt8.toNat_ofNat']; omega⟩
          have hcv := oneB wr i u hu
          have hd1 : (⟨[u].toArray⟩ : ByteArray).size = 1 := rfl
          generalize (⟨[u].toArray⟩ : ByteArray) = d at hcv hd1
          have hov : ¬ 9223372036854775807 < s.size + d.size := by omega
          have HSD : Hid ((s ++ d).size = i + 1) := by
            show _ = _
            rw [ByteArray.size_append]; omega
          clear hu hd1 hs
          go_wp2_with fail
          go_roundw
          case rel => exact ⟨i + 1, s ++ d, by omega, HSD.out, rfl, by go_num, HBR.out.alloc HBR.out.size _⟩
          case measure => simp [intN]; omega
        · obtain rfl : i = 60 := by omega
          have HWR := hid (bl3 HW5.out hbr HW5.out.size)
          have HAR := hid (HA5.out.below hbr)
          have HBR := hid (HB5.out.below hbr)
          have HOR := hid (HO5.out.below hbr)
          clear HA5 HB5 HO5 HW5 hbr
          by_cases hpa : pcR (pcF La) La.length (s.size : Int)
          · obtain ⟨m1, m2, m3⟩ := HMT.out s hs hpa
            have HP1 := hid (fun w h => HPA.out s w h)
            rw [patB_some s (pcF La) La.length hpa, pcB_yes hpa] at HP1
            have HP2 := hid (fun w h => HPB.out (patB s (pcF La) La.length) w h)
            rw [patB_some _ (pcF Lb) Lb.length m2, pcB_yes m2] at HP2
            have HP3 : Hid (∀ w, PcArg w v1 (cmL (pcF La) La.length (pcF Lb) Lb.length).length (pcF (cmL (pcF La) La.length (pcF Lb) Lb.length)) → Calls Try.prog 10 #[.string s, v1] w fun e w' => e = .returned (.tuple #[.string (patB (patB s (pcF La) La.length) (pcF Lb) Lb.length), .bool true]) ∧ Below w.heap.size w w') := fun w h => by
              have h2 := pat_any s v1 _ _ w (pcR_le m1) h
              rw [patB_some _ _ _ m1, pcB_yes m1, m3] at h2
              exact h2
            clear m1 m2 m3 HMT HPA HPB hpa
            generalize patB (patB s (pcF La) La.length) (pcF Lb) Lb.length = T at HP2 HP3
            generalize patB s (pcF La) La.length = M at HP1 HP2
            go_wp2_with fail
            refine (HP1.out _ HAR.out).mono ?_
            rintro e w6 ⟨rfl, hb6⟩
            have HB6 := hid (HBR.out.below hb6)
            have HO6 := hid (HOR.out.below hb6)
            have HW6 := hid (bl3 HWR.out hb6 HWR.out.size)
            clear HAR HBR HOR HWR hb6
            go_wp2_with fail
            refine (HP2.out _ HB6.out).mono ?_
            rintro e w7 ⟨rfl, hb7⟩
            have HO7 := hid (HO6.out.below hb7)
            have HW7 := hid (bl3 HW6.out hb7 HW6.out.size)
            clear HO6 HW6 hb7
            go_wp2_with fail
            refine (HP3.out _ HO7.out).mono ?_
            rintro e w8 ⟨rfl, hb8⟩
            have HW8 := hid (bl3 HW7.out hb8 HW7.out.size)
            clear hb8
            go_wp2_with fail
            go_ret
            exact ⟨rfl, HW8.out⟩
          · have HP1 := hid (fun w h => HPA.out s w h)
            rw [pcB_no hpa] at HP1
            clear HMT HPA HPB hpa
            generalize patV s (pcF La) La.length = M at HP1
            go_wp2_with fail
            refine (HP1.out _ HAR.out).mono ?_
            rintro e w6 ⟨rfl, hb6⟩
            have HW6 := hid (bl3 HWR.out hb6 HWR.out.size)
            clear hb6
            go_wp2_with fail
            go_ret
            exact ⟨rfl, HW6.out⟩
    · have hr := cmR_no hc
      rw [hr] at HO14 HO2 ⊢
      have HO14 : Hid (PcArg w4 v1 0 (pcF [])) := HO14.out
      have HO2 : Hid (PcArg w4 v2 0 (pcF [])) := HO2.out
      have hrf : (none : Option (List PcI)).isSome = false := rfl
      clear hr hc
      go_wp2_with fail
      refine (HSM.out _ _ _ _ _ (by omega) HO14.out HO2.out).mono ?_
      rintro e w5 ⟨rfl, hb5⟩
      have HW5 := hid (bl3 HW4.out hb5 HW4.out.size)
      go_wp2_with fail
      first
        | (refine (HSM.out _ _ _ _ _ (by omega) (HO14.out.below hb5) (HO2.out.below hb5)).mono ?_
           rintro e w6 ⟨rfl, hb6⟩
           have HW6 := hid (bl3 HW5.out hb6 HW5.out.size)
           go_wp2_with fail
           go_ret
           exact ⟨rfl, HW6.out⟩)
        | (go_ret
           exact ⟨rfl, HW5.out⟩)

set_option maxRecDepth 100000 in
theorem lifted (os : Os) (started : os.Started) (H : Type) (enc : TypeId × Value → H) :
    ReturnsInHanded {} Try.checked os 3 .any (Rows.fnComposedSpec.pre6 enc Try.prog Try.f3 Rows.fnComposedRow.domain false) (Rows.fnComposedSpec.post enc Try.prog Try.f3 false true false false) := by
  refine returnsInHanded_of_change (C := Try.checked) own started (by kernel_rfl) Try.func3
    (ChangeSpec.witness6 (enc := enc) (C := Try.checked) false ⟨#[], #[.slice none 0 0], []⟩ 8 (by kernel_rfl) (by kernel_rfl) (by kernel_rfl) (by kernel_rfl)) ?_
  intro W base args ds gs before hval0 hW hcnd _
  have hval : ∀ (j : Nat) t v, Try.f3.params[j]? = some t → args[j]? = some v → Value.okWide Try.prog W .any base t v := hval0
  have hW' := hW
  obtain ⟨p, q, hA0, hV, rfl, hfz, hnd⟩ := hW
  have hA : DataW.TrodAll enc Try.prog W 0 (fun _ => true) true Try.f3.params.toList args.toList ds p := hA0
  rw [Try.params3] at hA hval
  obtain ⟨v0, vs0, d0, ds0, p0, q0, hargs, rfl, rfl, h0, r0⟩ := trodAll_cons hA
  obtain ⟨rfl, rfl, rfl⟩ := trodAll_nil r0
  obtain rfl : args = #[v0] := by cases args; simp_all
  obtain ⟨rfl, rfl⟩ := trodVars_none hV
  obtain ⟨a0, len0, cap0, rfl⟩ := okWide_slice Try.underlying22 (hval 0 22 v0 rfl rfl)
  have k0 := h0
  have lt0 : ∀ x ∈ p0, x.block < W.heap.size := by obtain ⟨m, hm⟩ := k0; exact DataW.trod_lt m _ _ _ hm
  obtain ⟨z0, w0⟩ : ∃ zs, IsRow .u8 W a0 len0 cap0 zs := by
    obtain ⟨fuel, hf⟩ := h0
    rcases open_ints Try.underlying22 Try.underlying5 (by kernel_rfl) hf with ⟨hcs, _⟩ | ⟨x, l, c, zs, hcs, _, hl, hm, hz, _, hcell, hwz⟩
    · simp [Value.cells] at hcs
      obtain ⟨rfl, rfl, rfl⟩ := hcs
      exact ⟨[], .inl ⟨rfl, rfl, rfl, rfl⟩⟩
    · simp [Value.cells] at hcs
      obtain ⟨rfl, rfl, rfl⟩ := hcs
      exact ⟨zs, .inr ⟨_, rfl, hl, hm, by simpa using hz, hcell, hwz⟩⟩
  clear hA0 hval0
  refine (walk a0 len0 cap0 z0 W w0).mono fun e W' ⟨he, bel⟩ => ?_
  subst he
  exact ⟨_, rfl, _, _, _, [], _, [], hW', trodAll_mk1 (shut_bool Try.underlying4 _), (trodAll_cons_mk (Below.trod laidOut (by kernel_rfl) (of_decide_eq_true (by kernel_rfl)) k0 bel lt0) trodAll_mk0), rfl, bel.frame _, fun h => by cases h⟩

theorem over : Rows.fnComposedRow.holds Try.pinned (OpenSpec.ofChange Rows.fnComposedSpec) :=
  OpenClaim.holds_of_wide 3 Try.f3 rfl rfl rfl rfl rfl rfl rfl ⟨rfl, rfl, rfl, rfl, rfl⟩ rfl rfl rfl rfl rfl (by kernel_rfl) Try.func3 (by kernel_rfl)
    (of_decide_eq_true (by kernel_rfl)) (by unfold Func.isWrapper; first | (rw [if_pos (by decide +kernel)]; kernel_rfl) | (rw [if_neg (by decide +kernel)]; exact ⟨rfl, rfl⟩))
    (fun os started H enc _ => lifted os started H enc)

theorem proved : Rows.FnComposedSaid := over
#print axioms proved
end Go.Proofs.Ytckpnggjboafpae.fnComposed
