/-
  What Patch makes of the first pieces and of the rest, drawn.
-/
import Derived.Test.YtckpnggjboafpadRows
import Derived.Test.YtckpnggjboafpadDrwPcs
import Derived.Test.YtckpnggjboafpadBig
import Derived.Test.YtckpnggjboafpadDrw
import Derived.Test.YtckpnggjboafpadPatO
import Derived.Test.YtckpnggjboafpadPatS
import Derived.Laws.Rows
import Derived.BigQuiet
import Derived.WalkKit
import Derived.ProofKit
import Derived.OpenShut
import Derived.ShutString
import Derived.ChangeOld
import Derived.Below
namespace Go.Proofs.Ytckpnggjboafpad.fnPatched
open Go.ChangeShapes Go.WideShapes Go.ChangeAt Go.RowKit
open Go.ChangeMaps (open_string shut_string)
set_option linter.unusedVariables false

theorem own : ownKnob Try.prog.godebug = none := by kernel_rfl
theorem laidOut : laidOutB Try.prog = true := by kernel_rfl

/-- WHAT THE WALK IS TOLD OF A SLICE OF INTEGERS THAT CAME IN: it is nil; or it leads to a row of 'cap' cells, the numbers 'zs' (the first 'len' are its elements, the rest its spare room), each fitting its kind. -/
def IsRow (k : IntKind) (w : World) (a : Option Addr) (len cap : Nat) (zs : List Int) : Prop :=
  (a = none ∧ len = 0 ∧ cap = 0 ∧ zs = []) ∨
  ∃ x, a = some x ∧ len ≤ cap ∧ cap ≤ maxLen ∧ zs.length = cap ∧ (∀ i, i < zs.length → w.cell? (x.add i) = some (.int k (zs.getD i 0))) ∧ ∀ n ∈ zs, (Lit.int k n).wf = true

set_option linter.unusedSimpArgs false
set_option linter.unusedVariables false
theorem pcF_le (L : List PcI) (hL : L.length ≤ 7) (h : ∀ p ∈ L, p.d.size ≤ 5) : PcLe (pcF L) L.length := by
  refine ⟨by omega, fun i hi => ?_⟩
  have e : pcF L i = L[i] := by unfold pcF; simp [hi]
  rw [e]
  have := h _ (List.getElem_mem hi)
  omega
theorem modK (a n : Nat) (h : n ≤ 7) : ∃ k : Nat, k ≤ n ∧ (a : Int) % ((n : Int) + 1) = (k : Int) := by
  refine ⟨a % (n + 1), by have := Nat.mod_lt a (show 0 < n + 1 by omega); omega, ?_⟩
  rw [Int.natCast_emod]
  rfl

set_option maxRecDepth 100000 in
set_option maxHeartbeats 1000000 in
theorem walk (a0 : Option Addr) (len0 cap0 : Nat) (z0 : List Int) (w : World) (w0 : IsRow .u8 w a0 len0 cap0 z0) :
    Calls Try.prog 8 #[.slice a0 len0 cap0] w fun e w' => e = .returned (.bool true) ∧ Below w.heap.size w w' := by
  by_cases hbig : 1048576 < len0
  · go_enter Try.func8, Try.ntmps8
    go_wp2_with fail
    refine (big_yes a0 len0 cap0 _ hbig).mono ?_
    rintro e w1 ⟨rfl, rfl⟩
    go_wp2_with fail
    go_ret
    exact ⟨rfl, Below.refl _ _⟩
  · have hS := src_of w0 (by omega)
    clear w0
    go_enter Try.func8, Try.ntmps8
    go_wp2_with fail
    refine (big_no a0 len0 cap0 _ hbig).mono ?_
    rintro e w1 ⟨rfl, hw1⟩
    subst w1
    go_wp2_with fail
    refine (drawPatch hS (Below.refl _ _)).mono ?_
    rintro e w2 ⟨⟨s, v, L, hs, hL, hd, rfl, ho⟩, hb2⟩
    have hlen : len0 ≤ 1048576 := by omega
    clear hS hbig
    have hF := pcF_le L hL hd
    have HA : Hid (PcArg w2 v L.length (pcF L)) := own3_arg ho
    have hform : (v = .slice none 0 0 ∧ L.length = 0) ∨ ∃ g cap, v = .slice (some ⟨g, 0, none⟩) L.length cap ∧ L.length ≤ cap ∧ (0 < L.length → PcRow w2 g L.length (pcF L)) := by
      obtain ⟨hl, ⟨h0, hn⟩ | ⟨g, cap, cur, h1, h2, h3, h4, h5, h6, h7⟩⟩ := ho
      · exact Or.inl ⟨h0, hn⟩
      · subst h1
        refine Or.inr ⟨g, cap, rfl, h4, fun h0 => ?_⟩
        obtain ⟨_, _, e, hr⟩ := HA.out
        cases e
        obtain ⟨g2, e2, hr⟩ := hr h0
        cases e2
        exact hr
    have HU : Hid (∀ w, PcArg w v L.length (pcF L) → Calls Try.prog 31 #[.string s, v] w fun e w' => e = .returned (.tuple #[.string (patV s (pcF L) L.length), .bool (pcB (pcF L) L.length (s.size : Int))]) ∧ Below w.heap.size w w') := fun w h => pat_any s v L.length (pcF L) w hF h
    have HSP : Hid (∀ w, PcArg w v L.length (pcF L) → Calls Try.prog 34 #[.string s, v] w fun e w' => e = .returned (.tuple #[.string (patV s (pcF L) L.length), .bool (pcB (pcF L) L.length (s.size : Int))]) ∧ Below w.heap.size w w') := fun w h => spat_any s v L.length (pcF L) w hF h
    have HK : Hid (∀ w, PcArg w v L.length (pcF L) → Calls Try.prog 32 #[.int .i64 (s.size : Int), v] w fun e w' => e = .returned (.bool (pcB (pcF L) L.length (s.size : Int))) ∧ Below w.heap.size w w') := fun w h => pcs_any v L.length (pcF L) (s.size : Int) w hF h
    have HN : Hid (pcR (pcF L) L.length (s.size : Int) → patV s (pcF L) L.length = patB s (pcF L) L.length ∧ pcB (pcF L) L.length (s.size : Int) = true) := fun h => ⟨patB_some s (pcF L) L.length h, pcB_yes h⟩
    have HNO : Hid (¬ pcR (pcF L) L.length (s.size : Int) → pcB (pcF L) L.length (s.size : Int) = false) := fun h => pcB_no h
    clear ho hd
    generalize pcF L = F at *
    generalize L.length = n at *
    clear L
    obtain ⟨sa, sc, rfl, _⟩ := HA.out
    by_cases hp : pcR F n (s.size : Int)
    · obtain ⟨hv1, hv2⟩ := HN.out hp
      rw [hv1, hv2] at HU HSP
      have HP := hid hp
      clear hv1 hv2 HN HNO hp HK
      have hsz : (patB s F n).size ≤ 4000 := patB_le HP.out (Nat.le_refl _)
      obtain ⟨k, hk, hrem⟩ := modK len0 n hL
      obtain ⟨m, hn⟩ : ∃ m, n = k + m := ⟨n - k, by omega⟩
      have HAP : Hid (patB s F n = patB s F k ++ patB s (fun i => F (k + i)) m) := by rw [hn]; exact patB_app s F k m
      have HPL := hid (pcR_left HP.out hk)
      have HPR : Hid (pcR (fun i => F (k + i)) m (s.size : Int)) := pcR_right (k := k) (by rw [← hn]; exact HP.out)
      have HFL : Hid (PcLe F k ∧ PcLe (fun i => F (k + i)) m) := ⟨⟨by omega, fun i hi => hF.d i (by omega)⟩, ⟨by omega, fun i hi => hF.d (k + i) (by omega)⟩⟩
      have HL1 : Hid (∀ a c w, (0 < k → ∃ g off, a = some ⟨g, off, none⟩ ∧ PcRowO w g off k F) → Calls Try.prog 31 #[.string s, .slice a k c] w fun e w' => e = .returned (.tuple #[.string (patB s F k), .bool true]) ∧ Below w.heap.size w w') := fun a c w h => patO_yes s a c k F w HFL.out.1 HPL.out h
      have HL2 : Hid (∀ a c w, (0 < m → ∃ g off, a = some ⟨g, off, none⟩ ∧ PcRowO w g off m (fun i => F (k + i))) → Calls Try.prog 31 #[.string s, .slice a m c] w fun e w' => e = .returned (.tuple #[.string (patB s (fun i => F (k + i)) m), .bool true]) ∧ Below w.heap.size w w') := fun a c w h => patO_yes s a c m (fun i => F (k + i)) w HFL.out.2 HPR.out h
      clear hF HP HPL HPR HFL
      generalize patB s F n = T at HU HSP HAP hsz
      generalize patB s F k = T1 at HL1 HAP
      generalize patB s (fun i => F (k + i)) m = T2 at HL2 HAP
      have HB2 : Hid (¬ 9223372036854775807 < T1.size + T2.size) := by
        have h1 : (T1 ++ T2).size ≤ 4000 := by rw [← HAP.out]; exact hsz
        rw [ByteArray.size_append] at h1
        show ¬ _
        omega
      have HKM : Hid (n = k + m) := hn
      clear hsz hn
      go_wp2_with fail
      refine (HU.out _ HA.out).mono ?_
      rintro e w3 ⟨rfl, hb3⟩
      have HA3 := hid (HA.out.below hb3)
      have HBS : Hid (Below w2.heap.size w2 w3) := hb3
      replace hb3 := bl3 hb2 hb3 hb2.size
      clear HA hb2
      go_wp2_with fail
      refine (HSP.out _ HA3.out).mono ?_
      rintro e w4 ⟨rfl, hb4⟩
      have HB4 := hid (bl3 hb3 hb4 hb3.size)
      have HB24 : Hid (Below w2.heap.size w2 w4) := bl3 HBS.out hb4 HBS.out.size
      clear HA3 hb3 hb4 HBS HU HSP
      rcases hform with ⟨hv, hn0⟩ | ⟨g, cap, hv, hcap, hrow⟩
      · cases hv
        have hkm : 0 = k + m := HKM.out
        obtain rfl : k = 0 := by omega
        obtain rfl : m = 0 := by omega
        clear hkm
        go_wp2_with fail
        refine (HL1.out _ _ _ (fun h => absurd h (by omega))).mono ?_
        rintro e w5 ⟨rfl, hb5⟩
        have HB5 := hid (bl3 HB4.out hb5 HB4.out.size)
        have HB25 : Hid (Below w2.heap.size w2 w5) := bl3 HB24.out hb5 HB24.out.size
        clear hb5 HB4 HB24
        go_wp2_with fail
        refine (HL2.out _ _ _ (fun h => absurd h (by omega))).mono ?_
        rintro e w6 ⟨rfl, hb6⟩
        have HB6 := hid (bl3 HB5.out hb6 HB5.out.size)
        clear hb6 HB5 HB25
        have hT := HAP.out.symm
        have hbig2 := HB2.out
        go_wp2_with fail
        go_ret
        exact ⟨rfl, HB6.out⟩
      · cases hv
        have hnw : IntKind.i64.wrap ((n : Int) + 1) = (n : Int) + 1 := by rw [IntKind.wrap_i64]; omega
        have hc1 : (k : Int) ≤ (sc : Int) := by omega
        have hc2 : (k : Int) ≤ (n : Int) := by omega
        have hc3 : (n : Int) ≤ (sc : Int) := by omega
        have hkm : n = k + m := HKM.out
        have hnk : n - k = m := by omega
        have HR1 : Hid (∀ w, Below w2.heap.size w2 w → 0 < k → ∃ g2 off, some (⟨g, 0, none⟩ : Addr) = some ⟨g2, off, none⟩ ∧ PcRowO w g2 off k F) := fun w hb h0 => by
          have hr := (hrow (by omega)).at (k := 0) (m := k) (by omega)
          refine ⟨g, 0, rfl, ?_⟩
          have h2 := hr.below hb hr.lt
          simpa using h2
        have HR2 : Hid (∀ w, Below w2.heap.size w2 w → 0 < m → PcRowO w g (k * 3) m (fun i => F (k + i))) := fun w hb h0 => by
          have hr := (hrow (by omega)).at (k := k) (m := m) (by omega)
          exact hr.below hb hr.lt
        clear hrow
        have HC : Hid (k = sc → m = 0) := fun h => by omega
        clear hkm
        by_cases hks : sc = k
        · have HM0 : Hid (m = 0) := HC.out hks.symm
          clear HC
          subst hks
          go_wp2_with fail
          refine (HL1.out _ _ _ (HR1.out _ HB24.out)).mono ?_
          rintro e w5 ⟨rfl, hb5⟩
          have HB5 := hid (bl3 HB4.out hb5 HB4.out.size)
          have HB25 : Hid (Below w2.heap.size w2 w5) := bl3 HB24.out hb5 HB24.out.size
          clear hb5 HB4 HB24
          go_wp2_with fail
          refine (HL2.out _ _ _ (fun h => absurd h (by have := HM0.out; omega))).mono ?_
          rintro e w6 ⟨rfl, hb6⟩
          have HB6 := hid (bl3 HB5.out hb6 HB5.out.size)
          clear hb6 HB5 HB25
          have hT := HAP.out.symm
          have hbig2 := HB2.out
          go_wp2_with fail
          go_ret
          exact ⟨rfl, HB6.out⟩
        · have hks2 : ¬ k = sc := fun h => hks h.symm
          go_wp2_with fail
          refine (HL1.out _ _ _ (HR1.out _ HB24.out)).mono ?_
          rintro e w5 ⟨rfl, hb5⟩
          have HB5 := hid (bl3 HB4.out hb5 HB4.out.size)
          have HB25 : Hid (Below w2.heap.size w2 w5) := bl3 HB24.out hb5 HB24.out.size
          clear hb5 HB4 HB24
          go_wp2_with fail
          refine (HL2.out _ _ _ (fun h => ⟨g, k * 3, rfl, HR2.out _ HB25.out h⟩)).mono ?_
          rintro e w6 ⟨rfl, hb6⟩
          have HB6 := hid (bl3 HB5.out hb6 HB5.out.size)
          clear hb6 HB5 HB25
          have hT := HAP.out.symm
          have hbig2 := HB2.out
          go_wp2_with fail
          go_ret
          exact ⟨rfl, HB6.out⟩
    · have hv2 := HNO.out hp
      rw [hv2] at HU HSP HK
      clear HN HNO hp hF hform
      generalize patV s F n = T at HU HSP
      go_wp2_with fail
      refine (HU.out _ HA.out).mono ?_
      rintro e w3 ⟨rfl, hb3⟩
      have HA3 := hid (HA.out.below hb3)
      replace hb3 := bl3 hb2 hb3 hb2.size
      clear HA hb2
      go_wp2_with fail
      refine (HSP.out _ HA3.out).mono ?_
      rintro e w4 ⟨rfl, hb4⟩
      have HA4 := hid (HA3.out.below hb4)
      replace hb4 := bl3 hb3 hb4 hb3.size
      clear HA3 hb3
      go_wp2_with fail
      refine (HK.out _ HA4.out).mono ?_
      rintro e w5 ⟨rfl, hb5⟩
      replace hb5 := bl3 hb4 hb5 hb4.size
      go_wp2_with fail
      go_ret
      exact ⟨rfl, hb5⟩

set_option maxRecDepth 100000 in
theorem lifted (os : Os) (started : os.Started) (H : Type) (enc : TypeId × Value → H) :
    ReturnsInHanded {} Try.checked os 8 .any (Rows.fnPatchedSpec.pre6 enc Try.prog Try.f8 Rows.fnPatchedRow.domain false) (Rows.fnPatchedSpec.post enc Try.prog Try.f8 false true false false) := by
  refine returnsInHanded_of_change (C := Try.checked) own started (by kernel_rfl) Try.func8
    (ChangeSpec.witness6 (enc := enc) (C := Try.checked) false ⟨#[], #[.slice none 0 0], []⟩ 8 (by kernel_rfl) (by kernel_rfl) (by kernel_rfl) (by kernel_rfl)) ?_
  intro W base args ds gs before hval0 hW hcnd _
  have hval : ∀ (j : Nat) t v, Try.f8.params[j]? = some t → args[j]? = some v → Value.okWide Try.prog W .any base t v := hval0
  have hW' := hW
  obtain ⟨p, q, hA0, hV, rfl, hfz, hnd⟩ := hW
  have hA : DataW.TrodAll enc Try.prog W 0 (fun _ => true) true Try.f8.params.toList args.toList ds p := hA0
  rw [Try.params8] at hA hval
  obtain ⟨v0, vs0, d0, ds0, p0, q0, hargs, rfl, rfl, h0, r0⟩ := trodAll_cons hA
  obtain ⟨rfl, rfl, rfl⟩ := trodAll_nil r0
  obtain rfl : args = #[v0] := by cases args; simp_all
  obtain ⟨rfl, rfl⟩ := trodVars_none hV
  obtain ⟨a0, len0, cap0, rfl⟩ := okWide_slice Try.underlying22 (hval 0 22 v0 rfl rfl)
  have k0 := h0
  have lt0 : ∀ x ∈ p0, x.block < W.heap.size := by obtain ⟨m, hm⟩ := k0; exact DataW.trod_lt m _ _ _ hm
  obtain ⟨z0, w0⟩ : ∃ zs, IsRow .u8 W a0 len0 cap0 zs := by
    obtain ⟨fuel, hf⟩ := h0
    rcases open_ints Try.underlying22 Try.underlying5 (by kernel_rfl) hf with ⟨hcs, _⟩ | ⟨x, l, c, zs, hcs, _, hl, hm, hz, _, hcell, hwz⟩
    · simp [Value.cells] at hcs
      obtain ⟨rfl, rfl, rfl⟩ := hcs
      exact ⟨[], .inl ⟨rfl, rfl, rfl, rfl⟩⟩
    · simp [Value.cells] at hcs
      obtain ⟨rfl, rfl, rfl⟩ := hcs
      exact ⟨zs, .inr ⟨_, rfl, hl, hm, by simpa using hz, hcell, hwz⟩⟩
  clear hA0 hval0
  refine (walk a0 len0 cap0 z0 W w0).mono fun e W' ⟨he, bel⟩ => ?_
  subst he
  exact ⟨_, rfl, _, _, _, [], _, [], hW', trodAll_mk1 (shut_bool Try.underlying4 _), (trodAll_cons_mk (Below.trod laidOut (by kernel_rfl) (of_decide_eq_true (by kernel_rfl)) k0 bel lt0) trodAll_mk0), rfl, bel.frame _, fun h => by cases h⟩

theorem over : Rows.fnPatchedRow.holds Try.pinned (OpenSpec.ofChange Rows.fnPatchedSpec) :=
  OpenClaim.holds_of_wide 8 Try.f8 rfl rfl rfl rfl rfl rfl rfl ⟨rfl, rfl, rfl, rfl, rfl⟩ rfl rfl rfl rfl rfl (by kernel_rfl) Try.func8 (by kernel_rfl)
    (of_decide_eq_true (by kernel_rfl)) (by unfold Func.isWrapper; first | (rw [if_pos (by decide +kernel)]; kernel_rfl) | (rw [if_neg (by decide +kernel)]; exact ⟨rfl, rfl⟩))
    (fun os started H enc _ => lifted os started H enc)

theorem proved : Rows.FnPatchedSaid := over
#print axioms proved
end Go.Proofs.Ytckpnggjboafpad.fnPatched
