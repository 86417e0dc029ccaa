/-
  With a delta that skips its base a version is less deep by one: the law of drawn chains
-/
import Derived.Test.YtpeddaljgmkomaaRows
import Derived.Test.YtpeddaljgmkomaaCnS
import Derived.Test.YtpeddaljgmkomaaPk30
import Derived.Test.YtpeddaljgmkomaaSkL
import Derived.Test.YtpeddaljgmkomaaSkS
import Derived.Test.YtpeddaljgmkomaaSkC
import Derived.Test.YtpeddaljgmkomaaPk31
import Derived.Laws.Rows
import Derived.BigQuiet
import Derived.WalkKit
import Derived.ProofKit
import Derived.OpenShut
import Derived.ShutString
import Derived.ChangeOld
import Derived.Below
namespace Go.Proofs.Ytpeddaljgmkomaa.fnSkipped
open Go.ChangeShapes Go.WideShapes Go.ChangeAt Go.RowKit
open Go.ChangeMaps (open_string shut_string)
set_option linter.unusedVariables false

theorem own : ownKnob Try.prog.godebug = none := by kernel_rfl
theorem laidOut : laidOutB Try.prog = true := by kernel_rfl

/-- WHAT THE WALK IS TOLD OF A SLICE OF INTEGERS THAT CAME IN: it is nil; or it leads to a row of 'cap' cells, the numbers 'zs' (the first 'len' are its elements, the rest its spare room), each fitting its kind. -/
def IsRow (k : IntKind) (w : World) (a : Option Addr) (len cap : Nat) (zs : List Int) : Prop :=
  (a = none ∧ len = 0 ∧ cap = 0 ∧ zs = []) ∨
  ∃ x, a = some x ∧ len ≤ cap ∧ cap ≤ maxLen ∧ zs.length = cap ∧ (∀ i, i < zs.length → w.cell? (x.add i) = some (.int k (zs.getD i 0))) ∧ ∀ n ∈ zs, (Lit.int k n).wf = true

set_option linter.unusedSimpArgs false
set_option linter.unusedVariables false

set_option maxRecDepth 100000 in
set_option maxHeartbeats 1000000 in
theorem walk (a0 : Option Addr) (len0 cap0 : Nat) (z0 : List Int) (w : World) (w0 : IsRow .u8 w a0 len0 cap0 z0) :
    Calls Try.prog 12 #[.slice a0 len0 cap0] w fun e w' => e = .returned (.bool true) ∧ Below w.heap.size w w' := by
  by_cases hbig : 1048576 < len0
  · go_enter Try.func12, Try.ntmps12
    go_wp2_with fail
    refine (big_yes a0 len0 cap0 _ hbig).mono ?_
    rintro e w1 ⟨rfl, rfl⟩
    go_wp2_with fail
    go_ret
    exact ⟨rfl, Below.refl _ _⟩
  · have hS := src_of w0 (by omega)
    clear w0
    go_enter Try.func12, Try.ntmps12
    go_wp2_with fail
    refine (big_no a0 len0 cap0 _ hbig).mono ?_
    rintro e w1 ⟨rfl, hw1⟩
    subst w1
    go_wp2_with fail
    refine (drawSkip hS (Below.refl _ _)).mono ?_
    rintro e w2 ⟨⟨v, L, k, hL9, hle, hk, rfl, bs, hd⟩, hb2⟩
    obtain ⟨a, c, rfl, _⟩ := lks_at hd
    have HB2 := dhid hb2
    have HV2 := dhid hd
    have HU : Hid (∀ w, Hd w (lksD L) (.slice a L.length c) bs → Calls Try.prog 29 #[.slice a L.length c, .int .i64 k] w fun e w' => LkPost w (skR L k) e w') := fun w h => skip_any _ L bs k w hk hle h
    have HSP : Hid (∀ w, Hd w (lksD L) (.slice a L.length c) bs → Calls Try.prog 28 #[.slice a L.length c, .int .i64 k] w fun e w' => LkPost w (skR L k) e w') := fun w h => sskip_any _ L bs k w hle h
    have HLE := dhid hle
    have HK := dhid hk
    obtain ⟨n, hn⟩ : ∃ n, n = L.length := ⟨_, rfl⟩
    rw [← hn] at HV2 HU HSP ⊢
    have HN := dhid hn
    clear hS hbig hb2 hd hle hk hL9 hn
    cases hR : skR L k with
    | none =>
      rw [hR] at HU HSP
      have HU2 : Hid (∀ w, Hd w (lksD L) (.slice a n c) bs → Calls Try.prog 29 #[.slice a n c, .int .i64 k] w fun e w' => (∃ v, e = .returned (.tuple #[v, .bool false]) ∧ Own w' w.heap.size (lksD []) v) ∧ Below w.heap.size w w') := HU.out
      have HS2 : Hid (∀ w, Hd w (lksD L) (.slice a n c) bs → Calls Try.prog 28 #[.slice a n c, .int .i64 k] w fun e w' => (∃ v, e = .returned (.tuple #[v, .bool false]) ∧ Own w' w.heap.size (lksD []) v) ∧ Below w.heap.size w w') := HSP.out
      clear hR HU HSP
      go_wp2_with fail
      refine (HU2.out _ HV2.out).mono ?_
      rintro e w3 ⟨⟨v1, rfl, ho1⟩, hb3⟩
      obtain ⟨a1, c1, e1, _⟩ := lks_own ho1
      have e1 : v1 = .slice a1 0 c1 := e1
      subst e1
      have HV3 := dhid (HV2.out.under hb3)
      have HB3 := dhid (dblow HB2.out hb3 HB2.out.size)
      clear ho1 hb3 HU2
      go_wp2_with fail
      refine (HS2.out _ HV3.out).mono ?_
      rintro e w4 ⟨⟨v2, rfl, ho2⟩, hb4⟩
      obtain ⟨a2, c2, e2, _⟩ := lks_own ho2
      have e2 : v2 = .slice a2 0 c2 := e2
      subst e2
      have HB4 := dhid (dblow HB3.out hb4 HB3.out.size)
      clear ho2 hb4 HS2
      go_wp2_with fail
      go_ret
      exact ⟨rfl, HB4.out⟩
    | some M =>
      obtain ⟨hMl, hMe, hdp, hsm⟩ := sk_good HLE.out hR
      rw [hR] at HU HSP
      have HU2 : Hid (∀ w, Hd w (lksD L) (.slice a n c) bs → Calls Try.prog 29 #[.slice a n c, .int .i64 k] w fun e w' => (∃ v, e = .returned (.tuple #[v, .bool true]) ∧ Own w' w.heap.size (lksD M) v) ∧ Below w.heap.size w w') := HU.out
      have HS2 : Hid (∀ w, Hd w (lksD L) (.slice a n c) bs → Calls Try.prog 28 #[.slice a n c, .int .i64 k] w fun e w' => (∃ v, e = .returned (.tuple #[v, .bool true]) ∧ Own w' w.heap.size (lksD M) v) ∧ Below w.heap.size w w') := HSP.out
      have HML : Hid (M.length = n) := by show M.length = n; rw [hMl, ← HN.out]
      have hbd := depI_bd L k
      have HDA : Hid (∀ v bs w, Hd w (lksD M) v bs → Calls Try.prog 21 #[v, .int .i64 k] w fun e w' => e = .returned (.int .i64 (depI L k - 1)) ∧ Below w.heap.size w w') := fun v bs w h => by
        have h2 := depAt_any v M bs k w HK.out hMe h
        rw [hdp] at h2
        exact h2
      have HDL : Hid (∀ v bs w, Hd w (lksD L) v bs → Calls Try.prog 21 #[v, .int .i64 k] w fun e w' => e = .returned (.int .i64 (depI L k)) ∧ Below w.heap.size w w') := fun v bs w h => depAt_any v L bs k w HK.out HLE.out h
      have HSV : Hid (∀ va vb ba bb w, Hd w (lksD L) va ba → Hd w (lksD M) vb bb → Calls Try.prog 34 #[va, vb] w fun e w' => e = .returned (.bool true) ∧ Below w.heap.size w w') := fun va vb ba bb w h1 h2 => sameV_any va vb L M ba bb w HLE.out hMe h1 h2 hsm
      clear hR HU HSP hMl hMe hdp hsm
      generalize depI L k = D at HDA HDL hbd
      have hwD : IntKind.i64.wrap (D - 1) = D - 1 := by rw [IntKind.wrap_i64]; omega
      go_wp2_with fail
      refine (HU2.out _ HV2.out).mono ?_
      rintro e w3 ⟨⟨v1, rfl, ho1⟩, hb3⟩
      obtain ⟨a1, c1, e1, _⟩ := lks_own ho1
      rw [HML.out] at e1
      subst e1
      obtain ⟨bM, hM, _⟩ := ho1
      have HM3 := dhid hM
      have HV3 := dhid (HV2.out.under hb3)
      have HB3 := dhid (dblow HB2.out hb3 HB2.out.size)
      clear hM hb3 HU2
      go_wp2_with fail
      refine (HS2.out _ HV3.out).mono ?_
      rintro e w4 ⟨⟨v2, rfl, ho2⟩, hb4⟩
      obtain ⟨a2, c2, e2, _⟩ := lks_own ho2
      rw [HML.out] at e2
      subst e2
      have HM4 := dhid (HM3.out.under hb4)
      have HV4 := dhid (HV3.out.under hb4)
      have HB4 := dhid (dblow HB3.out hb4 HB3.out.size)
      clear ho2 hb4 HS2
      go_wp2_with fail
      refine (HDA.out _ _ _ HM4.out).mono ?_
      rintro e w5 ⟨rfl, hb5⟩
      have HM5 := dhid (HM4.out.under hb5)
      have HV5 := dhid (HV4.out.under hb5)
      have HB5 := dhid (dblow HB4.out hb5 HB4.out.size)
      clear hb5 HDA
      go_wp2_with fail
      refine (HDL.out _ _ _ HV5.out).mono ?_
      rintro e w6 ⟨rfl, hb6⟩
      have HM6 := dhid (HM5.out.under hb6)
      have HV6 := dhid (HV5.out.under hb6)
      have HB6 := dhid (dblow HB5.out hb6 HB5.out.size)
      clear hb6 HDL
      go_wp2_with fail
      refine (HSV.out _ _ _ _ _ HV6.out HM6.out).mono ?_
      rintro e w7 ⟨rfl, hb7⟩
      have HB7 := dhid (dblow HB6.out hb7 HB6.out.size)
      clear hb7 HSV
      go_wp2_with fail
      go_ret
      exact ⟨rfl, HB7.out⟩

set_option maxRecDepth 100000 in
theorem lifted (os : Os) (started : os.Started) (H : Type) (enc : TypeId × Value → H) :
    ReturnsInHanded {} Try.checked os 12 .any (Rows.fnSkippedSpec.pre6 enc Try.prog Try.f12 Rows.fnSkippedRow.domain false) (Rows.fnSkippedSpec.post enc Try.prog Try.f12 false true false false) := by
  refine returnsInHanded_of_change (C := Try.checked) own started (by kernel_rfl) Try.func12
    (ChangeSpec.witness6 (enc := enc) (C := Try.checked) false ⟨#[], #[.slice none 0 0], []⟩ 8 (by kernel_rfl) (by kernel_rfl) (by kernel_rfl) (by kernel_rfl)) ?_
  intro W base args ds gs before hval0 hW hcnd _
  have hval : ∀ (j : Nat) t v, Try.f12.params[j]? = some t → args[j]? = some v → Value.okWide Try.prog W .any base t v := hval0
  have hW' := hW
  obtain ⟨p, q, hA0, hV, rfl, hfz, hnd⟩ := hW
  have hA : DataW.TrodAll enc Try.prog W 0 (fun _ => true) true Try.f12.params.toList args.toList ds p := hA0
  rw [Try.params12] at hA hval
  obtain ⟨v0, vs0, d0, ds0, p0, q0, hargs, rfl, rfl, h0, r0⟩ := trodAll_cons hA
  obtain ⟨rfl, rfl, rfl⟩ := trodAll_nil r0
  obtain rfl : args = #[v0] := by cases args; simp_all
  obtain ⟨rfl, rfl⟩ := trodVars_none hV
  obtain ⟨a0, len0, cap0, rfl⟩ := okWide_slice Try.underlying39 (hval 0 39 v0 rfl rfl)
  have k0 := h0
  have lt0 : ∀ x ∈ p0, x.block < W.heap.size := by obtain ⟨m, hm⟩ := k0; exact DataW.trod_lt m _ _ _ hm
  obtain ⟨z0, w0⟩ : ∃ zs, IsRow .u8 W a0 len0 cap0 zs := by
    obtain ⟨fuel, hf⟩ := h0
    rcases open_ints Try.underlying39 Try.underlying5 (by kernel_rfl) hf with ⟨hcs, _⟩ | ⟨x, l, c, zs, hcs, _, hl, hm, hz, _, hcell, hwz⟩
    · simp [Value.cells] at hcs
      obtain ⟨rfl, rfl, rfl⟩ := hcs
      exact ⟨[], .inl ⟨rfl, rfl, rfl, rfl⟩⟩
    · simp [Value.cells] at hcs
      obtain ⟨rfl, rfl, rfl⟩ := hcs
      exact ⟨zs, .inr ⟨_, rfl, hl, hm, by simpa using hz, hcell, hwz⟩⟩
  clear hA0 hval0
  refine (walk a0 len0 cap0 z0 W w0).mono fun e W' ⟨he, bel⟩ => ?_
  subst he
  exact ⟨_, rfl, _, _, _, [], _, [], hW', trodAll_mk1 (shut_bool Try.underlying4 _), (trodAll_cons_mk (Below.trod laidOut (by kernel_rfl) (of_decide_eq_true (by kernel_rfl)) k0 bel lt0) trodAll_mk0), rfl, bel.frame _, fun h => by cases h⟩

theorem over : Rows.fnSkippedRow.holds Try.pinned (OpenSpec.ofChange Rows.fnSkippedSpec) :=
  OpenClaim.holds_of_wide 12 Try.f12 rfl rfl rfl rfl rfl rfl rfl ⟨rfl, rfl, rfl, rfl, rfl⟩ rfl rfl rfl rfl rfl (by kernel_rfl) Try.func12 (by kernel_rfl)
    (of_decide_eq_true (by kernel_rfl)) (by unfold Func.isWrapper; first | (rw [if_pos (by decide +kernel)]; kernel_rfl) | (rw [if_neg (by decide +kernel)]; exact ⟨rfl, rfl⟩))
    (fun os started H enc _ => lifted os started H enc)

theorem proved : Rows.FnSkippedSaid := over
#print axioms proved
end Go.Proofs.Ytpeddaljgmkomaa.fnSkipped
