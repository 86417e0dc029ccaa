/-
  A version that is added is told as it is: the law of drawn chains
-/
import Derived.Test.YtpeddaljgmkomaaRows
import Derived.Test.YtpeddaljgmkomaaCnA
import Derived.Test.YtpeddaljgmkomaaPk30
import Derived.Test.YtpeddaljgmkomaaAvL
import Derived.Test.YtpeddaljgmkomaaAvC
import Derived.Test.YtpeddaljgmkomaaPk31
import Derived.Laws.Rows
import Derived.BigQuiet
import Derived.WalkKit
import Derived.ProofKit
import Derived.OpenShut
import Derived.ShutString
import Derived.ChangeOld
import Derived.Below
namespace Go.Proofs.Ytpeddaljgmkomaa.fnVersions
open Go.ChangeShapes Go.WideShapes Go.ChangeAt Go.RowKit
open Go.ChangeMaps (open_string shut_string)
set_option linter.unusedVariables false

theorem own : ownKnob Try.prog.godebug = none := by kernel_rfl
theorem laidOut : laidOutB Try.prog = true := by kernel_rfl

/-- WHAT THE WALK IS TOLD OF A SLICE OF INTEGERS THAT CAME IN: it is nil; or it leads to a row of 'cap' cells, the numbers 'zs' (the first 'len' are its elements, the rest its spare room), each fitting its kind. -/
def IsRow (k : IntKind) (w : World) (a : Option Addr) (len cap : Nat) (zs : List Int) : Prop :=
  (a = none ∧ len = 0 ∧ cap = 0 ∧ zs = []) ∨
  ∃ x, a = some x ∧ len ≤ cap ∧ cap ≤ maxLen ∧ zs.length = cap ∧ (∀ i, i < zs.length → w.cell? (x.add i) = some (.int k (zs.getD i 0))) ∧ ∀ n ∈ zs, (Lit.int k n).wf = true

set_option linter.unusedSimpArgs false
set_option linter.unusedVariables false

set_option maxRecDepth 100000 in
set_option maxHeartbeats 1000000 in
theorem walk (a0 : Option Addr) (len0 cap0 : Nat) (z0 : List Int) (w : World) (w0 : IsRow .u8 w a0 len0 cap0 z0) :
    Calls Try.prog 10 #[.slice a0 len0 cap0] w fun e w' => e = .returned (.bool true) ∧ Below w.heap.size w w' := by
  by_cases hbig : 1048576 < len0
  · go_enter Try.func10, Try.ntmps10
    go_wp2_with fail
    refine (big_yes a0 len0 cap0 _ hbig).mono ?_
    rintro e w1 ⟨rfl, rfl⟩
    go_wp2_with fail
    go_ret
    exact ⟨rfl, Below.refl _ _⟩
  · have hS := src_of w0 (by omega)
    clear w0
    go_enter Try.func10, Try.ntmps10
    go_wp2_with fail
    refine (big_no a0 len0 cap0 _ hbig).mono ?_
    rintro e w1 ⟨rfl, hw1⟩
    subst w1
    go_wp2_with fail
    refine (drawAdd hS (Below.refl _ _)).mono ?_
    rintro e w2 ⟨⟨v, L, s, k, hL9, hle, hs, hk, rfl, bs, hd⟩, hb2⟩
    obtain ⟨a, c, rfl, _⟩ := lks_at hd
    have HB2 := dhid hb2
    have HV2 := dhid hd
    have HU : Hid (∀ w, Hd w (lksD L) (.slice a L.length c) bs → Calls Try.prog 23 #[.slice a L.length c, .string s, .int .i64 k] w fun e w' => LkPost w (avR L s k) e w') := fun w h => add_any _ L bs s k w (by omega) hk hle h
    have HSP : Hid (∀ w, Hd w (lksD L) (.slice a L.length c) bs → Calls Try.prog 22 #[.slice a L.length c, .string s, .int .i64 k] w fun e w' => LkPost w (avR L s k) e w') := fun w h => sadd_any _ L bs s k w (by omega) hle h
    have HLE := dhid hle
    have HK := dhid hk
    obtain ⟨n, hn⟩ : ∃ n, n = L.length := ⟨_, rfl⟩
    rw [← hn] at HV2 HU HSP ⊢
    have HN := dhid hn
    clear hS hbig hb2 hd hle hk hn
    have hnI : (n : Int) ≤ 9 := by have := HN.out; omega
    cases hR : avR L s k with
    | none =>
      rw [hR] at HU HSP
      have HU2 : Hid (∀ w, Hd w (lksD L) (.slice a n c) bs → Calls Try.prog 23 #[.slice a n c, .string s, .int .i64 k] w fun e w' => (∃ v, e = .returned (.tuple #[v, .bool false]) ∧ Own w' w.heap.size (lksD []) v) ∧ Below w.heap.size w w') := HU.out
      have HS2 : Hid (∀ w, Hd w (lksD L) (.slice a n c) bs → Calls Try.prog 22 #[.slice a n c, .string s, .int .i64 k] w fun e w' => (∃ v, e = .returned (.tuple #[v, .bool false]) ∧ Own w' w.heap.size (lksD []) v) ∧ Below w.heap.size w w') := HSP.out
      clear hR HU HSP
      go_wp2_with fail
      refine (HU2.out _ HV2.out).mono ?_
      rintro e w3 ⟨⟨v1, rfl, ho1⟩, hb3⟩
      obtain ⟨a1, c1, e1, _⟩ := lks_own ho1
      have e1 : v1 = .slice a1 0 c1 := e1
      subst e1
      have HV3 := dhid (HV2.out.under hb3)
      have HB3 := dhid (dblow HB2.out hb3 HB2.out.size)
      clear ho1 hb3 HU2
      go_wp2_with fail
      refine (HS2.out _ HV3.out).mono ?_
      rintro e w4 ⟨⟨v2, rfl, ho2⟩, hb4⟩
      obtain ⟨a2, c2, e2, _⟩ := lks_own ho2
      have e2 : v2 = .slice a2 0 c2 := e2
      subst e2
      have HB4 := dhid (dblow HB3.out hb4 HB3.out.size)
      clear ho2 hb4 HS2
      go_wp2_with fail
      go_ret
      exact ⟨rfl, HB4.out⟩
    | some M =>
      obtain ⟨hMl, hMe, hcb, ⟨D, hD0, hD6, hvn⟩, hsm, ca, cb, hca, hcbL, hle1, hcbB, hs4⟩ := av_good HLE.out hR
      rw [hR] at HU HSP
      have HU2 : Hid (∀ w, Hd w (lksD L) (.slice a n c) bs → Calls Try.prog 23 #[.slice a n c, .string s, .int .i64 k] w fun e w' => (∃ v, e = .returned (.tuple #[v, .bool true]) ∧ Own w' w.heap.size (lksD M) v) ∧ Below w.heap.size w w') := HU.out
      have HS2 : Hid (∀ w, Hd w (lksD L) (.slice a n c) bs → Calls Try.prog 22 #[.slice a n c, .string s, .int .i64 k] w fun e w' => (∃ v, e = .returned (.tuple #[v, .bool true]) ∧ Own w' w.heap.size (lksD M) v) ∧ Below w.heap.size w w') := HSP.out
      have HML : Hid (M.length = n + 1) := by show M.length = n + 1; rw [hMl, ← HN.out]
      have hwn : (Lit.int .i64 (n : Int)).wf = true := Go.WalkArith.wf_i64 (by omega)
      rw [← HN.out] at hvn
      have HVM : Hid (∀ v bs w, Hd w (lksD M) v bs → Calls Try.prog 19 #[v, .int .i64 (n : Int)] w fun e w' => e = .returned (.tuple #[.string s, .bool true]) ∧ Below w.heap.size w w') := fun v bs w h => by
        have h2 := verAt_any v M bs (n : Int) w hwn hMe h
        rw [hvn] at h2
        exact h2
      have hdp : depI M (n : Int) = D := depI_yes hvn
      have HDA : Hid (∀ v bs w, Hd w (lksD M) v bs → Calls Try.prog 21 #[v, .int .i64 (n : Int)] w fun e w' => e = .returned (.int .i64 D) ∧ Below w.heap.size w w') := fun v bs w h => by
        have h2 := depAt_any v M bs (n : Int) w hwn hMe h
        rw [hdp] at h2
        exact h2
      have HDS : Hid (∀ v bs w, Hd w (lksD M) v bs → Calls Try.prog 20 #[v, .int .i64 (n : Int)] w fun e w' => e = .returned (.int .i64 D) ∧ Below w.heap.size w w') := fun v bs w h => by
        have h2 := sdepAt_any v M bs (n : Int) w hMe h
        rw [hdp] at h2
        exact h2
      have HCB : Hid (∀ v bs w, Hd w (lksD M) v bs → Calls Try.prog 16 #[v] w fun e w' => e = .returned (.bool true) ∧ Below w.heap.size w w') := fun v bs w h => by
        have h2 := chain_any v M bs w hMe h
        rw [hcb] at h2
        exact h2
      have HSV : Hid (∀ va vb ba bb w, Hd w (lksD L) va ba → Hd w (lksD M) vb bb → Calls Try.prog 34 #[va, vb] w fun e w' => e = .returned (.bool true) ∧ Below w.heap.size w w') := fun va vb ba bb w h1 h2 => sameV_any va vb L M ba bb w HLE.out hMe h1 h2 hsm
      have HBM : Hid (∀ v bs w, Hd w (lksD M) v bs → Calls Try.prog 31 #[v] w fun e w' => e = .returned (.int .i64 (ca : Int)) ∧ Below w.heap.size w w') := fun v bs w h => by
        have h2 := cb_any v M bs w hMe h
        rw [hca] at h2
        exact h2
      have HBL : Hid (∀ v bs w, Hd w (lksD L) v bs → Calls Try.prog 31 #[v] w fun e w' => e = .returned (.int .i64 (cb : Int)) ∧ Below w.heap.size w w') := fun v bs w h => by
        have h2 := cb_any v L bs w HLE.out h
        rw [hcbL] at h2
        exact h2
      have hDn : ¬ D < 0 := by omega
      have hDx : ¬ 6 < D := by omega
      have hsz : (s.size : Int) ≤ 4000 := by omega
      have hle2 : (ca : Int) ≤ (cb : Int) + (s.size : Int) := by omega
      have hws : IntKind.i64.wrap ((cb : Int) + (s.size : Int)) = (cb : Int) + (s.size : Int) := by rw [IntKind.wrap_i64]; omega
      clear hR HU HSP hMl hMe hcb hdp hsm hvn hca hcbL hle1 hcbB hs4 hwn hD0 hD6
      go_wp2_with fail
      refine (HU2.out _ HV2.out).mono ?_
      rintro e w3 ⟨⟨v1, rfl, ho1⟩, hb3⟩
      obtain ⟨a1, c1, e1, _⟩ := lks_own ho1
      rw [HML.out] at e1
      subst e1
      obtain ⟨bM, hM, _⟩ := ho1
      have HM3 := dhid hM
      have HV3 := dhid (HV2.out.under hb3)
      have HB3 := dhid (dblow HB2.out hb3 HB2.out.size)
      clear hM hb3 HU2
      go_wp2_with fail
      refine (HS2.out _ HV3.out).mono ?_
      rintro e w4 ⟨⟨v2, rfl, ho2⟩, hb4⟩
      obtain ⟨a2, c2, e2, _⟩ := lks_own ho2
      rw [HML.out] at e2
      subst e2
      obtain ⟨bW, hW, _⟩ := ho2
      have HW4 := dhid hW
      have HM4 := dhid (HM3.out.under hb4)
      have HV4 := dhid (HV3.out.under hb4)
      have HB4 := dhid (dblow HB3.out hb4 HB3.out.size)
      clear hW hb4 HS2
      go_wp2_with fail
      refine (HVM.out _ _ _ HM4.out).mono ?_
      rintro e w5 ⟨rfl, hb⟩
      have HM5 := dhid (HM4.out.under hb)
      have HV5 := dhid (HV4.out.under hb)
      have HW5 := dhid (HW4.out.under hb)
      have HB5 := dhid (dblow HB4.out hb HB4.out.size)
      clear hb HVM HM4 HV4 HW4 HB4
      go_wp2_with fail
      refine (HDA.out _ _ _ HM5.out).mono ?_
      rintro e w6 ⟨rfl, hb⟩
      have HM6 := dhid (HM5.out.under hb)
      have HV6 := dhid (HV5.out.under hb)
      have HW6 := dhid (HW5.out.under hb)
      have HB6 := dhid (dblow HB5.out hb HB5.out.size)
      clear hb HDA HM5 HV5 HW5 HB5
      go_wp2_with fail
      refine (HCB.out _ _ _ HM6.out).mono ?_
      rintro e w7 ⟨rfl, hb⟩
      have HM7 := dhid (HM6.out.under hb)
      have HV7 := dhid (HV6.out.under hb)
      have HW7 := dhid (HW6.out.under hb)
      have HB7 := dhid (dblow HB6.out hb HB6.out.size)
      clear hb HCB HM6 HV6 HW6 HB6
      go_wp2_with fail
      refine (HSV.out _ _ _ _ _ HV7.out HM7.out).mono ?_
      rintro e w8 ⟨rfl, hb⟩
      have HM8 := dhid (HM7.out.under hb)
      have HV8 := dhid (HV7.out.under hb)
      have HW8 := dhid (HW7.out.under hb)
      have HB8 := dhid (dblow HB7.out hb HB7.out.size)
      clear hb HSV HM7 HV7 HW7 HB7
      go_wp2_with fail
      refine (HBM.out _ _ _ HM8.out).mono ?_
      rintro e w9 ⟨rfl, hb⟩
      have HM9 := dhid (HM8.out.under hb)
      have HV9 := dhid (HV8.out.under hb)
      have HW9 := dhid (HW8.out.under hb)
      have HB9 := dhid (dblow HB8.out hb HB8.out.size)
      clear hb HBM HM8 HV8 HW8 HB8
      go_wp2_with fail
      refine (HBL.out _ _ _ HV9.out).mono ?_
      rintro e w10 ⟨rfl, hb⟩
      have HM10 := dhid (HM9.out.under hb)
      have HV10 := dhid (HV9.out.under hb)
      have HW10 := dhid (HW9.out.under hb)
      have HB10 := dhid (dblow HB9.out hb HB9.out.size)
      clear hb HBL HM9 HV9 HW9 HB9
      go_wp2_with fail
      refine (HDS.out _ _ _ HW10.out).mono ?_
      rintro e w11 ⟨rfl, hb⟩
      have HM11 := dhid (HM10.out.under hb)
      have HV11 := dhid (HV10.out.under hb)
      have HW11 := dhid (HW10.out.under hb)
      have HB11 := dhid (dblow HB10.out hb HB10.out.size)
      clear hb HDS HM10 HV10 HW10 HB10
      go_wp2_with fail
      go_ret
      exact ⟨rfl, HB11.out⟩

set_option maxRecDepth 100000 in
theorem lifted (os : Os) (started : os.Started) (H : Type) (enc : TypeId × Value → H) :
    ReturnsInHanded {} Try.checked os 10 .any (Rows.fnVersionsSpec.pre6 enc Try.prog Try.f10 Rows.fnVersionsRow.domain false) (Rows.fnVersionsSpec.post enc Try.prog Try.f10 false true false false) := by
  refine returnsInHanded_of_change (C := Try.checked) own started (by kernel_rfl) Try.func10
    (ChangeSpec.witness6 (enc := enc) (C := Try.checked) false ⟨#[], #[.slice none 0 0], []⟩ 8 (by kernel_rfl) (by kernel_rfl) (by kernel_rfl) (by kernel_rfl)) ?_
  intro W base args ds gs before hval0 hW hcnd _
  have hval : ∀ (j : Nat) t v, Try.f10.params[j]? = some t → args[j]? = some v → Value.okWide Try.prog W .any base t v := hval0
  have hW' := hW
  obtain ⟨p, q, hA0, hV, rfl, hfz, hnd⟩ := hW
  have hA : DataW.TrodAll enc Try.prog W 0 (fun _ => true) true Try.f10.params.toList args.toList ds p := hA0
  rw [Try.params10] at hA hval
  obtain ⟨v0, vs0, d0, ds0, p0, q0, hargs, rfl, rfl, h0, r0⟩ := trodAll_cons hA
  obtain ⟨rfl, rfl, rfl⟩ := trodAll_nil r0
  obtain rfl : args = #[v0] := by cases args; simp_all
  obtain ⟨rfl, rfl⟩ := trodVars_none hV
  obtain ⟨a0, len0, cap0, rfl⟩ := okWide_slice Try.underlying39 (hval 0 39 v0 rfl rfl)
  have k0 := h0
  have lt0 : ∀ x ∈ p0, x.block < W.heap.size := by obtain ⟨m, hm⟩ := k0; exact DataW.trod_lt m _ _ _ hm
  obtain ⟨z0, w0⟩ : ∃ zs, IsRow .u8 W a0 len0 cap0 zs := by
    obtain ⟨fuel, hf⟩ := h0
    rcases open_ints Try.underlying39 Try.underlying5 (by kernel_rfl) hf with ⟨hcs, _⟩ | ⟨x, l, c, zs, hcs, _, hl, hm, hz, _, hcell, hwz⟩
    · simp [Value.cells] at hcs
      obtain ⟨rfl, rfl, rfl⟩ := hcs
      exact ⟨[], .inl ⟨rfl, rfl, rfl, rfl⟩⟩
    · simp [Value.cells] at hcs
      obtain ⟨rfl, rfl, rfl⟩ := hcs
      exact ⟨zs, .inr ⟨_, rfl, hl, hm, by simpa using hz, hcell, hwz⟩⟩
  clear hA0 hval0
  refine (walk a0 len0 cap0 z0 W w0).mono fun e W' ⟨he, bel⟩ => ?_
  subst he
  exact ⟨_, rfl, _, _, _, [], _, [], hW', trodAll_mk1 (shut_bool Try.underlying4 _), (trodAll_cons_mk (Below.trod laidOut (by kernel_rfl) (of_decide_eq_true (by kernel_rfl)) k0 bel lt0) trodAll_mk0), rfl, bel.frame _, fun h => by cases h⟩

theorem over : Rows.fnVersionsRow.holds Try.pinned (OpenSpec.ofChange Rows.fnVersionsSpec) :=
  OpenClaim.holds_of_wide 10 Try.f10 rfl rfl rfl rfl rfl rfl rfl ⟨rfl, rfl, rfl, rfl, rfl⟩ rfl rfl rfl rfl rfl (by kernel_rfl) Try.func10 (by kernel_rfl)
    (of_decide_eq_true (by kernel_rfl)) (by unfold Func.isWrapper; first | (rw [if_pos (by decide +kernel)]; kernel_rfl) | (rw [if_neg (by decide +kernel)]; exact ⟨rfl, rfl⟩))
    (fun os started H enc _ => lifted os started H enc)

theorem proved : Rows.FnVersionsSaid := over
#print axioms proved
end Go.Proofs.Ytpeddaljgmkomaa.fnVersions
