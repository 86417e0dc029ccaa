/-
  A week has seven days, and begins three days behind the end of the first one.
-/
import Derived.Test.YtpolplemjaibgaaRows
import Derived.Test.YtpolplemjaibgaaWk
import Derived.Test.YtpolplemjaibgaaOffB
import Derived.Test.YtpolplemjaibgaaBig
import Derived.WalkKit
import Derived.ProofKit
import Derived.OpenShut
import Derived.ShutString
import Derived.ChangeOld
import Derived.Below
namespace Go.Proofs.Ytpolplemjaibgaa.fnWeeks
open Go.ChangeShapes Go.WideShapes Go.ChangeAt Go.RowKit
open Go.ChangeMaps (open_string shut_string)
set_option linter.unusedVariables false

theorem own : ownKnob Try.prog.godebug = none := by kernel_rfl
theorem laidOut : laidOutB Try.prog = true := by kernel_rfl

/-- WHAT THE WALK IS TOLD OF A SLICE OF INTEGERS THAT CAME IN: it is nil; or it leads to a row of 'cap' cells, the numbers 'zs' (the first 'len' are its elements, the rest its spare room), each fitting its kind. -/
def IsRow (k : IntKind) (w : World) (a : Option Addr) (len cap : Nat) (zs : List Int) : Prop :=
  (a = none ∧ len = 0 ∧ cap = 0 ∧ zs = []) ∨
  ∃ x, a = some x ∧ len ≤ cap ∧ cap ≤ maxLen ∧ zs.length = cap ∧ (∀ i, i < zs.length → w.cell? (x.add i) = some (.int k (zs.getD i 0))) ∧ ∀ n ∈ zs, (Lit.int k n).wf = true

set_option maxRecDepth 100000 in
set_option maxHeartbeats 1000000 in
theorem drawWeek {w0 : World} {a : Option Addr} {len cap : Nat} {W : World} (hS : Src w0 a len) (hb : Below w0.heap.size w0 W) :
    Calls Try.prog 23 #[.slice a len cap] W fun e w' => (∃ t : Int, e = .returned (.int .i64 t)) ∧ Below w0.heap.size w0 w' := by
  go_enter Try.func23, Try.ntmps23
  go_wp2_with fail
  refine (open_any hb).mono ?_
  rintro e w1 ⟨rfl, hr, _⟩
  go_wp2_with fail
  refine (offB_any hS hr 0 100000000000 (by omega) (by omega) (by omega)).mono ?_
  rintro e w2 ⟨⟨p, hp1, hp2, rfl⟩, hr2⟩
  go_wp2_with fail
  refine (below_any hS hr2.rd 9 (by omega) (by omega)).mono ?_
  rintro e w3 ⟨⟨x, hx1, hx2, rfl⟩, hr3⟩
  go_wp2_with fail
  go_ret
  exact ⟨⟨_, rfl⟩, hr3.rd.below⟩
theorem wk_seven {t : Int} (h : wkP t) (h2 : t + 604800 ≤ 100000000000) : wkI (t + 604800) = wkI t + 1 ∧ wkI (t + 86400) ≤ wkI t + 1 ∧ 0 ≤ wkI t ∧ wkI t ≤ 200000 := by
  obtain ⟨a, b⟩ := h
  rw [wk_yes (t := t + 604800) ⟨by omega, h2⟩, wk_yes (t := t + 86400) ⟨by omega, by omega⟩, wk_yes (t := t) ⟨a, b⟩]
  omega

set_option maxRecDepth 100000 in
set_option maxHeartbeats 1000000 in
theorem walk (a0 : Option Addr) (len0 cap0 : Nat) (z0 : List Int) (w : World) (w0 : IsRow .u8 w a0 len0 cap0 z0) :
    Calls Try.prog 7 #[.slice a0 len0 cap0] w fun e w' => e = .returned (.bool true) ∧ Below w.heap.size w w' := by
  by_cases hbig : 1048576 < len0
  · go_enter Try.func7, Try.ntmps7
    go_wp2_with fail
    refine (big_yes a0 len0 cap0 _ hbig).mono ?_
    rintro e w1 ⟨rfl, rfl⟩
    go_wp2_with fail
    go_ret
    exact ⟨rfl, Below.refl _ _⟩
  · have hS := src_of w0 (by omega)
    clear w0
    go_enter Try.func7, Try.ntmps7
    go_wp2_with fail
    refine (big_no a0 len0 cap0 _ hbig).mono ?_
    rintro e w1 ⟨rfl, hw1⟩
    subst w1
    go_wp2_with fail
    refine (drawWeek hS (Below.refl _ _)).mono ?_
    rintro e w2 ⟨⟨t, rfl⟩, hbw⟩
    have HA : Hid (∀ t w, Calls Try.prog 13 #[.int .i64 t] w fun e w' => e = .returned (.int .i64 (wkI t)) ∧ w' = w) := fun t w => wk_any t w
    have HB : Hid (∀ w, Calls Try.prog 12 #[.int .i64 t] w fun e w' => e = .returned (.int .i64 (wkI t)) ∧ w' = w) := fun w => swk_any t w
    have HA0 : Hid (∀ w, Calls Try.prog 13 #[.int .i64 t] w fun e w' => e = .returned (.int .i64 (wkI t)) ∧ w' = w) := fun w => wk_any t w
    have HA1 : Hid (∀ w, Calls Try.prog 13 #[.int .i64 (t + 604800)] w fun e w' => e = .returned (.int .i64 (wkI (t + 604800))) ∧ w' = w) := fun w => wk_any _ w
    have HA2 : Hid (∀ w, Calls Try.prog 13 #[.int .i64 (t + 86400)] w fun e w' => e = .returned (.int .i64 (wkI (t + 86400))) ∧ w' = w) := fun w => wk_any _ w
    have HA3 : Hid (∀ w, Calls Try.prog 13 #[.int .i64 345599] w fun e w' => e = .returned (.int .i64 0) ∧ w' = w) := fun w => wk_any 345599 w
    have HA4 : Hid (∀ w, Calls Try.prog 13 #[.int .i64 345600] w fun e w' => e = .returned (.int .i64 1) ∧ w' = w) := fun w => wk_any 345600 w
    by_cases hP : wkP t
    · by_cases h7 : t + 604800 ≤ 100000000000
      · obtain ⟨q1, q2, q3, q4⟩ := wk_seven hP h7
        obtain ⟨p1, p2⟩ := hP
        have hw1 : IntKind.i64.wrap (t + 604800) = t + 604800 := by rw [IntKind.wrap_i64]; omega
        have hw2 : IntKind.i64.wrap (t + 86400) = t + 86400 := by rw [IntKind.wrap_i64]; omega
        have hl1 : ¬ 100000000000 < t + 604800 := by omega
        rw [q1] at HA1
        clear q1 p1 p2 h7
        generalize wkI (t + 86400) = q' at HA2 q2
        generalize wkI t = q at HA0 HB HA1 q2 q3 q4
        have hl0 : ¬ q < 0 := by omega
        have hw3 : IntKind.i64.wrap (q + 1) = q + 1 := by rw [IntKind.wrap_i64]; omega
        clear q3 q4
        go_wp2_with fail
        refine (HA0.out _).mono ?_
        rintro e w' ⟨rfl, hw⟩
        subst w'
        go_wp2_with fail
        refine (HB.out _).mono ?_
        rintro e w' ⟨rfl, hw⟩
        subst w'
        go_wp2_with fail
        refine (HA1.out _).mono ?_
        rintro e w' ⟨rfl, hw⟩
        subst w'
        go_wp2_with fail
        refine (HA2.out _).mono ?_
        rintro e w' ⟨rfl, hw⟩
        subst w'
        go_wp2_with fail
        refine (HA3.out _).mono ?_
        rintro e w' ⟨rfl, hw⟩
        subst w'
        go_wp2_with fail
        refine (HA4.out _).mono ?_
        rintro e w' ⟨rfl, hw⟩
        subst w'
        go_wp2_with fail
        go_ret
        exact ⟨rfl, hbw⟩
      · have hl1 : 100000000000 < t + 604800 := by omega
        have q3 : 0 ≤ wkI t := by rw [wk_yes hP]; have := hP.1; omega
        obtain ⟨p1, p2⟩ := hP
        have hw1 : IntKind.i64.wrap (t + 604800) = t + 604800 := by rw [IntKind.wrap_i64]; omega
        clear p1 p2 h7 HA1 HA2 HA3 HA4
        generalize wkI t = q at HA0 HB q3
        have hl0 : ¬ q < 0 := by omega
        clear q3
        go_wp2_with fail
        refine (HA0.out _).mono ?_
        rintro e w' ⟨rfl, hw⟩
        subst w'
        go_wp2_with fail
        refine (HB.out _).mono ?_
        rintro e w' ⟨rfl, hw⟩
        subst w'
        go_wp2_with fail
        refine (HB.out _).mono ?_
        rintro e w' ⟨rfl, hw⟩
        subst w'
        go_wp2_with fail
        go_ret
        exact ⟨rfl, hbw⟩
    · rw [wk_no hP] at HA0 HB
      clear HA1 HA2 HA3 HA4 hP
      go_wp2_with fail
      refine (HA0.out _).mono ?_
      rintro e w' ⟨rfl, hw⟩
      subst w'
      go_wp2_with fail
      refine (HB.out _).mono ?_
      rintro e w' ⟨rfl, hw⟩
      subst w'
      go_wp2_with fail
      refine (HB.out _).mono ?_
      rintro e w' ⟨rfl, hw⟩
      subst w'
      go_wp2_with fail
      go_ret
      exact ⟨rfl, hbw⟩

set_option maxRecDepth 100000 in
theorem lifted (os : Os) (started : os.Started) (H : Type) (enc : TypeId × Value → H) :
    ReturnsInHanded {} Try.checked os 7 .any (Rows.fnWeeksSpec.pre6 enc Try.prog Try.f7 Rows.fnWeeksRow.domain false) (Rows.fnWeeksSpec.post enc Try.prog Try.f7 false true false false) := by
  refine returnsInHanded_of_change (C := Try.checked) own started (by kernel_rfl) Try.func7
    (ChangeSpec.witness6 (enc := enc) (C := Try.checked) false ⟨#[], #[.slice none 0 0], []⟩ 8 (by kernel_rfl) (by kernel_rfl) (by kernel_rfl) (by kernel_rfl)) ?_
  intro W base args ds gs before hval0 hW hcnd _
  have hval : ∀ (j : Nat) t v, Try.f7.params[j]? = some t → args[j]? = some v → Value.okWide Try.prog W .any base t v := hval0
  have hW' := hW
  obtain ⟨p, q, hA0, hV, rfl, hfz, hnd⟩ := hW
  have hA : DataW.TrodAll enc Try.prog W 0 (fun _ => true) true Try.f7.params.toList args.toList ds p := hA0
  rw [Try.params7] at hA hval
  obtain ⟨v0, vs0, d0, ds0, p0, q0, hargs, rfl, rfl, h0, r0⟩ := trodAll_cons hA
  obtain ⟨rfl, rfl, rfl⟩ := trodAll_nil r0
  obtain rfl : args = #[v0] := by cases args; simp_all
  obtain ⟨rfl, rfl⟩ := trodVars_none hV
  obtain ⟨a0, len0, cap0, rfl⟩ := okWide_slice Try.underlying37 (hval 0 37 v0 rfl rfl)
  have k0 := h0
  have lt0 : ∀ x ∈ p0, x.block < W.heap.size := by obtain ⟨m, hm⟩ := k0; exact DataW.trod_lt m _ _ _ hm
  obtain ⟨z0, w0⟩ : ∃ zs, IsRow .u8 W a0 len0 cap0 zs := by
    obtain ⟨fuel, hf⟩ := h0
    rcases open_ints Try.underlying37 Try.underlying5 (by kernel_rfl) hf with ⟨hcs, _⟩ | ⟨x, l, c, zs, hcs, _, hl, hm, hz, _, hcell, hwz⟩
    · simp [Value.cells] at hcs
      obtain ⟨rfl, rfl, rfl⟩ := hcs
      exact ⟨[], .inl ⟨rfl, rfl, rfl, rfl⟩⟩
    · simp [Value.cells] at hcs
      obtain ⟨rfl, rfl, rfl⟩ := hcs
      exact ⟨zs, .inr ⟨_, rfl, hl, hm, by simpa using hz, hcell, hwz⟩⟩
  clear hA0 hval0
  refine (walk a0 len0 cap0 z0 W w0).mono fun e W' ⟨he, bel⟩ => ?_
  subst he
  exact ⟨_, rfl, _, _, _, [], _, [], hW', trodAll_mk1 (shut_bool Try.underlying4 _), (trodAll_cons_mk (Below.trod laidOut (by kernel_rfl) (of_decide_eq_true (by kernel_rfl)) k0 bel lt0) trodAll_mk0), rfl, bel.frame _, fun h => by cases h⟩

theorem over : Rows.fnWeeksRow.holds Try.pinned (OpenSpec.ofChange Rows.fnWeeksSpec) :=
  OpenClaim.holds_of_wide 7 Try.f7 rfl rfl rfl rfl rfl rfl rfl ⟨rfl, rfl, rfl, rfl, rfl⟩ rfl rfl rfl rfl rfl (by kernel_rfl) Try.func7 (by kernel_rfl)
    (of_decide_eq_true (by kernel_rfl)) (by unfold Func.isWrapper; first | (rw [if_pos (by decide +kernel)]; kernel_rfl) | (rw [if_neg (by decide +kernel)]; exact ⟨rfl, rfl⟩))
    (fun os started H enc _ => lifted os started H enc)

theorem proved : Rows.FnWeeksSaid := over
#print axioms proved
end Go.Proofs.Ytpolplemjaibgaa.fnWeeks
