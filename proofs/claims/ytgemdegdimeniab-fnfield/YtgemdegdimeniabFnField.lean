/-
  Products of bytes do not ask which stands first, nor in which order three are taken, and go over what is xored; 1 changes nothing. Of every code. No condition.
-/
import Derived.Test.YtgemdegdimeniabRows
import Derived.Test.YtgemdegdimeniabCipTimes
import Derived.Test.YtgemdegdimeniabDrwCip
import Derived.Test.YtgemdegdimeniabBig
import Derived.WalkKit
import Derived.ProofKit
import Derived.OpenShut
import Derived.ShutString
import Derived.ChangeOld
import Derived.Below
namespace Go.Proofs.Ytgemdegdimeniab.fnField
open Go.ChangeShapes Go.WideShapes Go.ChangeAt Go.RowKit
open Go.ChangeMaps (open_string shut_string)
set_option linter.unusedVariables false

theorem own : ownKnob Try.prog.godebug = none := by kernel_rfl
theorem laidOut : laidOutB Try.prog = true := by kernel_rfl

/-- WHAT THE WALK IS TOLD OF A SLICE OF INTEGERS THAT CAME IN: it is nil; or it leads to a row of 'cap' cells, the numbers 'zs' (the first 'len' are its elements, the rest its spare room), each fitting its kind. -/
def IsRow (k : IntKind) (w : World) (a : Option Addr) (len cap : Nat) (zs : List Int) : Prop :=
  (a = none ∧ len = 0 ∧ cap = 0 ∧ zs = []) ∨
  ∃ x, a = some x ∧ len ≤ cap ∧ cap ≤ maxLen ∧ zs.length = cap ∧ (∀ i, i < zs.length → w.cell? (x.add i) = some (.int k (zs.getD i 0))) ∧ ∀ n ∈ zs, (Lit.int k n).wf = true


set_option maxRecDepth 100000 in
set_option maxHeartbeats 1000000 in
theorem walk (a0 : Option Addr) (len0 cap0 : Nat) (z0 : List Int) (w : World) (w0 : IsRow .u8 w a0 len0 cap0 z0) :
    Calls Try.prog 3 #[.slice a0 len0 cap0] w fun e w' => e = .returned (.bool true) ∧ Below w.heap.size w w' := by
  by_cases hbig : 1048576 < len0
  · go_enter Try.func3, Try.ntmps3
    go_wp2_with fail
    refine (big_yes a0 len0 cap0 _ hbig).mono ?_
    rintro e w1 ⟨rfl, rfl⟩
    go_wp2_with fail
    go_ret
    exact ⟨rfl, Below.refl _ _⟩
  · have hS := src_of w0 (by omega)
    clear w0
    go_enter Try.func3, Try.ntmps3
    go_wp2_with fail
    refine (big_no a0 len0 cap0 _ hbig).mono ?_
    rintro e w1 ⟨rfl, hw1⟩
    subst w1
    go_wp2_with fail
    refine (drawTimes hS (Below.refl _ _)).mono ?_
    rintro e w2 ⟨⟨a, b, ha, hb, rfl⟩, hb2⟩
    go_wp2_with fail
    refine (drawSub hS hb2).mono ?_
    rintro e w3 ⟨⟨c, hc, rfl⟩, hb3⟩
    clear hb2
    have hP : mulB (a % 256) (b % 256) < 256 := mulB_lt _ _ (by omega)
    have hQ : mulB (b % 256) (c % 256) < 256 := mulB_lt _ _ (by omega)
    have hV : mulB (a % 256) (c % 256) < 256 := mulB_lt _ _ (by omega)
    have hX : b ^^^ c < 4294967296 := Nat.xor_lt_two_pow (n := 32) hb hc
    have hxo : bits .xor .u32 (b : Int) (c : Int) = ((b ^^^ c : Nat) : Int) := u32_xor_nat b c hb hc
    have H1 : Hid (∀ w, Calls Try.prog 10 #[.int .u32 (a : Int), .int .u32 (b : Int)] w fun e w' => e = .returned (.int .u32 (mulB (a % 256) (b % 256) : Nat)) ∧ w' = w) := fun w => times_any a b w ha hb
    have HS1 : Hid (∀ w, Calls Try.prog 11 #[.int .u32 (a : Int), .int .u32 (b : Int)] w fun e w' => e = .returned (.int .u32 (mulB (a % 256) (b % 256) : Nat)) ∧ w' = w) := fun w => stimes_top a b w ha hb
    have H2 : Hid (∀ w, Calls Try.prog 10 #[.int .u32 (b : Int), .int .u32 (a : Int)] w fun e w' => e = .returned (.int .u32 (mulB (a % 256) (b % 256) : Nat)) ∧ w' = w) := fun w => by
      have := times_any b a w hb ha
      rwa [mul_comm (by omega) (by omega)] at this
    have H3 : Hid (∀ w, Calls Try.prog 10 #[.int .u32 (a : Int), .int .u32 1] w fun e w' => e = .returned (.int .u32 ((a : Int) % 256)) ∧ w' = w) := fun w => by
      have := times_any a 1 w ha (by omega)
      rwa [show 1 % 256 = 1 from rfl, mul_one (by omega), show ((a % 256 : Nat) : Int) = (a : Int) % 256 by omega] at this
    have H4 : Hid (∀ w, Calls Try.prog 10 #[.int .u32 (mulB (a % 256) (b % 256) : Nat), .int .u32 (c : Int)] w fun e w' => e = .returned (.int .u32 (mulB (mulB (a % 256) (b % 256)) (c % 256) : Nat)) ∧ w' = w) := fun w => by
      have := times_any (mulB (a % 256) (b % 256)) c w (by omega) hc
      rwa [Nat.mod_eq_of_lt hP] at this
    have H5 : Hid (∀ w, Calls Try.prog 10 #[.int .u32 (b : Int), .int .u32 (c : Int)] w fun e w' => e = .returned (.int .u32 (mulB (b % 256) (c % 256) : Nat)) ∧ w' = w) := fun w => times_any b c w hb hc
    have H6 : Hid (∀ w, Calls Try.prog 10 #[.int .u32 (a : Int), .int .u32 (mulB (b % 256) (c % 256) : Nat)] w fun e w' => e = .returned (.int .u32 (mulB (mulB (a % 256) (b % 256)) (c % 256) : Nat)) ∧ w' = w) := fun w => by
      have := times_any a (mulB (b % 256) (c % 256)) w ha (by omega)
      rwa [Nat.mod_eq_of_lt hQ, ← mul_assoc (by omega) (by omega) (by omega)] at this
    have H7 : Hid (∀ w, Calls Try.prog 10 #[.int .u32 (a : Int), .int .u32 ((b ^^^ c : Nat) : Int)] w fun e w' => e = .returned (.int .u32 ((mulB (a % 256) (b % 256) ^^^ mulB (a % 256) (c % 256) : Nat) : Int)) ∧ w' = w) := fun w => by
      have := times_any a (b ^^^ c) w ha hX
      rwa [show (b ^^^ c) % 256 = b % 256 ^^^ c % 256 from Nat.xor_mod_two_pow (n := 8), mul_xorr] at this
    have H8 : Hid (∀ w, Calls Try.prog 10 #[.int .u32 (a : Int), .int .u32 (c : Int)] w fun e w' => e = .returned (.int .u32 (mulB (a % 256) (c % 256) : Nat)) ∧ w' = w) := fun w => times_any a c w ha hc
    have hxv : bits .xor .u32 ((mulB (a % 256) (b % 256) : Nat) : Int) ((mulB (a % 256) (c % 256) : Nat) : Int) = ((mulB (a % 256) (b % 256) ^^^ mulB (a % 256) (c % 256) : Nat) : Int) := u32_xor_nat _ _ (by omega) (by omega)
    generalize mulB (mulB (a % 256) (b % 256)) (c % 256) = R at H4 H6
    generalize mulB (a % 256) (b % 256) ^^^ mulB (a % 256) (c % 256) = S at H7 hxv
    generalize mulB (a % 256) (b % 256) = P at hP H1 HS1 H2 H4 hxv
    generalize mulB (b % 256) (c % 256) = Q at hQ H5 H6
    generalize mulB (a % 256) (c % 256) = V at hV H8 hxv
    generalize b ^^^ c = X at hX hxo H7
    go_wp2_with fail
    refine (H1.out _).mono ?_
    rintro e w' ⟨rfl, hw⟩
    subst w'
    go_wp2_with fail
    refine (HS1.out _).mono ?_
    rintro e w' ⟨rfl, hw⟩
    subst w'
    go_wp2_with fail
    refine (H2.out _).mono ?_
    rintro e w' ⟨rfl, hw⟩
    subst w'
    go_wp2_with fail
    refine (H3.out _).mono ?_
    rintro e w' ⟨rfl, hw⟩
    subst w'
    go_wp2_with fail
    refine (H4.out _).mono ?_
    rintro e w' ⟨rfl, hw⟩
    subst w'
    go_wp2_with fail
    refine (H5.out _).mono ?_
    rintro e w' ⟨rfl, hw⟩
    subst w'
    go_wp2_with fail
    refine (H6.out _).mono ?_
    rintro e w' ⟨rfl, hw⟩
    subst w'
    go_wp2_with fail
    refine (H7.out _).mono ?_
    rintro e w' ⟨rfl, hw⟩
    subst w'
    go_wp2_with fail
    refine (H8.out _).mono ?_
    rintro e w' ⟨rfl, hw⟩
    subst w'
    go_wp2_with fail
    go_ret
    exact ⟨rfl, hb3⟩

set_option maxRecDepth 100000 in
theorem lifted (os : Os) (started : os.Started) (H : Type) (enc : TypeId × Value → H) :
    ReturnsInHanded {} Try.checked os 3 .any (Rows.fnFieldSpec.pre6 enc Try.prog Try.f3 Rows.fnFieldRow.domain false) (Rows.fnFieldSpec.post enc Try.prog Try.f3 false true false false) := by
  refine returnsInHanded_of_change (C := Try.checked) own started (by kernel_rfl) Try.func3
    (ChangeSpec.witness6 (enc := enc) (C := Try.checked) false ⟨#[], #[.slice none 0 0], []⟩ 8 (by kernel_rfl) (by kernel_rfl) (by kernel_rfl) (by kernel_rfl)) ?_
  intro W base args ds gs before hval0 hW hcnd _
  have hval : ∀ (j : Nat) t v, Try.f3.params[j]? = some t → args[j]? = some v → Value.okWide Try.prog W .any base t v := hval0
  have hW' := hW
  obtain ⟨p, q, hA0, hV, rfl, hfz, hnd⟩ := hW
  have hA : DataW.TrodAll enc Try.prog W 0 (fun _ => true) true Try.f3.params.toList args.toList ds p := hA0
  rw [Try.params3] at hA hval
  obtain ⟨v0, vs0, d0, ds0, p0, q0, hargs, rfl, rfl, h0, r0⟩ := trodAll_cons hA
  obtain ⟨rfl, rfl, rfl⟩ := trodAll_nil r0
  obtain rfl : args = #[v0] := by cases args; simp_all
  obtain ⟨rfl, rfl⟩ := trodVars_none hV
  obtain ⟨a0, len0, cap0, rfl⟩ := okWide_slice Try.underlying22 (hval 0 22 v0 rfl rfl)
  have k0 := h0
  have lt0 : ∀ x ∈ p0, x.block < W.heap.size := by obtain ⟨m, hm⟩ := k0; exact DataW.trod_lt m _ _ _ hm
  obtain ⟨z0, w0⟩ : ∃ zs, IsRow .u8 W a0 len0 cap0 zs := by
    obtain ⟨fuel, hf⟩ := h0
    rcases open_ints Try.underlying22 Try.underlying5 (by kernel_rfl) hf with ⟨hcs, _⟩ | ⟨x, l, c, zs, hcs, _, hl, hm, hz, _, hcell, hwz⟩
    · simp [Value.cells] at hcs
      obtain ⟨rfl, rfl, rfl⟩ := hcs
      exact ⟨[], .inl ⟨rfl, rfl, rfl, rfl⟩⟩
    · simp [Value.cells] at hcs
      obtain ⟨rfl, rfl, rfl⟩ := hcs
      exact ⟨zs, .inr ⟨_, rfl, hl, hm, by simpa using hz, hcell, hwz⟩⟩
  clear hA0 hval0
  refine (walk a0 len0 cap0 z0 W w0).mono fun e W' ⟨he, bel⟩ => ?_
  subst he
  exact ⟨_, rfl, _, _, _, [], _, [], hW', trodAll_mk1 (shut_bool Try.underlying4 _), (trodAll_cons_mk (Below.trod laidOut (by kernel_rfl) (of_decide_eq_true (by kernel_rfl)) k0 bel lt0) trodAll_mk0), rfl, bel.frame _, fun h => by cases h⟩

theorem over : Rows.fnFieldRow.holds Try.pinned (OpenSpec.ofChange Rows.fnFieldSpec) :=
  OpenClaim.holds_of_wide 3 Try.f3 rfl rfl rfl rfl rfl rfl rfl ⟨rfl, rfl, rfl, rfl, rfl⟩ rfl rfl rfl rfl rfl (by kernel_rfl) Try.func3 (by kernel_rfl)
    (of_decide_eq_true (by kernel_rfl)) (by unfold Func.isWrapper; first | (rw [if_pos (by decide +kernel)]; kernel_rfl) | (rw [if_neg (by decide +kernel)]; exact ⟨rfl, rfl⟩))
    (fun os started H enc _ => lifted os started H enc)

theorem proved : Rows.FnFieldSaid := over
#print axioms proved
end Go.Proofs.Ytgemdegdimeniab.fnField
