/-
  FnHexed holds at every code: bytes come back from their digits, and what is read has just its digits; no condition.
-/
import Derived.Test.YtfngknnjdcgciaaRows
import Derived.Test.YtfngknnjdcgciaaHexBack
import Derived.Test.YtfngknnjdcgciaaHexC
import Derived.Test.YtfngknnjdcgciaaUnhexS
import Derived.Test.YtfngknnjdcgciaaUnhexC
import Derived.Test.YtfngknnjdcgciaaDraws3
import Derived.Test.YtfngknnjdcgciaaBig
import Derived.WalkKit
import Derived.ProofKit
import Derived.OpenShut
import Derived.ShutString
import Derived.ChangeOld
import Derived.Below
namespace Go.Proofs.Ytfngknnjdcgciaa.fnHexed
open Go.ChangeShapes Go.WideShapes Go.ChangeAt Go.RowKit
open Go.ChangeMaps (open_string shut_string)
set_option linter.unusedVariables false

theorem own : ownKnob Try.prog.godebug = none := by kernel_rfl
theorem laidOut : laidOutB Try.prog = true := by kernel_rfl

/-- WHAT THE WALK IS TOLD OF A SLICE OF INTEGERS THAT CAME IN: it is nil; or it leads to a row of 'cap' cells, the numbers 'zs' (the first 'len' are its elements, the rest its spare room), each fitting its kind. -/
def IsRow (k : IntKind) (w : World) (a : Option Addr) (len cap : Nat) (zs : List Int) : Prop :=
  (a = none ∧ len = 0 ∧ cap = 0 ∧ zs = []) ∨
  ∃ x, a = some x ∧ len ≤ cap ∧ cap ≤ maxLen ∧ zs.length = cap ∧ (∀ i, i < zs.length → w.cell? (x.add i) = some (.int k (zs.getD i 0))) ∧ ∀ n ∈ zs, (Lit.int k n).wf = true


set_option maxRecDepth 100000 in
set_option maxHeartbeats 1000000 in
theorem walk (a0 : Option Addr) (len0 cap0 : Nat) (z0 : List Int) (w : World) (w0 : IsRow .u8 w a0 len0 cap0 z0) :
    Calls Try.prog 6 #[.slice a0 len0 cap0] w fun e w' => e = .returned (.bool true) ∧ Below w.heap.size w w' := by
  by_cases hbig : 1048576 < len0
  · go_enter Try.func6, Try.ntmps6
    go_wp2_with fail
    refine (big_yes a0 len0 cap0 _ hbig).mono ?_
    rintro e w1 ⟨rfl, rfl⟩
    go_wp2_with fail
    go_ret
    exact ⟨rfl, Below.refl _ _⟩
  · have hS := src_of w0 (by omega)
    clear w0
    go_enter Try.func6, Try.ntmps6
    go_wp2_with fail
    refine (big_no a0 len0 cap0 _ hbig).mono ?_
    rintro e w1 ⟨rfl, rfl⟩
    go_wp2_with fail
    refine (drawHex hS (Below.refl _ _)).mono ?_
    rintro e w2 ⟨⟨s, hs, rfl⟩, hb2⟩
    go_wp2_with fail
    refine (hex_any s _ (by omega)).mono ?_
    rintro e w3 ⟨he, hb3⟩
    replace hb3 := hb2.trans (hb3.mono hb2.size)
    clear hb2
    have hps := hex_size s
    have hun := unhex_of_hex s
    obtain ⟨p, hp⟩ : ∃ p : ByteArray, p = ⟨(hexL s.data.toList).toArray⟩ := ⟨_, rfl⟩
    rw [← hp] at he hps hun
    have HP : Hid _ := hp
    have HU : Hid _ := hun
    clear hp hun
    subst he
    have hlen : ((p.size : Int) != 2 * (s.size : Int)) = false := by rw [hps]; simp
    have hpl : p.size ≤ 2000 := by omega
    clear hps
    go_wp2_with fail
    refine (unhex_any p _ (by omega)).mono ?_
    rintro e w4 ⟨he, hb4⟩
    rw [HU.out] at he
    subst he
    replace hb4 := hb3.trans (hb4.mono hb3.size)
    clear hb3
    go_wp2_with fail
    refine (shex_any s _ (by omega)).mono ?_
    rintro e w5 ⟨he, hb5⟩
    rw [← HP.out] at he
    subst he
    replace hb5 := hb4.trans (hb5.mono hb4.size)
    clear hb4
    go_wp2_with fail
    refine (drawUnhex hS hb5).mono ?_
    rintro e w7 ⟨⟨t, ht, rfl⟩, hb7⟩
    clear hlen hpl HP HU hb5
    go_wp2_with fail
    refine (unhex_any t _ (by omega)).mono ?_
    rintro e w8 ⟨he, hb8⟩
    replace hb8 := hb7.trans (hb8.mono hb7.size)
    clear hb7
    rcases htx : unhexL t.data.toList with _ | m
    · have H := unhexOut_none htx
      rw [H] at he
      subst he
      go_wp2_with fail
      refine (sunhex_any t _ (by omega)).mono ?_
      rintro e w9 ⟨he, hb9⟩
      rw [H] at he
      subst he
      clear H
      replace hb9 := hb8.trans (hb9.mono hb8.size)
      go_wp2_with fail
      go_ret
      exact ⟨rfl, hb9⟩
    · have hback := hex_of_unhex htx
      have H := unhexOut_some htx
      have hsz : (⟨m.toArray⟩ : ByteArray).size ≤ 1000 := by
        have := congrArg ByteArray.size hback
        rw [hex_size] at this
        omega
      obtain ⟨q, hq⟩ : ∃ q : ByteArray, q = ⟨m.toArray⟩ := ⟨_, rfl⟩
      rw [← hq] at hback H hsz
      rw [H] at he
      subst he
      have HB : Hid _ := hback
      have HN : Hid (unhexOut t = _) := H
      clear hback H htx hq
      go_wp2_with fail
      refine (sunhex_any t _ (by omega)).mono ?_
      rintro e w9 ⟨he, hb9⟩
      rw [HN.out] at he
      subst he
      replace hb9 := hb8.trans (hb9.mono hb8.size)
      clear hb8
      go_wp2_with fail
      refine (hex_any q _ (by omega)).mono ?_
      rintro e w10 ⟨he, hb10⟩
      rw [HB.out] at he
      subst he
      replace hb10 := hb9.trans (hb10.mono hb9.size)
      clear hb9
      go_wp2_with fail
      go_ret
      refine ⟨?_, hb10⟩
      first | rfl | (simp; done)

set_option maxRecDepth 100000 in
theorem lifted (os : Os) (started : os.Started) (H : Type) (enc : TypeId × Value → H) :
    ReturnsInHanded {} Try.checked os 6 .any (Rows.fnHexedSpec.pre6 enc Try.prog Try.f6 Rows.fnHexedRow.domain false) (Rows.fnHexedSpec.post enc Try.prog Try.f6 false true false false) := by
  refine returnsInHanded_of_change (C := Try.checked) own started (by kernel_rfl) Try.func6
    (ChangeSpec.witness6 (enc := enc) (C := Try.checked) false ⟨#[], #[.slice none 0 0], []⟩ 8 (by kernel_rfl) (by kernel_rfl) (by kernel_rfl) (by kernel_rfl)) ?_
  intro W base args ds gs before hval0 hW hcnd _
  have hval : ∀ (j : Nat) t v, Try.f6.params[j]? = some t → args[j]? = some v → Value.okWide Try.prog W .any base t v := hval0
  have hW' := hW
  obtain ⟨p, q, hA0, hV, rfl, hfz, hnd⟩ := hW
  have hA : DataW.TrodAll enc Try.prog W 0 (fun _ => true) true Try.f6.params.toList args.toList ds p := hA0
  rw [Try.params6] at hA hval
  obtain ⟨v0, vs0, d0, ds0, p0, q0, hargs, rfl, rfl, h0, r0⟩ := trodAll_cons hA
  obtain ⟨rfl, rfl, rfl⟩ := trodAll_nil r0
  obtain rfl : args = #[v0] := by cases args; simp_all
  obtain ⟨rfl, rfl⟩ := trodVars_none hV
  obtain ⟨a0, len0, cap0, rfl⟩ := okWide_slice Try.underlying22 (hval 0 22 v0 rfl rfl)
  have k0 := h0
  have lt0 : ∀ x ∈ p0, x.block < W.heap.size := by obtain ⟨m, hm⟩ := k0; exact DataW.trod_lt m _ _ _ hm
  obtain ⟨z0, w0⟩ : ∃ zs, IsRow .u8 W a0 len0 cap0 zs := by
    obtain ⟨fuel, hf⟩ := h0
    rcases open_ints Try.underlying22 Try.underlying5 (by kernel_rfl) hf with ⟨hcs, _⟩ | ⟨x, l, c, zs, hcs, _, hl, hm, hz, _, hcell, hwz⟩
    · simp [Value.cells] at hcs
      obtain ⟨rfl, rfl, rfl⟩ := hcs
      exact ⟨[], .inl ⟨rfl, rfl, rfl, rfl⟩⟩
    · simp [Value.cells] at hcs
      obtain ⟨rfl, rfl, rfl⟩ := hcs
      exact ⟨zs, .inr ⟨_, rfl, hl, hm, by simpa using hz, hcell, hwz⟩⟩
  clear hA0 hval0
  refine (walk a0 len0 cap0 z0 W w0).mono fun e W' ⟨he, bel⟩ => ?_
  subst he
  exact ⟨_, rfl, _, _, _, [], _, [], hW', trodAll_mk1 (shut_bool Try.underlying4 _), (trodAll_cons_mk (Below.trod laidOut (by kernel_rfl) (of_decide_eq_true (by kernel_rfl)) k0 bel lt0) trodAll_mk0), rfl, bel.frame _, fun h => by cases h⟩

theorem over : Rows.fnHexedRow.holds Try.pinned (OpenSpec.ofChange Rows.fnHexedSpec) :=
  OpenClaim.holds_of_wide 6 Try.f6 rfl rfl rfl rfl rfl rfl rfl ⟨rfl, rfl, rfl, rfl, rfl⟩ rfl rfl rfl rfl rfl (by kernel_rfl) Try.func6 (by kernel_rfl)
    (of_decide_eq_true (by kernel_rfl)) (by unfold Func.isWrapper; first | (rw [if_pos (by decide +kernel)]; kernel_rfl) | (rw [if_neg (by decide +kernel)]; exact ⟨rfl, rfl⟩))
    (fun os started H enc _ => lifted os started H enc)

theorem proved : Rows.FnHexedSaid := over
#print axioms proved
end Go.Proofs.Ytfngknnjdcgciaa.fnHexed
