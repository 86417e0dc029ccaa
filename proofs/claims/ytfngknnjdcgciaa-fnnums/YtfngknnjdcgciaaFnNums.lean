/-
  FnNums holds at every code: a number comes back from its bytes, and what is taken of bytes has just its bytes; no condition.
-/
import Derived.Test.YtfngknnjdcgciaaRows
import Derived.Test.YtfngknnjdcgciaaRead
import Derived.Test.YtfngknnjdcgciaaPutc
import Derived.Test.YtfngknnjdcgciaaNumBack
import Derived.Test.YtfngknnjdcgciaaDraws
import Derived.Test.YtfngknnjdcgciaaBig
import Derived.WalkKit
import Derived.ProofKit
import Derived.OpenShut
import Derived.ShutString
import Derived.ChangeOld
import Derived.Below
namespace Go.Proofs.Ytfngknnjdcgciaa.fnNums
open Go.ChangeShapes Go.WideShapes Go.ChangeAt Go.RowKit
open Go.ChangeMaps (open_string shut_string)
set_option linter.unusedVariables false

theorem own : ownKnob Try.prog.godebug = none := by kernel_rfl
theorem laidOut : laidOutB Try.prog = true := by kernel_rfl

/-- WHAT THE WALK IS TOLD OF A SLICE OF INTEGERS THAT CAME IN: it is nil; or it leads to a row of 'cap' cells, the numbers 'zs' (the first 'len' are its elements, the rest its spare room), each fitting its kind. -/
def IsRow (k : IntKind) (w : World) (a : Option Addr) (len cap : Nat) (zs : List Int) : Prop :=
  (a = none ∧ len = 0 ∧ cap = 0 ∧ zs = []) ∨
  ∃ x, a = some x ∧ len ≤ cap ∧ cap ≤ maxLen ∧ zs.length = cap ∧ (∀ i, i < zs.length → w.cell? (x.add i) = some (.int k (zs.getD i 0))) ∧ ∀ n ∈ zs, (Lit.int k n).wf = true

theorem cput_half (n : Nat) (w : World) (hn : n < 18446744073709551616) :
    Calls Try.prog 9 #[.int .u64 ((n : Int) / 2)] w fun e w' => e = .returned (.string ⟨(put (n / 2)).toArray⟩) ∧ Below w.heap.size w w' :=
  cput_any (n / 2) w (by omega)

set_option maxRecDepth 100000 in
set_option maxHeartbeats 1000000 in
theorem walk (a0 : Option Addr) (len0 cap0 : Nat) (z0 : List Int) (w : World) (w0 : IsRow .u8 w a0 len0 cap0 z0) :
    Calls Try.prog 3 #[.slice a0 len0 cap0] w fun e w' => e = .returned (.bool true) ∧ Below w.heap.size w w' := by
  by_cases hbig : 1048576 < len0
  · go_enter Try.func3, Try.ntmps3
    go_wp2_with fail
    refine (big_yes a0 len0 cap0 _ hbig).mono ?_
    rintro e w1 ⟨rfl, rfl⟩
    go_wp2_with fail
    go_ret
    exact ⟨rfl, Below.refl _ _⟩
  · have hS := src_of w0 (by omega)
    clear w0
    go_enter Try.func3, Try.ntmps3
    go_wp2_with fail
    refine (big_no a0 len0 cap0 _ hbig).mono ?_
    rintro e w1 ⟨rfl, rfl⟩
    go_wp2_with fail
    refine (drawPutNum hS (Below.refl _ _)).mono ?_
    rintro e w2 ⟨⟨n, hn, rfl⟩, hb2⟩
    have hpl := put_ten hn
    have hpm := put_mono n (n / 2) (by omega)
    go_wp2_with fail
    refine (cput_any n _ hn).mono ?_
    rintro e w3 ⟨rfl, hb3⟩
    replace hb3 := hb2.trans (hb3.mono hb2.size)
    clear hb2
    go_wp2_with fail
    have hsz : ((⟨(put n).toArray⟩ : ByteArray) ++ ⟨#[120, 121, 122]⟩).size ≤ 13 := by
      rw [ByteArray.size_append, mk_size (put n), show (⟨#[120, 121, 122]⟩ : ByteArray).size = 3 from rfl]; omega
    refine (take_any _ _ (by unfold maxLen; omega) (by omega)).mono ?_
    clear hsz
    rintro e w4 ⟨he, hb4⟩
    rw [take_put n hn] at he
    subst he
    replace hb4 := hb3.trans (hb4.mono hb3.size)
    clear hb3
    go_wp2_with fail
    refine (sput_any n _ hn).mono ?_
    rintro e w5 ⟨rfl, hb5⟩
    replace hb5 := hb4.trans (hb5.mono hb4.size)
    clear hb4
    go_wp2_with fail
    refine (cput_half n _ hn).mono ?_
    rintro e w6 ⟨rfl, hb6⟩
    replace hb6 := hb5.trans (hb6.mono hb5.size)
    clear hb5
    go_wp2_with fail
    refine (drawTakeNum hS hb6).mono ?_
    rintro e w7 ⟨⟨t, ht, rfl⟩, hb7⟩
    clear hpl hpm hb6
    go_wp2_with fail
    refine (take_any t _ (by unfold maxLen; omega) (by omega)).mono ?_
    rintro e w8 ⟨he, hb8⟩
    replace hb8 := hb7.trans (hb8.mono hb7.size)
    clear hb7
    rcases hnum : num t with _ | ⟨X, u⟩
    · have H := takeOut_none hnum
      rw [H] at he
      subst he
      go_wp2_with fail
      refine (stake_any t _ (by unfold maxLen; omega)).mono ?_
      rintro e w9 ⟨he, hb9⟩
      rw [H] at he
      subst he
      clear H
      replace hb9 := hb8.trans (hb9.mono hb8.size)
      go_wp2_with fail
      go_ret
      exact ⟨rfl, hb9⟩
    · obtain ⟨m, rfl, hm, hback⟩ := num_back hnum
      have H := takeOut_some hnum
      rw [H] at he
      subst he
      have HB : Hid ((⟨(put m).toArray⟩ : ByteArray) ++ t.extract u t.size = t) := hback
      have HN : Hid (takeOut t = _) := H
      clear hback H hnum
      go_wp2_with fail
      refine (stake_any t _ (by unfold maxLen; omega)).mono ?_
      rintro e w9 ⟨he, hb9⟩
      rw [HN.out] at he
      subst he
      replace hb9 := hb8.trans (hb9.mono hb8.size)
      clear hb8
      have hpl := put_ten hm
      have hus : (t.extract u t.size).size ≤ 1000 := by simp; omega
      go_wp2_with fail
      refine (cput_any m _ hm).mono ?_
      rintro e w10 ⟨rfl, hb10⟩
      replace hb10 := hb9.trans (hb10.mono hb9.size)
      clear hb9
      go_wp2_with fail
      have hfin : Ending.returned (Value.bool (((⟨(put m).toArray⟩ : ByteArray) ++ t.extract u t.size).toList == t.toList)) = Ending.returned (Value.bool true) := by
        rw [HB.out]; simp
      go_ret
      exact ⟨hfin, hb10⟩

set_option maxRecDepth 100000 in
theorem lifted (os : Os) (started : os.Started) (H : Type) (enc : TypeId × Value → H) :
    ReturnsInHanded {} Try.checked os 3 .any (Rows.fnNumsSpec.pre6 enc Try.prog Try.f3 Rows.fnNumsRow.domain false) (Rows.fnNumsSpec.post enc Try.prog Try.f3 false true false false) := by
  refine returnsInHanded_of_change (C := Try.checked) own started (by kernel_rfl) Try.func3
    (ChangeSpec.witness6 (enc := enc) (C := Try.checked) false ⟨#[], #[.slice none 0 0], []⟩ 8 (by kernel_rfl) (by kernel_rfl) (by kernel_rfl) (by kernel_rfl)) ?_
  intro W base args ds gs before hval0 hW hcnd _
  have hval : ∀ (j : Nat) t v, Try.f3.params[j]? = some t → args[j]? = some v → Value.okWide Try.prog W .any base t v := hval0
  have hW' := hW
  obtain ⟨p, q, hA0, hV, rfl, hfz, hnd⟩ := hW
  have hA : DataW.TrodAll enc Try.prog W 0 (fun _ => true) true Try.f3.params.toList args.toList ds p := hA0
  rw [Try.params3] at hA hval
  obtain ⟨v0, vs0, d0, ds0, p0, q0, hargs, rfl, rfl, h0, r0⟩ := trodAll_cons hA
  obtain ⟨rfl, rfl, rfl⟩ := trodAll_nil r0
  obtain rfl : args = #[v0] := by cases args; simp_all
  obtain ⟨rfl, rfl⟩ := trodVars_none hV
  obtain ⟨a0, len0, cap0, rfl⟩ := okWide_slice Try.underlying22 (hval 0 22 v0 rfl rfl)
  have k0 := h0
  have lt0 : ∀ x ∈ p0, x.block < W.heap.size := by obtain ⟨m, hm⟩ := k0; exact DataW.trod_lt m _ _ _ hm
  obtain ⟨z0, w0⟩ : ∃ zs, IsRow .u8 W a0 len0 cap0 zs := by
    obtain ⟨fuel, hf⟩ := h0
    rcases open_ints Try.underlying22 Try.underlying5 (by kernel_rfl) hf with ⟨hcs, _⟩ | ⟨x, l, c, zs, hcs, _, hl, hm, hz, _, hcell, hwz⟩
    · simp [Value.cells] at hcs
      obtain ⟨rfl, rfl, rfl⟩ := hcs
      exact ⟨[], .inl ⟨rfl, rfl, rfl, rfl⟩⟩
    · simp [Value.cells] at hcs
      obtain ⟨rfl, rfl, rfl⟩ := hcs
      exact ⟨zs, .inr ⟨_, rfl, hl, hm, by simpa using hz, hcell, hwz⟩⟩
  clear hA0 hval0
  refine (walk a0 len0 cap0 z0 W w0).mono fun e W' ⟨he, bel⟩ => ?_
  subst he
  exact ⟨_, rfl, _, _, _, [], _, [], hW', trodAll_mk1 (shut_bool Try.underlying4 _), (trodAll_cons_mk (Below.trod laidOut (by kernel_rfl) (of_decide_eq_true (by kernel_rfl)) k0 bel lt0) trodAll_mk0), rfl, bel.frame _, fun h => by cases h⟩

theorem over : Rows.fnNumsRow.holds Try.pinned (OpenSpec.ofChange Rows.fnNumsSpec) :=
  OpenClaim.holds_of_wide 3 Try.f3 rfl rfl rfl rfl rfl rfl rfl ⟨rfl, rfl, rfl, rfl, rfl⟩ rfl rfl rfl rfl rfl (by kernel_rfl) Try.func3 (by kernel_rfl)
    (of_decide_eq_true (by kernel_rfl)) (by unfold Func.isWrapper; first | (rw [if_pos (by decide +kernel)]; kernel_rfl) | (rw [if_neg (by decide +kernel)]; exact ⟨rfl, rfl⟩))
    (fun os started H enc _ => lifted os started H enc)

theorem proved : Rows.FnNumsSaid := over
#print axioms proved
end Go.Proofs.Ytfngknnjdcgciaa.fnNums
