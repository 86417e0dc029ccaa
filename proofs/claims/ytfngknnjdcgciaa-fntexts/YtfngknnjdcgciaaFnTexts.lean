/-
  FnTexts holds at every code: a text comes back from its bytes, and what is taken of bytes has just its bytes; no condition.
-/
import Derived.Test.YtfngknnjdcgciaaRows
import Derived.Test.YtfngknnjdcgciaaTextBack
import Derived.Test.YtfngknnjdcgciaaTakeTextc
import Derived.Test.YtfngknnjdcgciaaDraws2
import Derived.Test.YtfngknnjdcgciaaBig
import Derived.WalkKit
import Derived.ProofKit
import Derived.OpenShut
import Derived.ShutString
import Derived.ChangeOld
import Derived.Below
namespace Go.Proofs.Ytfngknnjdcgciaa.fnTexts
open Go.ChangeShapes Go.WideShapes Go.ChangeAt Go.RowKit
open Go.ChangeMaps (open_string shut_string)
set_option linter.unusedVariables false

theorem own : ownKnob Try.prog.godebug = none := by kernel_rfl
theorem laidOut : laidOutB Try.prog = true := by kernel_rfl

/-- WHAT THE WALK IS TOLD OF A SLICE OF INTEGERS THAT CAME IN: it is nil; or it leads to a row of 'cap' cells, the numbers 'zs' (the first 'len' are its elements, the rest its spare room), each fitting its kind. -/
def IsRow (k : IntKind) (w : World) (a : Option Addr) (len cap : Nat) (zs : List Int) : Prop :=
  (a = none ∧ len = 0 ∧ cap = 0 ∧ zs = []) ∨
  ∃ x, a = some x ∧ len ≤ cap ∧ cap ≤ maxLen ∧ zs.length = cap ∧ (∀ i, i < zs.length → w.cell? (x.add i) = some (.int k (zs.getD i 0))) ∧ ∀ n ∈ zs, (Lit.int k n).wf = true


set_option maxRecDepth 100000 in
set_option maxHeartbeats 1000000 in
theorem walk (a0 : Option Addr) (len0 cap0 : Nat) (z0 : List Int) (w : World) (w0 : IsRow .u8 w a0 len0 cap0 z0) :
    Calls Try.prog 4 #[.slice a0 len0 cap0] w fun e w' => e = .returned (.bool true) ∧ Below w.heap.size w w' := by
  by_cases hbig : 1048576 < len0
  · go_enter Try.func4, Try.ntmps4
    go_wp2_with fail
    refine (big_yes a0 len0 cap0 _ hbig).mono ?_
    rintro e w1 ⟨rfl, rfl⟩
    go_wp2_with fail
    go_ret
    exact ⟨rfl, Below.refl _ _⟩
  · have hS := src_of w0 (by omega)
    clear w0
    go_enter Try.func4, Try.ntmps4
    go_wp2_with fail
    refine (big_no a0 len0 cap0 _ hbig).mono ?_
    rintro e w1 ⟨rfl, rfl⟩
    go_wp2_with fail
    refine (drawPutText hS (Below.refl _ _)).mono ?_
    rintro e w2 ⟨⟨s, hs, rfl⟩, hb2⟩
    go_wp2_with fail
    refine (cputText_any s _ (by omega)).mono ?_
    rintro e w3 ⟨rfl, hb3⟩
    replace hb3 := hb2.trans (hb3.mono hb2.size)
    clear hb2
    have hpl : (putTextOut s).size ≤ 1010 := by
      have := put_ten (n := s.size) (by omega)
      unfold putTextOut
      rw [ByteArray.size_append, mk_size (put s.size)]; omega
    have HT : Hid _ := text_put s ⟨#[121]⟩ (by omega)
    have hsz : (putTextOut s ++ ⟨#[121]⟩).size ≤ 1011 := by
      rw [ByteArray.size_append, show (⟨#[121]⟩ : ByteArray).size = 1 from rfl]; omega
    have HS : Hid ((putTextOut s ++ ⟨#[121]⟩).size ≤ 1011) := hsz
    clear hsz
    go_wp2_with fail
    refine (takeText_any _ _ (by unfold maxLen; have := HS.out; omega) (by have := HS.out; omega)).mono ?_
    rintro e w4 ⟨he, hb4⟩
    rw [HT.out] at he
    subst he
    replace hb4 := hb3.trans (hb4.mono hb3.size)
    clear hb3
    go_wp2_with fail
    refine (sputText_any s _ (by omega)).mono ?_
    rintro e w5 ⟨rfl, hb5⟩
    replace hb5 := hb4.trans (hb5.mono hb4.size)
    clear hb4
    go_wp2_with fail
    refine (drawTakeText hS hb5).mono ?_
    rintro e w7 ⟨⟨t, ht, rfl⟩, hb7⟩
    clear hpl HT HS hb5
    go_wp2_with fail
    refine (takeText_any t _ (by unfold maxLen; omega) (by omega)).mono ?_
    rintro e w8 ⟨he, hb8⟩
    replace hb8 := hb7.trans (hb8.mono hb7.size)
    clear hb7
    rcases htx : txt t with _ | ⟨n, u⟩
    · have H := textOut_none htx
      rw [H] at he
      subst he
      go_wp2_with fail
      refine (stakeText_any t _ (by unfold maxLen; omega) (by omega)).mono ?_
      rintro e w9 ⟨he, hb9⟩
      rw [H] at he
      subst he
      clear H
      replace hb9 := hb8.trans (hb9.mono hb8.size)
      go_wp2_with fail
      go_ret
      exact ⟨rfl, hb9⟩
    · obtain ⟨hback, hn1, hn2⟩ := text_back htx
      have H := textOut_some htx
      rw [H] at he
      subst he
      have HB : Hid (putTextOut (t.extract u (u + n)) ++ t.extract (u + n) t.size = t) := hback
      have HN : Hid (textOut t = _) := H
      clear hback H htx
      have hps : (putTextOut (t.extract u (u + n))).size ≤ 2000 := by
        have hx : (t.extract u (u + n)).size ≤ 1000 := by simp; omega
        have := put_ten (n := (t.extract u (u + n)).size) (by omega)
        unfold putTextOut
        rw [ByteArray.size_append, mk_size (put (t.extract u (u + n)).size)]; omega
      have hus : (t.extract (u + n) t.size).size ≤ 1000 := by simp; omega
      go_wp2_with fail
      refine (stakeText_any t _ (by unfold maxLen; omega) (by omega)).mono ?_
      rintro e w9 ⟨he, hb9⟩
      rw [HN.out] at he
      subst he
      replace hb9 := hb8.trans (hb9.mono hb8.size)
      clear hb8
      go_wp2_with fail
      refine (cputText_any (t.extract u (u + n)) _ (by simp; omega)).mono ?_
      rintro e w10 ⟨rfl, hb10⟩
      replace hb10 := hb9.trans (hb10.mono hb9.size)
      clear hb9
      go_wp2_with fail
      have hfin : Ending.returned (Value.bool ((putTextOut (t.extract u (u + n)) ++ t.extract (u + n) t.size).toList == t.toList)) = Ending.returned (Value.bool true) := by
        rw [HB.out]; simp
      go_ret
      exact ⟨hfin, hb10⟩

set_option maxRecDepth 100000 in
theorem lifted (os : Os) (started : os.Started) (H : Type) (enc : TypeId × Value → H) :
    ReturnsInHanded {} Try.checked os 4 .any (Rows.fnTextsSpec.pre6 enc Try.prog Try.f4 Rows.fnTextsRow.domain false) (Rows.fnTextsSpec.post enc Try.prog Try.f4 false true false false) := by
  refine returnsInHanded_of_change (C := Try.checked) own started (by kernel_rfl) Try.func4
    (ChangeSpec.witness6 (enc := enc) (C := Try.checked) false ⟨#[], #[.slice none 0 0], []⟩ 8 (by kernel_rfl) (by kernel_rfl) (by kernel_rfl) (by kernel_rfl)) ?_
  intro W base args ds gs before hval0 hW hcnd _
  have hval : ∀ (j : Nat) t v, Try.f4.params[j]? = some t → args[j]? = some v → Value.okWide Try.prog W .any base t v := hval0
  have hW' := hW
  obtain ⟨p, q, hA0, hV, rfl, hfz, hnd⟩ := hW
  have hA : DataW.TrodAll enc Try.prog W 0 (fun _ => true) true Try.f4.params.toList args.toList ds p := hA0
  rw [Try.params4] at hA hval
  obtain ⟨v0, vs0, d0, ds0, p0, q0, hargs, rfl, rfl, h0, r0⟩ := trodAll_cons hA
  obtain ⟨rfl, rfl, rfl⟩ := trodAll_nil r0
  obtain rfl : args = #[v0] := by cases args; simp_all
  obtain ⟨rfl, rfl⟩ := trodVars_none hV
  obtain ⟨a0, len0, cap0, rfl⟩ := okWide_slice Try.underlying22 (hval 0 22 v0 rfl rfl)
  have k0 := h0
  have lt0 : ∀ x ∈ p0, x.block < W.heap.size := by obtain ⟨m, hm⟩ := k0; exact DataW.trod_lt m _ _ _ hm
  obtain ⟨z0, w0⟩ : ∃ zs, IsRow .u8 W a0 len0 cap0 zs := by
    obtain ⟨fuel, hf⟩ := h0
    rcases open_ints Try.underlying22 Try.underlying5 (by kernel_rfl) hf with ⟨hcs, _⟩ | ⟨x, l, c, zs, hcs, _, hl, hm, hz, _, hcell, hwz⟩
    · simp [Value.cells] at hcs
      obtain ⟨rfl, rfl, rfl⟩ := hcs
      exact ⟨[], .inl ⟨rfl, rfl, rfl, rfl⟩⟩
    · simp [Value.cells] at hcs
      obtain ⟨rfl, rfl, rfl⟩ := hcs
      exact ⟨zs, .inr ⟨_, rfl, hl, hm, by simpa using hz, hcell, hwz⟩⟩
  clear hA0 hval0
  refine (walk a0 len0 cap0 z0 W w0).mono fun e W' ⟨he, bel⟩ => ?_
  subst he
  exact ⟨_, rfl, _, _, _, [], _, [], hW', trodAll_mk1 (shut_bool Try.underlying4 _), (trodAll_cons_mk (Below.trod laidOut (by kernel_rfl) (of_decide_eq_true (by kernel_rfl)) k0 bel lt0) trodAll_mk0), rfl, bel.frame _, fun h => by cases h⟩

theorem over : Rows.fnTextsRow.holds Try.pinned (OpenSpec.ofChange Rows.fnTextsSpec) :=
  OpenClaim.holds_of_wide 4 Try.f4 rfl rfl rfl rfl rfl rfl rfl ⟨rfl, rfl, rfl, rfl, rfl⟩ rfl rfl rfl rfl rfl (by kernel_rfl) Try.func4 (by kernel_rfl)
    (of_decide_eq_true (by kernel_rfl)) (by unfold Func.isWrapper; first | (rw [if_pos (by decide +kernel)]; kernel_rfl) | (rw [if_neg (by decide +kernel)]; exact ⟨rfl, rfl⟩))
    (fun os started H enc _ => lifted os started H enc)

theorem proved : Rows.FnTextsSaid := over
#print axioms proved
end Go.Proofs.Ytfngknnjdcgciaa.fnTexts
