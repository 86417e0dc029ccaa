/-
  What was packed comes back; what is coded are its choices.
-/
import Derived.Test.YtadimakdjndcdadRows
import Derived.Test.YtadimakdjndcdadPkC
import Derived.Test.YtadimakdjndcdadData
import Derived.Test.YtadimakdjndcdadDrw
import Derived.Test.YtadimakdjndcdadBig
import Derived.WalkKit
import Derived.ProofKit
import Derived.OpenShut
import Derived.ShutString
import Derived.ChangeOld
import Derived.Below
namespace Go.Proofs.Ytadimakdjndcdad.fnPacked
open Go.ChangeShapes Go.WideShapes Go.ChangeAt Go.RowKit
open Go.ChangeMaps (open_string shut_string)
set_option linter.unusedVariables false

theorem own : ownKnob Try.prog.godebug = none := by kernel_rfl
theorem laidOut : laidOutB Try.prog = true := by kernel_rfl

/-- WHAT THE WALK IS TOLD OF A SLICE OF INTEGERS THAT CAME IN: it is nil; or it leads to a row of 'cap' cells, the numbers 'zs' (the first 'len' are its elements, the rest its spare room), each fitting its kind. -/
def IsRow (k : IntKind) (w : World) (a : Option Addr) (len cap : Nat) (zs : List Int) : Prop :=
  (a = none ∧ len = 0 ∧ cap = 0 ∧ zs = []) ∨
  ∃ x, a = some x ∧ len ≤ cap ∧ cap ≤ maxLen ∧ zs.length = cap ∧ (∀ i, i < zs.length → w.cell? (x.add i) = some (.int k (zs.getD i 0))) ∧ ∀ n ∈ zs, (Lit.int k n).wf = true

set_option linter.unusedSimpArgs false
set_option maxRecDepth 100000 in
theorem drawPack {w0 : World} {a : Option Addr} {len cap : Nat} {W : World} (hS : Src w0 a len) (hb : Below w0.heap.size w0 W) :
    Calls Try.prog 10 #[.slice a len cap] W fun e w' => (∃ s : ByteArray, s.size ≤ 600 ∧ e = .returned (.string s)) ∧ Below w0.heap.size w0 w' := by
  go_enter Try.func10, Try.ntmps10
  go_wp2_with fail
  refine (open_any hb).mono ?_
  rintro e w1 ⟨rfl, hr, _⟩
  go_wp2_with fail
  refine (data_any hS hr 10 (by omega) (by omega)).mono ?_
  rintro e w2 ⟨⟨s, hs, rfl⟩, hr2⟩
  go_wp2_with fail
  go_ret
  exact ⟨⟨s, hs, rfl⟩, hr2.rd.below⟩

set_option maxRecDepth 100000 in
set_option maxHeartbeats 1000000 in
theorem walk (a0 : Option Addr) (len0 cap0 : Nat) (z0 : List Int) (w : World) (w0 : IsRow .u8 w a0 len0 cap0 z0) :
    Calls Try.prog 3 #[.slice a0 len0 cap0] w fun e w' => e = .returned (.bool true) ∧ Below w.heap.size w w' := by
  by_cases hbig : 1048576 < len0
  · go_enter Try.func3, Try.ntmps3
    go_wp2_with fail
    refine (big_yes a0 len0 cap0 _ hbig).mono ?_
    rintro e w1 ⟨rfl, rfl⟩
    go_wp2_with fail
    go_ret
    exact ⟨rfl, Below.refl _ _⟩
  · have hS := src_of w0 (by omega)
    clear w0
    go_enter Try.func3, Try.ntmps3
    go_wp2_with fail
    refine (big_no a0 len0 cap0 _ hbig).mono ?_
    rintro e w1 ⟨rfl, hw⟩
    subst w1
    go_wp2_with fail
    refine (drawPack hS (Below.refl _ _)).mono ?_
    rintro e w2 ⟨⟨s, hs, rfl⟩, hb2⟩
    have hs4 : s.size ≤ 4000 := by omega
    have HSP : Hid (∀ w, Calls Try.prog 12 #[.string s] w fun e w' => e = .returned (.tuple #[.string (pckB s), .bool true]) ∧ Below w.heap.size w w') := fun w => spack_yes s w hs4
    have HPK : Hid (∀ w, Calls Try.prog 11 #[.string s] w fun e w' => e = .returned (.tuple #[.string (pckB s), .bool true]) ∧ Below w.heap.size w w') := fun w => pack_yes s w hs4
    have HUP : Hid (∀ w, Calls Try.prog 13 #[.string (pckB s)] w fun e w' => e = .returned (.tuple #[.string s, .bool true]) ∧ Below w.heap.size w w') := fun w => unpack_pack s w hs4
    have HCH : Hid (∀ w, Calls Try.prog 14 #[.string s] w fun e w' => (∃ v, e = .returned (.tuple #[v, .bool true]) ∧ ChArg w' v (choS s).length (chF (choS s))) ∧ Below w.heap.size w w') := fun w => (choices_any s w hs4).mono (by rintro e w' ⟨⟨v, rfl, h⟩, hb⟩; exact ⟨⟨v, rfl, own_chArg h⟩, hb⟩)
    have HRE : Hid (∀ v w, ChArg w v (choS s).length (chF (choS s)) → Calls Try.prog 15 #[v] w fun e w' => e = .returned (.tuple #[.string (pckR s), .bool true]) ∧ Below w.heap.size w w') := fun v w h => by
      have h2 := encode_any v _ _ w h
      obtain ⟨e1, e2⟩ := encAns_yes (choS_chOk hs4)
      rw [e1, e2, chL_chF] at h2
      exact h2
    have HPN : Hid (∀ w, Calls Try.prog 16 #[.int .u64 (s.size : Int)] w fun e w' => e = .returned (.string (⟨(put s.size).toArray⟩ : ByteArray)) ∧ Below w.heap.size w w') := fun w => cput_any s.size w (by omega)
    have hw : IntKind.u64.wrap (s.size : Int) = (s.size : Int) := by rw [IntKind.wrap_u64]; omega
    have h1 := pckR_size hs4
    have h2 := putB_size (n := s.size) (by omega)
    have hE : (⟨(put s.size).toArray⟩ : ByteArray) ++ pckR s = pckB s := rfl
    generalize pckB s = Z at *
    generalize pckR s = Y at *
    generalize (⟨(put s.size).toArray⟩ : ByteArray) = X at *
    generalize (choS s).length = N at *
    generalize chF (choS s) = F at *
    clear hS hbig
    go_wp2_with fail
    refine (HPK.out _).mono ?_
    rintro e w3 ⟨rfl, hb3⟩
    replace hb3 := bl_trans3 hb2 hb3 hb2.size
    clear hb2
    go_wp2_with fail
    refine (HSP.out _).mono ?_
    rintro e w4 ⟨rfl, hb4⟩
    replace hb4 := bl_trans3 hb3 hb4 hb3.size
    clear hb3
    go_wp2_with fail
    refine (HUP.out _).mono ?_
    rintro e w5 ⟨rfl, hb5⟩
    replace hb5 := bl_trans3 hb4 hb5 hb4.size
    clear hb4
    go_wp2_with fail
    refine (HCH.out _).mono ?_
    rintro e w6 ⟨⟨v, rfl, ha⟩, hb6⟩
    have HA : Hid (ChArg w6 v N F) := ha
    replace hb6 := bl_trans3 hb5 hb6 hb5.size
    clear hb5 ha
    go_wp2_with fail
    refine (HRE.out _ _ HA.out).mono ?_
    rintro e w7 ⟨rfl, hb7⟩
    replace hb7 := bl_trans3 hb6 hb7 hb6.size
    clear hb6
    go_wp2_with fail
    refine (HPN.out _).mono ?_
    rintro e w8 ⟨rfl, hb8⟩
    replace hb8 := bl_trans3 hb7 hb8 hb7.size
    clear hb7
    go_wp2_with fail
    go_ret
    exact ⟨rfl, hb8⟩

set_option maxRecDepth 100000 in
theorem lifted (os : Os) (started : os.Started) (H : Type) (enc : TypeId × Value → H) :
    ReturnsInHanded {} Try.checked os 3 .any (Rows.fnPackedSpec.pre6 enc Try.prog Try.f3 Rows.fnPackedRow.domain false) (Rows.fnPackedSpec.post enc Try.prog Try.f3 false true false false) := by
  refine returnsInHanded_of_change (C := Try.checked) own started (by kernel_rfl) Try.func3
    (ChangeSpec.witness6 (enc := enc) (C := Try.checked) false ⟨#[], #[.slice none 0 0], []⟩ 8 (by kernel_rfl) (by kernel_rfl) (by kernel_rfl) (by kernel_rfl)) ?_
  intro W base args ds gs before hval0 hW hcnd _
  have hval : ∀ (j : Nat) t v, Try.f3.params[j]? = some t → args[j]? = some v → Value.okWide Try.prog W .any base t v := hval0
  have hW' := hW
  obtain ⟨p, q, hA0, hV, rfl, hfz, hnd⟩ := hW
  have hA : DataW.TrodAll enc Try.prog W 0 (fun _ => true) true Try.f3.params.toList args.toList ds p := hA0
  rw [Try.params3] at hA hval
  obtain ⟨v0, vs0, d0, ds0, p0, q0, hargs, rfl, rfl, h0, r0⟩ := trodAll_cons hA
  obtain ⟨rfl, rfl, rfl⟩ := trodAll_nil r0
  obtain rfl : args = #[v0] := by cases args; simp_all
  obtain ⟨rfl, rfl⟩ := trodVars_none hV
  obtain ⟨a0, len0, cap0, rfl⟩ := okWide_slice Try.underlying22 (hval 0 22 v0 rfl rfl)
  have k0 := h0
  have lt0 : ∀ x ∈ p0, x.block < W.heap.size := by obtain ⟨m, hm⟩ := k0; exact DataW.trod_lt m _ _ _ hm
  obtain ⟨z0, w0⟩ : ∃ zs, IsRow .u8 W a0 len0 cap0 zs := by
    obtain ⟨fuel, hf⟩ := h0
    rcases open_ints Try.underlying22 Try.underlying5 (by kernel_rfl) hf with ⟨hcs, _⟩ | ⟨x, l, c, zs, hcs, _, hl, hm, hz, _, hcell, hwz⟩
    · simp [Value.cells] at hcs
      obtain ⟨rfl, rfl, rfl⟩ := hcs
      exact ⟨[], .inl ⟨rfl, rfl, rfl, rfl⟩⟩
    · simp [Value.cells] at hcs
      obtain ⟨rfl, rfl, rfl⟩ := hcs
      exact ⟨zs, .inr ⟨_, rfl, hl, hm, by simpa using hz, hcell, hwz⟩⟩
  clear hA0 hval0
  refine (walk a0 len0 cap0 z0 W w0).mono fun e W' ⟨he, bel⟩ => ?_
  subst he
  exact ⟨_, rfl, _, _, _, [], _, [], hW', trodAll_mk1 (shut_bool Try.underlying4 _), (trodAll_cons_mk (Below.trod laidOut (by kernel_rfl) (of_decide_eq_true (by kernel_rfl)) k0 bel lt0) trodAll_mk0), rfl, bel.frame _, fun h => by cases h⟩

theorem over : Rows.fnPackedRow.holds Try.pinned (OpenSpec.ofChange Rows.fnPackedSpec) :=
  OpenClaim.holds_of_wide 3 Try.f3 rfl rfl rfl rfl rfl rfl rfl ⟨rfl, rfl, rfl, rfl, rfl⟩ rfl rfl rfl rfl rfl (by kernel_rfl) Try.func3 (by kernel_rfl)
    (of_decide_eq_true (by kernel_rfl)) (by unfold Func.isWrapper; first | (rw [if_pos (by decide +kernel)]; kernel_rfl) | (rw [if_neg (by decide +kernel)]; exact ⟨rfl, rfl⟩))
    (fun os started H enc _ => lifted os started H enc)

theorem proved : Rows.FnPackedSaid := over
#print axioms proved
end Go.Proofs.Ytadimakdjndcdad.fnPacked
