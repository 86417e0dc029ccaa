/-
  What is unpacked, packed again, has just the bytes that it was read from.
-/
import Derived.Test.YtibciflmalfbjaaRows
import Derived.Test.YtibciflmalfbjaaSdU
import Derived.Test.YtibciflmalfbjaaRdA
import Derived.Test.YtibciflmalfbjaaBig
import Derived.WalkKit
import Derived.ProofKit
import Derived.OpenShut
import Derived.ShutString
import Derived.ChangeOld
import Derived.Below
namespace Go.Proofs.Ytibciflmalfbjaa.fnUnpacked
open Go.ChangeShapes Go.WideShapes Go.ChangeAt Go.RowKit
open Go.ChangeMaps (open_string shut_string)
set_option linter.unusedVariables false

theorem own : ownKnob Try.prog.godebug = none := by kernel_rfl
theorem laidOut : laidOutB Try.prog = true := by kernel_rfl

/-- WHAT THE WALK IS TOLD OF A SLICE OF INTEGERS THAT CAME IN: it is nil; or it leads to a row of 'cap' cells, the numbers 'zs' (the first 'len' are its elements, the rest its spare room), each fitting its kind. -/
def IsRow (k : IntKind) (w : World) (a : Option Addr) (len cap : Nat) (zs : List Int) : Prop :=
  (a = none ∧ len = 0 ∧ cap = 0 ∧ zs = []) ∨
  ∃ x, a = some x ∧ len ≤ cap ∧ cap ≤ maxLen ∧ zs.length = cap ∧ (∀ i, i < zs.length → w.cell? (x.add i) = some (.int k (zs.getD i 0))) ∧ ∀ n ∈ zs, (Lit.int k n).wf = true

set_option linter.unusedSimpArgs false
set_option maxRecDepth 100000 in
theorem drawUnpack {w0 : World} {a : Option Addr} {len cap : Nat} {W : World} (hS : Src w0 a len) (hb : Below w0.heap.size w0 W) :
    Calls Try.prog 10 #[.slice a len cap] W fun e w' => (∃ s : ByteArray, s.size ≤ 100000 ∧ e = .returned (.string s)) ∧ Below w0.heap.size w0 w' := by
  go_enter Try.func10, Try.ntmps10
  go_wp2_with fail
  refine (open_any hb).mono ?_
  rintro e w1 ⟨rfl, hr, _⟩
  go_wp2_with fail
  refine (data_any hS hr 8 (by omega) (by omega)).mono ?_
  rintro e w2 ⟨⟨s, hs, rfl⟩, hr2⟩
  have h1 := pckR_size (s := s) (by omega)
  have h2 := putB_size (n := s.size) (by omega)
  have hps : (pckB s).size ≤ 72015 := by unfold pckB; rw [ByteArray.size_append]; omega
  have HP : Hid (∀ w, Calls Try.prog 25 #[.string s] w fun e w' => e = .returned (.tuple #[.string (pckB s), .bool true]) ∧ Below w.heap.size w w') := fun w => spack_yes s w (by omega)
  generalize pckB s = P at hps HP
  clear h1 h2
  go_wp2_with fail
  refine (HP.out _).mono ?_
  rintro e w3 ⟨rfl, hb3⟩
  have hr3 := hr2.rd.past hb3
  go_wp2_with fail
  refine (hurt_any hS hr3 P (by omega)).mono ?_
  rintro e w4 ⟨⟨t, ht, rfl⟩, hr4⟩
  go_wp2_with fail
  go_ret
  exact ⟨⟨t, by omega, rfl⟩, hr4.rd.below⟩

set_option maxRecDepth 100000 in
set_option maxHeartbeats 1000000 in
theorem walk (a0 : Option Addr) (len0 cap0 : Nat) (z0 : List Int) (w : World) (w0 : IsRow .u8 w a0 len0 cap0 z0) :
    Calls Try.prog 4 #[.slice a0 len0 cap0] w fun e w' => e = .returned (.bool true) ∧ Below w.heap.size w w' := by
  by_cases hbig : 1048576 < len0
  · go_enter Try.func4, Try.ntmps4
    go_wp2_with fail
    refine (big_yes a0 len0 cap0 _ hbig).mono ?_
    rintro e w1 ⟨rfl, rfl⟩
    go_wp2_with fail
    go_ret
    exact ⟨rfl, Below.refl _ _⟩
  · have hS := src_of w0 (by omega)
    clear w0
    go_enter Try.func4, Try.ntmps4
    go_wp2_with fail
    refine (big_no a0 len0 cap0 _ hbig).mono ?_
    rintro e w1 ⟨rfl, hw⟩
    subst w1
    go_wp2_with fail
    refine (drawUnpack hS (Below.refl _ _)).mono ?_
    rintro e w2 ⟨⟨s, hs, rfl⟩, hb2⟩
    have HA : Hid (∀ w, Calls Try.prog 8 #[.string s] w fun e w' => e = .returned (upAns (unp s)) ∧ Below w.heap.size w w') := fun w => unpack_any s w (by omega)
    have HB : Hid (∀ w, Calls Try.prog 7 #[.string s] w fun e w' => e = .returned (upAns (unp s)) ∧ Below w.heap.size w w') := fun w => sunpack_any s w (by omega)
    have HPK : Hid (∀ d, unp s = some d → ∀ w, Calls Try.prog 11 #[.string d] w fun e w' => e = .returned (.tuple #[.string s, .bool true]) ∧ Below w.heap.size w w') := fun d h w => by
      obtain ⟨h1, h2⟩ := unp_some h
      have h3 := pack_yes d w h1
      rw [h2] at h3
      exact h3
    clear hS hbig hs
    generalize unp s = q at HA HB HPK
    cases q with
    | none =>
      have HA2 : Hid (∀ w, Calls Try.prog 8 #[.string s] w fun e w' => e = .returned (.tuple #[.string ⟨#[]⟩, .bool false]) ∧ Below w.heap.size w w') := HA
      have HB2 : Hid (∀ w, Calls Try.prog 7 #[.string s] w fun e w' => e = .returned (.tuple #[.string ⟨#[]⟩, .bool false]) ∧ Below w.heap.size w w') := HB
      clear HA HB HPK
      go_wp2_with fail
      refine (HA2.out _).mono ?_
      rintro e w3 ⟨rfl, hb3⟩
      replace hb3 := bl_trans3 hb2 hb3 hb2.size
      clear hb2
      go_wp2_with fail
      refine (HB2.out _).mono ?_
      rintro e w4 ⟨rfl, hb4⟩
      replace hb4 := bl_trans3 hb3 hb4 hb3.size
      clear hb3
      go_wp2_with fail
      go_ret
      exact ⟨rfl, hb4⟩
    | some d =>
      have HA2 : Hid (∀ w, Calls Try.prog 8 #[.string s] w fun e w' => e = .returned (.tuple #[.string d, .bool true]) ∧ Below w.heap.size w w') := HA
      have HB2 : Hid (∀ w, Calls Try.prog 7 #[.string s] w fun e w' => e = .returned (.tuple #[.string d, .bool true]) ∧ Below w.heap.size w w') := HB
      have HP2 := hidS (HPK.out d rfl)
      clear HA HB HPK
      go_wp2_with fail
      refine (HA2.out _).mono ?_
      rintro e w3 ⟨rfl, hb3⟩
      replace hb3 := bl_trans3 hb2 hb3 hb2.size
      clear hb2
      go_wp2_with fail
      refine (HB2.out _).mono ?_
      rintro e w4 ⟨rfl, hb4⟩
      replace hb4 := bl_trans3 hb3 hb4 hb3.size
      clear hb3
      go_wp2_with fail
      refine (HP2.out _).mono ?_
      rintro e w5 ⟨rfl, hb5⟩
      replace hb5 := bl_trans3 hb4 hb5 hb4.size
      clear hb4
      go_wp2_with fail
      go_ret
      exact ⟨rfl, hb5⟩

set_option maxRecDepth 100000 in
theorem lifted (os : Os) (started : os.Started) (H : Type) (enc : TypeId × Value → H) :
    ReturnsInHanded {} Try.checked os 4 .any (Rows.fnUnpackedSpec.pre6 enc Try.prog Try.f4 Rows.fnUnpackedRow.domain false) (Rows.fnUnpackedSpec.post enc Try.prog Try.f4 false true false false) := by
  refine returnsInHanded_of_change (C := Try.checked) own started (by kernel_rfl) Try.func4
    (ChangeSpec.witness6 (enc := enc) (C := Try.checked) false ⟨#[], #[.slice none 0 0], []⟩ 8 (by kernel_rfl) (by kernel_rfl) (by kernel_rfl) (by kernel_rfl)) ?_
  intro W base args ds gs before hval0 hW hcnd _
  have hval : ∀ (j : Nat) t v, Try.f4.params[j]? = some t → args[j]? = some v → Value.okWide Try.prog W .any base t v := hval0
  have hW' := hW
  obtain ⟨p, q, hA0, hV, rfl, hfz, hnd⟩ := hW
  have hA : DataW.TrodAll enc Try.prog W 0 (fun _ => true) true Try.f4.params.toList args.toList ds p := hA0
  rw [Try.params4] at hA hval
  obtain ⟨v0, vs0, d0, ds0, p0, q0, hargs, rfl, rfl, h0, r0⟩ := trodAll_cons hA
  obtain ⟨rfl, rfl, rfl⟩ := trodAll_nil r0
  obtain rfl : args = #[v0] := by cases args; simp_all
  obtain ⟨rfl, rfl⟩ := trodVars_none hV
  obtain ⟨a0, len0, cap0, rfl⟩ := okWide_slice Try.underlying25 (hval 0 25 v0 rfl rfl)
  have k0 := h0
  have lt0 : ∀ x ∈ p0, x.block < W.heap.size := by obtain ⟨m, hm⟩ := k0; exact DataW.trod_lt m _ _ _ hm
  obtain ⟨z0, w0⟩ : ∃ zs, IsRow .u8 W a0 len0 cap0 zs := by
    obtain ⟨fuel, hf⟩ := h0
    rcases open_ints Try.underlying25 Try.underlying5 (by kernel_rfl) hf with ⟨hcs, _⟩ | ⟨x, l, c, zs, hcs, _, hl, hm, hz, _, hcell, hwz⟩
    · simp [Value.cells] at hcs
      obtain ⟨rfl, rfl, rfl⟩ := hcs
      exact ⟨[], .inl ⟨rfl, rfl, rfl, rfl⟩⟩
    · simp [Value.cells] at hcs
      obtain ⟨rfl, rfl, rfl⟩ := hcs
      exact ⟨zs, .inr ⟨_, rfl, hl, hm, by simpa using hz, hcell, hwz⟩⟩
  clear hA0 hval0
  refine (walk a0 len0 cap0 z0 W w0).mono fun e W' ⟨he, bel⟩ => ?_
  subst he
  exact ⟨_, rfl, _, _, _, [], _, [], hW', trodAll_mk1 (shut_bool Try.underlying4 _), (trodAll_cons_mk (Below.trod laidOut (by kernel_rfl) (of_decide_eq_true (by kernel_rfl)) k0 bel lt0) trodAll_mk0), rfl, bel.frame _, fun h => by cases h⟩

theorem over : Rows.fnUnpackedRow.holds Try.pinned (OpenSpec.ofChange Rows.fnUnpackedSpec) :=
  OpenClaim.holds_of_wide 4 Try.f4 rfl rfl rfl rfl rfl rfl rfl ⟨rfl, rfl, rfl, rfl, rfl⟩ rfl rfl rfl rfl rfl (by kernel_rfl) Try.func4 (by kernel_rfl)
    (of_decide_eq_true (by kernel_rfl)) (by unfold Func.isWrapper; first | (rw [if_pos (by decide +kernel)]; kernel_rfl) | (rw [if_neg (by decide +kernel)]; exact ⟨rfl, rfl⟩))
    (fun os started H enc _ => lifted os started H enc)

theorem proved : Rows.FnUnpackedSaid := over
#print axioms proved
end Go.Proofs.Ytibciflmalfbjaa.fnUnpacked
