/-
  What was sealed is opened as it was, with the same key and number: at every code that is drawn from.
-/
import Derived.Test.YtnkahdidelhdaabDoorRows
import Derived.Test.YtnkahdidelhdaabDoorTie
import Derived.Test.YtnkahdidelhdaabDoorCards
import Derived.Test.YtnkahdidelhdaabDoorCardKit2
import Derived.SevenTiedAt
import Derived.Stop.Joined
import Derived.Test.YtnkahdidelhdaabDoorOpenC
import Derived.Test.YtnkahdidelhdaabDoorSealS
import Derived.Test.YtnkahdidelhdaabDoorDrwSeal
import Derived.Test.YtnkahdidelhdaabDoorBig
import Derived.WalkKit
import Derived.ProofKit
import Derived.OpenShut
import Derived.ShutString
import Derived.ChangeOld
import Derived.Below
namespace Go.Proofs.YtnkahdidelhdaabDoor.fnSealed
open Go.ChangeShapes Go.WideShapes Go.ChangeAt Go.RowKit
open Go.ChangeMaps (open_string shut_string)
set_option linter.unusedVariables false

theorem own : ownKnob Tryd.prog.godebug = none := by kernel_rfl
theorem laidOut : laidOutB Tryd.prog = true := by kernel_rfl

/-- what the walk is told of a slice of integers that came in -/
def IsRow (k : IntKind) (w : World) (a : Option Addr) (len cap : Nat) (zs : List Int) : Prop :=
  (a = none ∧ len = 0 ∧ cap = 0 ∧ zs = []) ∨
  ∃ x, a = some x ∧ len ≤ cap ∧ cap ≤ maxLen ∧ zs.length = cap ∧ (∀ i, i < zs.length → w.cell? (x.add i) = some (.int k (zs.getD i 0))) ∧ ∀ n ∈ zs, (Lit.int k n).wf = true


set_option maxRecDepth 100000 in
set_option maxHeartbeats 4000000 in
theorem walk (a0 : Option Addr) (len0 cap0 : Nat) (z0 : List Int) (w : World) (w0 : IsRow .u8 w a0 len0 cap0 z0) (a : Addr) (hF : SF w a) :
    Calls Tryd.prog 4 #[.slice a0 len0 cap0] w fun e w' => e = .returned (.bool true) ∧ Below w.heap.size w w' := by
  by_cases hbig : 1048576 < len0
  · go_enter Tryd.func4, Tryd.ntmps4
    go_wp2_with fail
    refine (big_yes a0 len0 cap0 _ hbig).mono ?_
    rintro e w1 ⟨rfl, rfl⟩
    go_wp2_with fail
    go_ret
    exact ⟨rfl, Below.refl _ _⟩
  · have hS := src_of w0 (by omega)
    have HF : Hid (SF w a) := hF
    clear w0 hF
    go_enter Tryd.func4, Tryd.ntmps4
    go_wp2_with fail
    refine (big_no a0 len0 cap0 _ hbig).mono ?_
    rintro e w1 ⟨rfl, hw1⟩
    subst w1
    go_wp2_with fail
    refine (drawSeal hS (Below.refl _ _)).mono ?_
    rintro e w2 ⟨⟨k, n, s, hk, hn1, hn2, hs, rfl⟩, hb2⟩
    by_cases h : sealOk k n s
    · have HA : Hid (∀ w, SF w a → Calls Tryd.prog 11 #[.string k, .int .i64 n, .string s] w fun e w' => e = .returned (.tuple #[.string (sealB k n s), .bool true]) ∧ Below w.heap.size w w') := fun w hF => seal_yes k s n a w hF h
      have HB : Hid (∀ w, Calls Tryd.prog 12 #[.string k, .int .i64 n, .string s] w fun e w' => e = .returned (.tuple #[.string (sealB k n s), .bool true]) ∧ Below w.heap.size w w') := fun w => sseal_yes k s n w h
      have HO : Hid (∀ w, SF w a → Calls Tryd.prog 13 #[.string k, .int .i64 n, .string (sealB k n s)] w fun e w' => e = .returned (.tuple #[.string s, .bool true]) ∧ Below w.heap.size w w') := fun w hF => by
        have := open_yes k (sealB k n s) n a w hF (seal_open h).1
        rwa [(seal_open h).2] at this
      have hz := sealB_size k n s
      have hz2 : ((sealB k n s).size : Int) = (s.size : Int) + 32 := by omega
      generalize sealB k n s = R at HA HB HO hz hz2
      clear h hk hn1 hn2
      go_wp2_with fail
      refine (HA.out _ (HF.out.below hb2)).mono ?_
      rintro e w3 ⟨rfl, hb3⟩
      replace hb3 := bl_trans hb2 hb3 hb2.size
      clear hb2
      go_wp2_with fail
      refine (HB.out _).mono ?_
      rintro e w4 ⟨rfl, hb4⟩
      replace hb4 := bl_trans hb3 hb4 hb3.size
      clear hb3
      go_wp2_with fail
      refine (HO.out _ (HF.out.below hb4)).mono ?_
      rintro e w5 ⟨rfl, hb5⟩
      replace hb5 := bl_trans hb4 hb5 hb4.size
      clear hb4
      go_wp2_with fail
      go_ret
      exact ⟨rfl, hb5⟩
    · have HA : Hid (∀ w, SF w a → Calls Tryd.prog 11 #[.string k, .int .i64 n, .string s] w fun e w' => e = .returned (.tuple #[.string ⟨#[]⟩, .bool false]) ∧ Below w.heap.size w w') := fun w hF => seal_no k s n a w hF h
      have HB : Hid (∀ w, Calls Tryd.prog 12 #[.string k, .int .i64 n, .string s] w fun e w' => e = .returned (.tuple #[.string ⟨#[]⟩, .bool false]) ∧ Below w.heap.size w w') := fun w => sseal_no k s n w h
      clear h hk hn1 hn2
      go_wp2_with fail
      refine (HA.out _ (HF.out.below hb2)).mono ?_
      rintro e w3 ⟨rfl, hb3⟩
      replace hb3 := bl_trans hb2 hb3 hb2.size
      clear hb2
      go_wp2_with fail
      refine (HB.out _).mono ?_
      rintro e w4 ⟨rfl, hb4⟩
      replace hb4 := bl_trans hb3 hb4 hb3.size
      clear hb3
      go_wp2_with fail
      go_ret
      exact ⟨rfl, hb4⟩

set_option maxRecDepth 100000 in
theorem lifted (os : Os) (started : os.Started) (H : Type) (enc : TypeId × Value → H) :
    ReturnsInHanded {} Tryd.checked os 4 .any (fun w args => (Rows.fnSealedSpec.pre enc Tryd.prog Tryd.f4 [] false w args ∧ laidMetH Tryd.prog [("loop.example/g00228/impl.roundWords", Rows.laid_loop_example_g00228_impl_roundWords), ("loop.example/g00228/impl.errRefused", Rows.laid_loop_example_g00228_impl_errRefused)] w) ∧ sizedMet enc Tryd.prog Tryd.f4 (OpenSpec.ofChange Rows.fnSealedSpec) false w args) (Rows.fnSealedSpec.post enc Tryd.prog Tryd.f4 false true false false) := by
  refine returnsInHanded_of_change_and (C := Tryd.checked) (X := fun w _ => laidMetH Tryd.prog [("loop.example/g00228/impl.roundWords", Rows.laid_loop_example_g00228_impl_roundWords), ("loop.example/g00228/impl.errRefused", Rows.laid_loop_example_g00228_impl_errRefused)] w) (fun _ _ _ hh h => h.of_heap hh) own started (by kernel_rfl) Tryd.func4
    (ChangeSpec.witness_shaped (enc := enc) (C := Tryd.checked) (os := os) (X := fun w _ => laidMetH Tryd.prog [("loop.example/g00228/impl.roundWords", Rows.laid_loop_example_g00228_impl_roundWords), ("loop.example/g00228/impl.errRefused", Rows.laid_loop_example_g00228_impl_errRefused)] w) false (World.doorLaid Tryd.prog 400 os) #[.slice none 0 0] 8 rfl (World.shaped_of_RefB (by kernel_rfl) (by kernel_rfl)) (by kernel_rfl) (by kernel_rfl) (by kernel_rfl) (door_met os _)) ?_
  intro W base args ds gs before hval0 hW _ _ hL _
  have hval : ∀ (j : Nat) t v, Tryd.f4.params[j]? = some t → args[j]? = some v → Value.okWide Tryd.prog W .any base t v := hval0
  have hW' := hW
  obtain ⟨p, q, hA0, hV, rfl, hfz, hnd⟩ := hW
  have hA : DataW.TrodAll enc Tryd.prog W 0 (fun _ => true) true Tryd.f4.params.toList args.toList ds p := hA0
  rw [Tryd.params4] at hA hval
  obtain ⟨v0, vs0, d0, ds0, p0, q0, hargs, rfl, rfl, h0, r0⟩ := trodAll_cons hA
  obtain ⟨rfl, rfl, rfl⟩ := trodAll_nil r0
  obtain rfl : args = #[v0] := by cases args; simp_all
  have hV1 : DataW.TrodVars enc Tryd.prog W (fun _ => true) ["loop.example/g00228/impl.errRefused", "loop.example/g00228/impl.roundWords"] gs q := hV
  have hV2 := hV1
  obtain ⟨_, _, _, _, dV0, _, _, _, _, _, dV1, _, hgs, _⟩ := trodVars_two hV2
  subst hgs
  obtain ⟨aE, hSF⟩ := of_laid hL
  obtain ⟨a0, len0, cap0, rfl⟩ := okWide_slice Tryd.underlying22 (hval 0 22 v0 rfl rfl)
  have k0 := h0
  have lt0 : ∀ x ∈ p0, x.block < W.heap.size := by obtain ⟨m, hm⟩ := k0; exact DataW.trod_lt m _ _ _ hm
  obtain ⟨z0, w0⟩ : ∃ zs, IsRow .u8 W a0 len0 cap0 zs := by
    obtain ⟨fuel, hf⟩ := h0
    rcases open_ints Tryd.underlying22 Tryd.underlying5 (by kernel_rfl) hf with ⟨hcs, _⟩ | ⟨x, l, c, zs, hcs, _, hl, hm, hz, _, hcell, hwz⟩
    · simp [Value.cells] at hcs
      obtain ⟨rfl, rfl, rfl⟩ := hcs
      exact ⟨[], .inl ⟨rfl, rfl, rfl, rfl⟩⟩
    · simp [Value.cells] at hcs
      obtain ⟨rfl, rfl, rfl⟩ := hcs
      exact ⟨zs, .inr ⟨_, rfl, hl, hm, by simpa using hz, hcell, hwz⟩⟩
  clear hA0 hval0
  refine (walk a0 len0 cap0 z0 W w0 aE hSF).mono fun e W' ⟨he, bel⟩ => ?_
  subst he
  exact ⟨_, rfl, _, _, _, [], _, _, hW', trodAll_mk1 (shut_bool Tryd.underlying4 _), (trodAll_cons_mk (Below.trod laidOut (by kernel_rfl) (of_decide_eq_true (by kernel_rfl)) k0 bel lt0) trodAll_mk0), Below.trodVars cLaidOut bel (by kernel_rfl) hV1, bel.frame _, fun h => by cases h⟩

theorem over : Rows.fnSealedRow.holds Tryd.pinned (OpenSpec.ofChange Rows.fnSealedSpec) :=
  OpenClaim.holds_of_wide 4 Tryd.f4 rfl rfl rfl rfl rfl rfl rfl ⟨rfl, rfl, rfl, rfl, rfl⟩ rfl rfl rfl rfl rfl (by kernel_rfl) Tryd.func4 (by kernel_rfl)
    (of_decide_eq_true (by kernel_rfl)) (by unfold Func.isWrapper; first | (rw [if_pos (by decide +kernel)]; kernel_rfl) | (rw [if_neg (by decide +kernel)]; exact ⟨rfl, rfl⟩))
    (fun os started H enc _ => lifted os started H enc)

theorem proved : Rows.FnSealedCardSaid :=
  Claim7.holds_tied_plain_at .later [] [.data, .sentinel] true (true, "e2d9ff6f5b12b5eec3556f02db28a48c1f8579e30845a69b875e9a7b3f309247") true
    over (fun _ h => by cases h) (by kernel_rfl) (fun _ h => by cases h) fnSealed_row_tie rfl ⟨rfl, rfl⟩ (by kernel_rfl) rfl
    (fun f fn hf hfn => by
      obtain rfl : f = 4 := Option.some.inj ((show Tryd.prog.funcNamed "loop.example/g00228/laws.FnSealed" = some 4 by kernel_rfl).symm.trans hf) |>.symm
      obtain rfl : fn = Tryd.f4 := (Option.some.inj (Tryd.func4.symm.trans hfn)).symm
      exact ⟨by kernel_rfl, fun j t ht => by
        have hall : Tryd.f4.params.all (fun t => Tryd.prog.wantsStandIn t == false) = true := by kernel_rfl
        obtain ⟨hj, rfl⟩ := Array.getElem?_eq_some_iff.1 ht
        exact beq_iff_eq.1 (Array.all_eq_true.1 hall j hj)⟩)
    (by kernel_rfl)
#print axioms proved
end Go.Proofs.YtnkahdidelhdaabDoor.fnSealed
