/-
  PolicyOk of the code answers as the model does: at every policy.
-/
import Derived.Test.YtpolplemjaibgaaRows
import Derived.Test.YtpolplemjaibgaaToPol
import Derived.WalkKit
import Derived.ProofKit
import Derived.OpenShut
import Derived.ShutString
import Derived.ChangeOld
import Derived.Below
import Derived.Lib.SmallJoins
import Derived.Deep.Strs
namespace Go.Proofs.Ytpolplemjaibgaa.fnExactPolicyOk
open Go.ChangeShapes Go.WideShapes Go.ChangeAt Go.RowKit
open Go.ChangeMaps (open_string shut_string)
set_option linter.unusedVariables false

theorem own : ownKnob Try.prog.godebug = none := by kernel_rfl
theorem laidOut : laidOutB Try.prog = true := by kernel_rfl

theorem bl_trans2 {B C : Nat} {a b c : World} (h : Below B a b) (k : Below C b c) (hBC : B ≤ C) : Below B a c :=
  ⟨k.os.trans h.os, k.tape.trans h.tape, k.output.trans h.output, Nat.le_trans h.size k.size, fun i hi => (k.block i (Nat.lt_of_lt_of_le hi hBC)).trans (h.block i hi)⟩
theorem row_lt {w : World} {g : Nat} {o : Obj} (h : w.heap[g]? = some o) : g < w.heap.size := (Array.getElem?_eq_some_iff.1 h).1
set_option maxRecDepth 100000 in
set_option maxHeartbeats 1000000 in
theorem walk (l b m : Int) (w : World) :
    Calls Try.prog 3 #[polV l b m] w fun e w' => e = .returned (.bool true) ∧ Below w.heap.size w w' := by
  have HT : Hid (∀ w, Calls Try.prog 10 #[polV l b m] w fun e w' => e = .returned (polV l b m) ∧ Below w.heap.size w w') := fun w => toPol_any l b m w
  obtain ⟨q, HA, HB⟩ : ∃ q, Hid (∀ w, Calls Try.prog 9 #[polV l b m] w fun e w' => e = .returned (.bool q) ∧ Below w.heap.size w w') ∧ Hid (∀ w, Calls Try.prog 11 #[polV l b m] w fun e w' => e = .returned (.bool q) ∧ Below w.heap.size w w') := by
    exact ⟨decide (polP l b m), fun w => spol_any l b m w, fun w => pol_any l b m w⟩
  unfold polV at HA HB HT ⊢
  go_enter Try.func3, Try.ntmps3
  go_wp2_with fail
  refine (HT.out _).mono ?_
  rintro e w1 ⟨rfl, hb1⟩
  have hr0 := heap_alloc_new w (.cells #[.int .i64 l, .int .i64 b, .int .i64 m] 23)
  have hr1 : Hid (w1.heap[w.heap.size]? = some (.cells #[.int .i64 l, .int .i64 b, .int .i64 m] 23 (0, 0))) := (hb1.block _ (by simp)).trans hr0
  have hb1' : Below w.heap.size w w1 := bl_trans2 ((Below.refl _ _).alloc (Nat.le_refl _) _) hb1 (by simp)
  clear hb1 hr0
  go_wp2_with fail
  refine (HA.out _).mono ?_
  rintro e w2 ⟨rfl, hb2⟩
  have hl := row_lt hr1.out
  have hr2 : Hid (w2.heap[w.heap.size]? = some (.cells #[.int .i64 l, .int .i64 b, .int .i64 m] 23 (0, 0))) := (hb2.block _ hl).trans hr1.out
  replace hb2 := bl_trans2 hb1' hb2 hb1'.size
  clear hb1' hr1 hl
  have hi : Option.map (·.size) (Try.prog.info? 23) = some 3 := by kernel_rfl
  go_wp2_with (refine wpList_load_row rfl 23 _ rfl (w.heap.size) rfl 23 #[.int .i64 l, .int .i64 b, .int .i64 m] (0, 0) _ hr2.out Try.underlying23 rfl hi ?_)
  refine (HT.out _).mono ?_
  rintro e w3 ⟨rfl, hb3⟩
  replace hb3 := bl_trans2 hb2 hb3 hb2.size
  clear hb2 hr2
  go_wp2_with fail
  refine (HB.out _).mono ?_
  rintro e w4 ⟨rfl, hb4⟩
  replace hb4 := bl_trans2 hb3 hb4 hb3.size
  clear hb3
  cases q with
  | true =>
    go_wp2_with fail
    go_ret
    exact ⟨rfl, hb4⟩
  | false =>
    go_wp2_with fail
    go_ret
    exact ⟨rfl, hb4⟩
theorem array3x {α : Type} {cs : Array α} (h : cs.size = 3) : ∃ c0 c1 c2, cs = #[c0, c1, c2] := by
  obtain ⟨l⟩ := cs
  match l, h with
  | [c0, c1, c2], _ => exact ⟨c0, c1, c2, rfl⟩
set_option maxRecDepth 100000 in
theorem read3 {H : Type} {enc : TypeId × Value → H} {W : World} {v : Value} {d : DataW H} {ps : List MemPlace} (h0 : DataW.Trod enc Try.prog W 0 (fun _ => true) true 23 v d ps) (ho : Value.okWide Try.prog W .any 0 23 v) :
    ∃ l b m : Int, v = polV l b m := by
  obtain ⟨cs, rfl, hsz⟩ := okWide_struct Try.underlying23 ho
  have hsz3 : cs.size = 3 := hsz.trans (by kernel_rfl)
  obtain ⟨c0, c1, c2, rfl⟩ := array3x hsz3
  obtain ⟨fuel, hf⟩ := h0
  obtain ⟨y0, y1, y2, n, _, _, t0, t1, t2⟩ := Go.Deep.trod_struct3 Try.underlying23 hf
  have cI : Try.prog.cellsOf 2 = 1 := by kernel_rfl
  obtain ⟨l, e0, _⟩ := DataW.trod_int Try.underlying2 t0
  obtain ⟨b, e1, _⟩ := DataW.trod_int Try.underlying2 t1
  obtain ⟨m, e2, _⟩ := DataW.trod_int Try.underlying2 t2
  rw [cI] at e0 e1 e2
  refine ⟨l, b, m, ?_⟩
  simp [Value.cells] at e0 e1 e2
  rw [e0, e1, e2]; rfl
set_option maxRecDepth 100000 in
theorem lifted (os : Os) (started : os.Started) (H : Type) (enc : TypeId × Value → H) :
    ReturnsInHanded {} Try.checked os 3 .any (Rows.fnExactPolicyOkSpec.pre6 enc Try.prog Try.f3 Rows.fnExactPolicyOkRow.domain false) (Rows.fnExactPolicyOkSpec.post enc Try.prog Try.f3 false true false false) := by
  refine returnsInHanded_of_change (C := Try.checked) own started (by kernel_rfl) Try.func3
    (ChangeSpec.witness6 (enc := enc) (C := Try.checked) false ⟨#[], #[.agg #[.int .i64 0, .int .i64 0, .int .i64 0]], []⟩ 8 (by kernel_rfl) (by kernel_rfl) (by kernel_rfl) (by kernel_rfl)) ?_
  intro W base args ds gs before hval0 hW hcnd _
  have hval : ∀ (j : Nat) t v, Try.f3.params[j]? = some t → args[j]? = some v → Value.okWide Try.prog W .any base t v := hval0
  have hW' := hW
  obtain ⟨p, q, hA0, hV, rfl, hfz, hnd⟩ := hW
  have hA : DataW.TrodAll enc Try.prog W 0 (fun _ => true) true Try.f3.params.toList args.toList ds p := hA0
  rw [Try.params3] at hA hval
  obtain ⟨v0, vs0, d0, ds0, p0, q0, hargs, rfl, rfl, h0, r0⟩ := trodAll_cons hA
  obtain ⟨rfl, rfl, rfl⟩ := trodAll_nil r0
  obtain rfl : args = #[v0] := by cases args; simp_all
  obtain ⟨rfl, rfl⟩ := trodVars_none hV
  obtain ⟨l, b, m, rfl⟩ := read3 h0 (Value.okWide_any_base (hval 0 _ v0 rfl rfl))
  have k0 := h0
  have lt0 : ∀ x ∈ p0, x.block < W.heap.size := by obtain ⟨m, hm⟩ := k0; exact DataW.trod_lt m _ _ _ hm
  clear hA0 hval0
  refine (walk l b m W).mono fun e W' ⟨he, bel⟩ => ?_
  subst he
  exact ⟨_, rfl, _, _, _, [], _, [], hW', trodAll_mk1 (shut_bool Try.underlying4 _), (trodAll_cons_mk (Below.trod laidOut (by kernel_rfl) (of_decide_eq_true (by kernel_rfl)) k0 bel lt0) trodAll_mk0), rfl, bel.frame _, fun h => by cases h⟩

theorem over : Rows.fnExactPolicyOkRow.holds Try.pinned (OpenSpec.ofChange Rows.fnExactPolicyOkSpec) :=
  OpenClaim.holds_of_wide 3 Try.f3 rfl rfl rfl rfl rfl rfl rfl ⟨rfl, rfl, rfl, rfl, rfl⟩ rfl rfl rfl rfl rfl (by kernel_rfl) Try.func3 (by kernel_rfl)
    (of_decide_eq_true (by kernel_rfl)) (by unfold Func.isWrapper; first | (rw [if_pos (by decide +kernel)]; kernel_rfl) | (rw [if_neg (by decide +kernel)]; exact ⟨rfl, rfl⟩))
    (fun os started H enc _ => lifted os started H enc)
theorem proved : Rows.FnExactPolicyOkSaid :=
  over
#print axioms proved
end Go.Proofs.Ytpolplemjaibgaa.fnExactPolicyOk
