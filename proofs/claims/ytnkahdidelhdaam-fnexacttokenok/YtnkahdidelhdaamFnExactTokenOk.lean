/-
  TokenOk of the code answers as the model does: at every token and number of bytes.
-/
import Derived.Test.YtnkahdidelhdaamRows
import Derived.Test.YtnkahdidelhdaamTokS
import Derived.WalkKit
import Derived.ProofKit
import Derived.OpenShut
import Derived.ShutString
import Derived.ChangeOld
import Derived.Below
import Derived.Lib.SmallJoins
namespace Go.Proofs.Ytnkahdidelhdaam.fnExactTokenOk
open Go.ChangeShapes Go.WideShapes Go.ChangeAt Go.RowKit
open Go.ChangeMaps (open_string shut_string)
set_option linter.unusedVariables false

theorem own : ownKnob Try.prog.godebug = none := by kernel_rfl
theorem laidOut : laidOutB Try.prog = true := by kernel_rfl

theorem bl_trans2 {B C : Nat} {a b c : World} (h : Below B a b) (k : Below C b c) (hBC : B ≤ C) : Below B a c :=
  ⟨k.os.trans h.os, k.tape.trans h.tape, k.output.trans h.output, Nat.le_trans h.size k.size, fun i hi => (k.block i (Nat.lt_of_lt_of_le hi hBC)).trans (h.block i hi)⟩
theorem row_lt {w : World} {g : Nat} {o : Obj} (h : w.heap[g]? = some o) : g < w.heap.size := (Array.getElem?_eq_some_iff.1 h).1
set_option maxRecDepth 100000 in
set_option maxHeartbeats 1000000 in
theorem walk (k b d l h : Int) (w : World) :
    Calls Try.prog 6 #[tokV k b d l, .int .i64 h] w fun e w' => e = .returned (.bool true) ∧ Below w.heap.size w w' := by
  have HT : Hid (∀ w, Calls Try.prog 22 #[tokV k b d l] w fun e w' => e = .returned (tokV k b d l) ∧ Below w.heap.size w w') := fun w => toTok_any k b d l w
  obtain ⟨q, HA, HB⟩ : ∃ q, Hid (∀ w, Calls Try.prog 21 #[tokV k b d l, .int .i64 h] w fun e w' => e = .returned (.bool q) ∧ Below w.heap.size w w') ∧ Hid (∀ w, Calls Try.prog 23 #[tokV k b d l, .int .i64 h] w fun e w' => e = .returned (.bool q) ∧ Below w.heap.size w w') := by
    by_cases hp : tokP k b d l h
    · exact ⟨true, fun w => stok_yes k b d l h w hp, fun w => tok_yes k b d l h w hp⟩
    · exact ⟨false, fun w => stok_no k b d l h w hp, fun w => tok_no k b d l h w hp⟩
  unfold tokV at HA HB HT ⊢
  go_enter Try.func6, Try.ntmps6
  go_wp2_with fail
  refine (HT.out _).mono ?_
  rintro e w1 ⟨rfl, hb1⟩
  have hr0 := heap_alloc_new w (.cells #[.int .i64 k, .int .i64 b, .int .i64 d, .int .i64 l] 40)
  have hr1 : Hid (w1.heap[w.heap.size]? = some (.cells #[.int .i64 k, .int .i64 b, .int .i64 d, .int .i64 l] 40 (0, 0))) := (hb1.block _ (by simp)).trans hr0
  have hb1' : Below w.heap.size w w1 := bl_trans2 ((Below.refl _ _).alloc (Nat.le_refl _) _) hb1 (by simp)
  clear hb1 hr0
  go_wp2_with fail
  refine (HA.out _).mono ?_
  rintro e w2 ⟨rfl, hb2⟩
  have hl := row_lt hr1.out
  have hr2 : Hid (w2.heap[w.heap.size]? = some (.cells #[.int .i64 k, .int .i64 b, .int .i64 d, .int .i64 l] 40 (0, 0))) := (hb2.block _ hl).trans hr1.out
  replace hb2 := bl_trans2 hb1' hb2 hb1'.size
  clear hb1' hr1 hl
  have hi : Option.map (·.size) (Try.prog.info? 40) = some 4 := by kernel_rfl
  go_wp2_with (refine wpList_load_row rfl 40 _ rfl (w.heap.size) rfl 40 #[.int .i64 k, .int .i64 b, .int .i64 d, .int .i64 l] (0, 0) _ hr2.out Try.underlying40 rfl hi ?_)
  refine (HT.out _).mono ?_
  rintro e w3 ⟨rfl, hb3⟩
  replace hb3 := bl_trans2 hb2 hb3 hb2.size
  clear hb2 hr2
  go_wp2_with fail
  refine (HB.out _).mono ?_
  rintro e w4 ⟨rfl, hb4⟩
  replace hb4 := bl_trans2 hb3 hb4 hb3.size
  clear hb3
  cases q with
  | true =>
    go_wp2_with fail
    go_ret
    exact ⟨rfl, hb4⟩
  | false =>
    go_wp2_with fail
    go_ret
    exact ⟨rfl, hb4⟩
theorem array4x {α : Type} {cs : Array α} (h : cs.size = 4) : ∃ c0 c1 c2 c3, cs = #[c0, c1, c2, c3] := by
  obtain ⟨l⟩ := cs
  match l, h with
  | [c0, c1, c2, c3], _ => exact ⟨c0, c1, c2, c3, rfl⟩
theorem read4 {H : Type} {enc : TypeId × Value → H} {W : World} {v : Value} {d : DataW H} {ps : List MemPlace} (h0 : DataW.Trod enc Try.prog W 0 (fun _ => true) true 40 v d ps) (ho : Value.okWide Try.prog W .any 0 40 v) :
    ∃ k b dd l : Int, v = tokV k b dd l := by
  obtain ⟨cs, rfl, hsz⟩ := okWide_struct Try.underlying40 ho
  have hsz4 : cs.size = 4 := hsz.trans (by kernel_rfl)
  obtain ⟨c0, c1, c2, c3, rfl⟩ := array4x hsz4
  obtain ⟨fuel, hf⟩ := h0
  obtain ⟨y0, y1, y2, y3, n, _, _, t0, t1, t2, t3⟩ := Go.Joins.trod_struct4 Try.underlying40 hf
  have cI : Try.prog.cellsOf 2 = 1 := by kernel_rfl
  obtain ⟨k, e0, _⟩ := DataW.trod_int Try.underlying2 t0
  obtain ⟨b, e1, _⟩ := DataW.trod_int Try.underlying2 t1
  obtain ⟨dd, e2, _⟩ := DataW.trod_int Try.underlying2 t2
  obtain ⟨l, e3, _⟩ := DataW.trod_int Try.underlying2 t3
  rw [cI] at e0 e1 e2 e3
  refine ⟨k, b, dd, l, ?_⟩
  simp [Value.cells] at e0 e1 e2 e3
  rw [e0, e1, e2, e3]; rfl
set_option maxRecDepth 100000 in
theorem lifted (os : Os) (started : os.Started) (H : Type) (enc : TypeId × Value → H) :
    ReturnsInHanded {} Try.checked os 6 .any (Rows.fnExactTokenOkSpec.pre6 enc Try.prog Try.f6 Rows.fnExactTokenOkRow.domain false) (Rows.fnExactTokenOkSpec.post enc Try.prog Try.f6 false true false false) := by
  refine returnsInHanded_of_change (C := Try.checked) own started (by kernel_rfl) Try.func6
    (ChangeSpec.witness6 (enc := enc) (C := Try.checked) false ⟨#[], #[.agg #[.int .i64 0, .int .i64 0, .int .i64 0, .int .i64 0], .int .i64 0], []⟩ 8 (by kernel_rfl) (by kernel_rfl) (by kernel_rfl) (by kernel_rfl)) ?_
  intro W base args ds gs before hval0 hW hcnd _
  have hval : ∀ (j : Nat) t v, Try.f6.params[j]? = some t → args[j]? = some v → Value.okWide Try.prog W .any base t v := hval0
  have hW' := hW
  obtain ⟨p, q, hA0, hV, rfl, hfz, hnd⟩ := hW
  have hA : DataW.TrodAll enc Try.prog W 0 (fun _ => true) true Try.f6.params.toList args.toList ds p := hA0
  rw [Try.params6] at hA hval
  obtain ⟨v0, vs0, d0, ds0, p0, q0, hargs, rfl, rfl, h0, r0⟩ := trodAll_cons hA
  obtain ⟨v1, vs1, d1, ds1, p1, q1, rfl, rfl, rfl, h1, r1⟩ := trodAll_cons r0
  obtain ⟨rfl, rfl, rfl⟩ := trodAll_nil r1
  obtain rfl : args = #[v0, v1] := by cases args; simp_all
  obtain ⟨rfl, rfl⟩ := trodVars_none hV
  obtain ⟨k, b, dd, l, rfl⟩ := read4 h0 (Value.okWide_any_base (hval 0 _ v0 rfl rfl))
  obtain ⟨a1, rfl, rfl, rfl, w1⟩ := open_int Try.underlying2 (hval 1 _ v1 rfl rfl) h1
  have k0 := h0
  have lt0 : ∀ x ∈ p0, x.block < W.heap.size := by obtain ⟨m, hm⟩ := k0; exact DataW.trod_lt m _ _ _ hm
  clear hA0 hval0
  refine (walk k b dd l a1 W).mono fun e W' ⟨he, bel⟩ => ?_
  subst he
  exact ⟨_, rfl, _, _, _, [], _, [], hW', trodAll_mk1 (shut_bool Try.underlying4 _), (trodAll_cons_mk (Below.trod laidOut (by kernel_rfl) (of_decide_eq_true (by kernel_rfl)) k0 bel lt0) (trodAll_cons_mk (shut_int Try.underlying2 w1) trodAll_mk0)), rfl, bel.frame _, fun h => by cases h⟩

theorem over : Rows.fnExactTokenOkRow.holds Try.pinned (OpenSpec.ofChange Rows.fnExactTokenOkSpec) :=
  OpenClaim.holds_of_wide 6 Try.f6 rfl rfl rfl rfl rfl rfl rfl ⟨rfl, rfl, rfl, rfl, rfl⟩ rfl rfl rfl rfl rfl (by kernel_rfl) Try.func6 (by kernel_rfl)
    (of_decide_eq_true (by kernel_rfl)) (by unfold Func.isWrapper; first | (rw [if_pos (by decide +kernel)]; kernel_rfl) | (rw [if_neg (by decide +kernel)]; exact ⟨rfl, rfl⟩))
    (fun os started H enc _ => lifted os started H enc)
theorem proved : Rows.FnExactTokenOkSaid :=
  over
#print axioms proved
end Go.Proofs.Ytnkahdidelhdaam.fnExactTokenOk
