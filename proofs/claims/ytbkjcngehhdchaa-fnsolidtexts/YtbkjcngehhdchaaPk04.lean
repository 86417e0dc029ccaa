/-
  Several texts of this seat as one: RngC, Held, RngN.
-/
import Derived.Test.YtbkjcngehhdchaaPk03
import Derived.BigRegion
import Derived.Below
import Derived.Test.YtbkjcngehhdchaaRows
import Derived.RangeFuncCalls
import Derived.OwnWalkIn
import Derived.OrdersIn
import Derived.OrdersHeld
import Derived.BigQuiet
import Derived.WalkKit
import Derived.Laws.Rows

/-!   The coder of ranges: the code's small functions. -/
namespace Go.Proofs.Ytbkjcngehhdchaa
open Go.RowKit
set_option linter.unusedVariables false
set_option linter.unusedSimpArgs false
set_option maxRecDepth 100000 in
set_option maxHeartbeats 1000000 in
theorem bound_any (g wd x p : Nat) (w : World) (hw : wd < 4294967296) (hx : x < 512) (hp : p ≤ 2047) (x0 : w.cell? ⟨g, 0, none⟩ = some (.int .i64 (wd : Int))) (x1 : w.cell? ⟨g, 1 + x, none⟩ = some (.int .i64 (p : Int))) :
    Calls Try.prog 97 #[.pointer (some ⟨g, 0, none⟩), .int .i64 (x : Int)] w fun e w' => e = .returned (.int .i64 ((wd / 2048 * p : Nat) : Int)) ∧ Below w.heap.size w w' := by
  obtain ⟨q, hq⟩ : ∃ q, q = wd / 2048 := ⟨_, rfl⟩
  obtain ⟨z, hz⟩ : ∃ z, z = 1 + x := ⟨_, rfl⟩
  have hd : Int.tdiv (wd : Int) 2048 = (q : Int) := by rw [Int.tdiv_eq_ediv_of_nonneg (by omega)]; omega
  have hq2 : q ≤ 2097151 := by omega
  have hm : q * p ≤ 2097151 * 2047 := Nat.mul_le_mul hq2 hp
  rw [← hq]
  obtain ⟨m, hme⟩ : ∃ m, m = q * p := ⟨_, rfl⟩
  have hmi : (q : Int) * (p : Int) = (m : Int) := by rw [hme]; simp
  rw [← hme]
  have hwq : IntKind.i64.wrap (q : Int) = (q : Int) := by rw [IntKind.wrap_i64]; omega
  have hwm : IntKind.i64.wrap ((q : Int) * (p : Int)) = (m : Int) := by rw [hmi, IntKind.wrap_i64]; omega
  have hxI : (x : Int) < 512 := by omega
  rw [← hz] at x1
  have hxz : 1 + x = z := hz.symm
  have hxz1 : x + 1 = z := by omega
  clear hq hme hz
  go_enter Try.func97, Try.ntmps97
  go_wp2_with fail
  go_region
  go_wp2_with fail
  go_ret
  exact ⟨rfl, ⟨rfl, rfl, rfl, Nat.le_refl _, fun _ _ => rfl⟩⟩
theorem movI_nat {p b : Nat} (h : 1 ≤ p ∧ p ≤ 2047) (hb : b = 0 ∨ b = 1) : movI (p : Int) (b : Int) = ((movP p b : Nat) : Int) := by
  unfold movP
  rcases hb with rfl | rfl
  · rw [if_pos rfl]
    show movI (p : Int) 0 = _
    rw [mov_zero (by omega) (by omega)]; omega
  · rw [if_neg (by decide)]
    show movI (p : Int) 1 = _
    rw [mov_one (by omega) (by omega)]; omega
end Go.Proofs.Ytbkjcngehhdchaa

/-!   A region that draws its order, within a round of a loop over an iterator: walked by hand as anywhere. -/
namespace Go.Proofs.Ytbkjcngehhdchaa
open Go.RowKit
set_option linter.unusedVariables false
theorem held_stepS {P : Program} {md : Region.Mode} {ops : Array Oper} {Q : Exit → Act → World → Prop} {S : World → Prop} {i : Nat} {o : Oper} {fuel : Nat} {listed : Array Bool} {a : Act} {w : World}
    (hr : Region.ready md ops listed = [i]) (hi : ops[i]? = some o) (hw : Region.wanted o (yielded ops a.tmps) = true)
    (h : Oper.wp P o a w (fun a' w' => S w' ∧ wpAnyH P md ops Q S fuel (listed.setIfInBounds i true) a' w') Q) : wpAnyH P md ops Q S (fuel + 1) listed a w :=
  wpAnyH_all hr (by simp) (fun j hj => by
    have e : j = i := by simpa using hj
    subst e
    unfold wpOp
    simp only [hi, hw, if_true]
    exact Or.inl h)
theorem held_two {P : Program} {md : Region.Mode} {ops : Array Oper} {Q : Exit → Act → World → Prop} {S : World → Prop} {i k : Nat} {o u : Oper} {fuel : Nat} {listed : Array Bool} {a : Act} {w : World}
    (hr : Region.ready md ops listed = [i, k]) (hi : ops[i]? = some o) (hk : ops[k]? = some u) (hw : Region.wanted o (yielded ops a.tmps) = true) (hv : Region.wanted u (yielded ops a.tmps) = true)
    (h1 : Oper.wp P o a w (fun a' w' => S w' ∧ wpAnyH P md ops Q S fuel (listed.setIfInBounds i true) a' w') Q)
    (h2 : Oper.wp P u a w (fun a' w' => S w' ∧ wpAnyH P md ops Q S fuel (listed.setIfInBounds k true) a' w') Q) : wpAnyH P md ops Q S (fuel + 1) listed a w :=
  wpAnyH_all hr (by simp) (fun j hj => by
    have e : j = i ∨ j = k := by simpa using hj
    rcases e with rfl | rfl
    · unfold wpOp
      simp only [hi, hw, if_true]
      exact Or.inl h1
    · unfold wpOp
      simp only [hk, hv, if_true]
      exact Or.inl h2)
theorem rows_round {l n : Nat} {P : Program} {row : String} {args : Array Value} {w : World} {R : Value → World → Prop} (h : Rows P row args w R) : RowsIn (Fence.wide.inRound l) n P row args w R := fun c cs _ => by
  obtain ⟨v, w', r, s⟩ := h c cs
  exact ⟨v, w', r, stepsIn_wide.2 s⟩
theorem upon_round {l n : Nat} {P : Program} {o : Oper} {a : Act} {K : Act → World → Prop} {Q : Exit → Act → World → Prop} {r : Result Next} (h : Oper.upon P o a K Q r) : Oper.uponIn (Fence.wide.inRound l) n P o a K Q r := by
  match r, h with
  | .ok (.value v) w', h => exact h
  | .ok .skip w', h => exact h
  | .ok (.defer d) w', h => exact h
  | .ok (.enter f args) w', h => exact ⟨fun c => (by cases c), CallsIn.inRound l (callsIn_wide.2 h)⟩
  | .ok (.row r args) w', h => exact ⟨fun c => (by cases c), rows_round h⟩
  | .halt (.panic v) w', h => exact h
theorem op_round {l n : Nat} {P : Program} {o : Oper} {a : Act} {w : World} {K : Act → World → Prop} {Q : Exit → Act → World → Prop} (hnd : ∀ c, o.op ≠ .defer c) (h : o.wp P a w K Q) : o.wpIn (Fence.wide.inRound l) n P a w K Q :=
  ⟨fun _ _ => trivial, by rw [Oper.semAt_plain _ _ _ hnd]; exact upon_round h⟩
theorem any_round {l n : Nat} {P : Program} {md : Region.Mode} {ops : Array Oper} {Q : Exit → Act → World → Prop} (hnd : ∀ (i : Nat) (o : Oper), ops[i]? = some o → ∀ c, o.op ≠ .defer c) (hlo : ¬ LetsOut Q) :
    ∀ (fuel : Nat) (listed : Array Bool) (a : Act) (w : World), wpAny P md ops Q fuel listed a w → wpAnyIn (Fence.wide.inRound l) n P md ops Q fuel listed a w
  | 0, _, _, _, h => h
  | fuel + 1, listed, a, w, h => ⟨h.1, fun i hi => by
    have h2 := h.2 i hi
    unfold wpOp at h2
    unfold wpOpIn
    cases ho : ops[i]? with
    | none => rw [ho] at h2; exact any_round hnd hlo fuel _ _ _ h2
    | some o =>
      rw [ho] at h2
      simp only [] at h2 ⊢
      split
      · rename_i hw
        rw [if_pos hw] at h2
        rcases h2 with h2 | h2
        · exact op_round (hnd i o ho) (Oper.wp_mono (fun a w q => any_round hnd hlo fuel _ a w q) h2)
        · exact absurd h2.2 hlo
      · rename_i hw
        rw [if_neg hw] at h2
        exact ⟨fun _ _ => trivial, any_round hnd hlo fuel _ _ _ h2⟩⟩
def plainOp (o : Oper) : Bool := match o.op with | .defer _ => false | _ => true
theorem plain_ops {ops : Array Oper} (h : ops.all plainOp = true) : ∀ (i : Nat) (o : Oper), ops[i]? = some o → ∀ c, o.op ≠ .defer c := fun i o ho c hc => by
  have h1 := Array.all_eq_true.1 h i (Array.getElem?_eq_some_iff.1 ho).1
  rw [(Array.getElem?_eq_some_iff.1 ho).2] at h1
  unfold plainOp at h1
  rw [hc] at h1
  cases h1
theorem region_round {l n id : Nat} {P : Program} {ops : Array Oper} {Q : Exit → Act → World → Prop} {S : World → Prop} {a : Act} {w : World} (hm : P.follows .mixedOrders = true) (hp : ops.all plainOp = true) (hlo : ¬ LetsOut Q)
    (h : wpAnyH P .any ops Q S ops.size (Array.replicate ops.size false) a { w with drawn := w.drawn + 1 }) : (Code.region id ops true).wpIn (Fence.wide.inRound l) n P Q a w :=
  wpIn_region_any hm (any_round (plain_ops hp) hlo _ _ _ _ (wpAny_of_held _ _ _ _ h))
end Go.Proofs.Ytbkjcngehhdchaa

/-!   The coder of ranges: what a choice makes of width and of its context's number. -/
namespace Go.Proofs.Ytbkjcngehhdchaa
open Go.RowKit
set_option linter.unusedVariables false
set_option linter.unusedSimpArgs false
/-- the coder's cells behind a choice -/
def narC (C : Array Value) (x wd' p' : Nat) : Array Value := (C.setIfInBounds 0 (.int .i64 (wd' : Int))).setIfInBounds (1 + x) (.int .i64 (p' : Int))
theorem grownBy_setC (w : World) (g t : Nat) (v : Value) : w.grownBy (w.setCell ⟨g, t, none⟩ v) (some g) :=
  ⟨rfl, rfl, rfl, by simp, fun k hk hne => heap_setCell_other _ _ _ _ (fun e => hne (by rw [e]))⟩
set_option maxRecDepth 100000 in
set_option maxHeartbeats 2000000 in
theorem narrow_zero (g wd x p bd : Nat) (C : Array Value) (T : TypeId) (w : World) (hx : x < 512) (hp : 1 ≤ p ∧ p ≤ 2047) (hrow : w.heap[g]? = some (.cells C T (0, 0)))
    (x0 : C[0]? = some (.int .i64 (wd : Int))) (x1 : C[1 + x]? = some (.int .i64 (p : Int))) :
    Calls Try.prog 99 #[.pointer (some ⟨g, 0, none⟩), .agg #[.int .i64 (x : Int), .int .i64 0], .int .i64 (bd : Int)] w fun e w' => (∃ v, e = .returned v) ∧ w'.heap[g]? = some (.cells (narC C x bd (movP p 0)) T (0, 0)) ∧ w.grownBy w' (some g) := by
  have HM : Hid (∀ w, Calls Try.prog 103 #[.int .i64 (p : Int), .int .i64 0] w fun e w' => e = .returned (.int .i64 ((movP p 0 : Nat) : Int)) ∧ w' = w) := fun w => by rw [← movI_nat hp (Or.inl rfl)]; exact moved_any _ _ w
  generalize movP p 0 = p' at HM ⊢
  have HGL : Hid (g < w.heap.size) := (Array.getElem?_eq_some_iff.1 hrow).1
  have HROW : Hid (w.heap[g]? = some (.cells C T (0, 0))) := hrow
  have HX1 : Hid (C[1 + x]? = some (.int .i64 (p : Int))) := x1
  have c0 : w.cell? ⟨g, 0, none⟩ = some (.int .i64 (wd : Int)) := (cell_of_row w g 0 _ _ _ hrow).trans x0
  have z0 := frozen_of_row w g 0 _ _ hrow
  have hgl := HGL.out
  have hgne : ¬ g = w.heap.size := by omega
  have hxI : (x : Int) < 512 := by omega
  clear hrow x0 x1
  go_enter Try.func99, Try.ntmps99
  go_wp2_with fail
  obtain ⟨S, hSS⟩ : ∃ S : World → Prop, S = fun w' => w'.cell? ⟨w.heap.size, 0, none⟩ = some (.int .i64 (x : Int)) ∧ w'.cell? ⟨w.heap.size, 1, none⟩ = some (.int .i64 0) := ⟨_, rfl⟩
  have HS : Hid (S = fun w' => w'.cell? ⟨w.heap.size, 0, none⟩ = some (.int .i64 (x : Int)) ∧ w'.cell? ⟨w.heap.size, 1, none⟩ = some (.int .i64 0)) := hSS
  obtain ⟨W2, hW2⟩ : ∃ W2, W2 = (w.setCell ⟨g, 0, none⟩ (.int .i64 (bd : Int))).alloc (.cells #[.int .i64 (x : Int), .int .i64 0] 108) := ⟨_, rfl⟩
  have hrow2 : W2.heap[g]? = some (.cells (C.setIfInBounds 0 (.int .i64 (bd : Int))) T (0, 0)) := by rw [hW2, Below.heap_alloc _ _ _ (by simpa using HGL.out)]; exact heap_setCell_same _ _ _ _ _ _ HROW.out
  have hbox2 : W2.heap[w.heap.size]? = some (.cells #[.int .i64 (x : Int), .int .i64 0] 108 (0, 0)) := by rw [hW2]; have h := heap_alloc_new (w.setCell ⟨g, 0, none⟩ (.int .i64 (bd : Int))) (.cells #[.int .i64 (x : Int), .int .i64 0] 108); simpa using h
  have hgr2 : w.grownBy W2 (some g) := by rw [hW2]; exact (grownBy_setC w g 0 _).trans (World.grownBy_alloc _ _ _)
  have hp2 : W2.cell? ⟨g, 1 + x, none⟩ = some (.int .i64 (p : Int)) := (cell_of_row W2 g (1 + x) _ _ _ hrow2).trans ((Array.getElem?_setIfInBounds_ne (by omega)).trans HX1.out)
  have hf2 := frozen_of_row W2 g (1 + x) _ _ hrow2
  have HW : Hid (W2.heap[g]? = some (.cells (C.setIfInBounds 0 (.int .i64 (bd : Int))) T (0, 0)) ∧ w.grownBy W2 (some g)) := ⟨hrow2, hgr2⟩
  have hSd : S W2.drew := by rw [hSS]; exact ⟨cell_of_row W2 _ 0 _ _ _ hbox2, cell_of_row W2 _ 1 _ _ _ hbox2⟩
  have HBX : Hid (W2.heap[w.heap.size]? = some (.cells #[.int .i64 (x : Int), .int .i64 0] 108 (0, 0))) := hbox2
  have HX0 : Hid (∀ w', S w' → w'.cell? ⟨w.heap.size, 0, none⟩ = some (.int .i64 (x : Int))) := fun w' h => by rw [hSS] at h; exact h.1
  have HX2 : Hid (∀ w', S w' → w'.cell? ⟨w.heap.size, 1, none⟩ = some (.int .i64 0)) := fun w' h => by rw [hSS] at h; exact h.2
  rw [← hW2]
  clear hSS hW2 hrow2 hbox2 hgr2 c0 z0
  obtain ⟨q, hq⟩ : ∃ q, q = 1 + x := ⟨_, rfl⟩
  have hxq : x + 1 = q := by omega
  have HQ : Hid (q = 1 + x) := hq
  have hxq2 : 1 + x = q := by omega
  rw [hxq2] at hp2 hf2
  clear hq
  refine wp_region_held (S := S) (by kernel_rfl) ?_
  change wpAnyH _ _ _ _ _ _ _ _ (World.drew _)
  refine wpAnyH_take (i := 0) (v := .pointer (some ⟨g, 0, none⟩)) rfl (by kernel_rfl) (by kernel_rfl) (by kernel_rfl) (fun _ _ _ h => h) (Or.inl ⟨by rfl, by intro w' hS'; go_simp <;> (first | omega | (rw [IntKind.wrap_i64]; omega) | (rw [IntKind.wrap_u64]; omega) | (rw [IntKind.wrap_u32]; omega) | (rw [Int.tmod_eq_emod_of_nonneg (by omega)]))⟩) hSd ?_
  (try simp only [List.getElem_toArray, List.getElem_cons_succ, List.getElem_cons_zero, Act.put, List.setIfInBounds_toArray, List.set_cons_zero, List.set_cons_succ])
  refine wpAnyH_take (i := 1) (v := .pointer (some ⟨w.heap.size, 0, none⟩)) rfl (by kernel_rfl) (by kernel_rfl) (by kernel_rfl) (fun _ _ _ h => h) (Or.inl ⟨by rfl, by intro w' hS'; go_simp <;> (first | omega | (rw [IntKind.wrap_i64]; omega) | (rw [IntKind.wrap_u64]; omega) | (rw [IntKind.wrap_u32]; omega) | (rw [Int.tmod_eq_emod_of_nonneg (by omega)]))⟩) hSd ?_
  (try simp only [List.getElem_toArray, List.getElem_cons_succ, List.getElem_cons_zero, Act.put, List.setIfInBounds_toArray, List.set_cons_zero, List.set_cons_succ])
  refine wpAnyH_take (i := 2) (v := .int .i64 (x : Int)) rfl (by kernel_rfl) (by kernel_rfl) (by kernel_rfl) (fun _ _ _ h => h) (Or.inl ⟨by rfl, by intro w' hS'; have hxx := HX0.out w' hS'; go_simp <;> (first | omega | (rw [IntKind.wrap_i64]; omega) | (rw [IntKind.wrap_u64]; omega) | (rw [IntKind.wrap_u32]; omega) | (rw [Int.tmod_eq_emod_of_nonneg (by omega)]))⟩) hSd ?_
  (try simp only [List.getElem_toArray, List.getElem_cons_succ, List.getElem_cons_zero, Act.put, List.setIfInBounds_toArray, List.set_cons_zero, List.set_cons_succ])
  refine wpAnyH_take (i := 3) (v := .pointer (some ⟨g, 0, none⟩)) rfl (by kernel_rfl) (by kernel_rfl) (by kernel_rfl) (fun _ _ _ h => h) (Or.inl ⟨by rfl, by intro w' hS'; go_simp <;> (first | omega | (rw [IntKind.wrap_i64]; omega) | (rw [IntKind.wrap_u64]; omega) | (rw [IntKind.wrap_u32]; omega) | (rw [Int.tmod_eq_emod_of_nonneg (by omega)]))⟩) hSd ?_
  (try simp only [List.getElem_toArray, List.getElem_cons_succ, List.getElem_cons_zero, Act.put, List.setIfInBounds_toArray, List.set_cons_zero, List.set_cons_succ])
  refine wpAnyH_take (i := 4) (v := .pointer (some ⟨w.heap.size, 0, none⟩)) rfl (by kernel_rfl) (by kernel_rfl) (by kernel_rfl) (fun _ _ _ h => h) (Or.inl ⟨by rfl, by intro w' hS'; go_simp <;> (first | omega | (rw [IntKind.wrap_i64]; omega) | (rw [IntKind.wrap_u64]; omega) | (rw [IntKind.wrap_u32]; omega) | (rw [Int.tmod_eq_emod_of_nonneg (by omega)]))⟩) hSd ?_
  (try simp only [List.getElem_toArray, List.getElem_cons_succ, List.getElem_cons_zero, Act.put, List.setIfInBounds_toArray, List.set_cons_zero, List.set_cons_succ])
  refine wpAnyH_take (i := 5) (v := .int .i64 (x : Int)) rfl (by kernel_rfl) (by kernel_rfl) (by kernel_rfl) (fun _ _ _ h => h) (Or.inl ⟨by rfl, by intro w' hS'; have hxx := HX0.out w' hS'; go_simp <;> (first | omega | (rw [IntKind.wrap_i64]; omega) | (rw [IntKind.wrap_u64]; omega) | (rw [IntKind.wrap_u32]; omega) | (rw [Int.tmod_eq_emod_of_nonneg (by omega)]))⟩) hSd ?_
  (try simp only [List.getElem_toArray, List.getElem_cons_succ, List.getElem_cons_zero, Act.put, List.setIfInBounds_toArray, List.set_cons_zero, List.set_cons_succ])
  refine wpAnyH_take (i := 6) (v := .pointer (some ⟨g, 0, none⟩)) rfl (by kernel_rfl) (by kernel_rfl) (by kernel_rfl) (fun _ _ _ h => h) (Or.inl ⟨by rfl, by intro w' hS'; go_simp <;> (first | omega | (rw [IntKind.wrap_i64]; omega) | (rw [IntKind.wrap_u64]; omega) | (rw [IntKind.wrap_u32]; omega) | (rw [Int.tmod_eq_emod_of_nonneg (by omega)]))⟩) hSd ?_
  (try simp only [List.getElem_toArray, List.getElem_cons_succ, List.getElem_cons_zero, Act.put, List.setIfInBounds_toArray, List.set_cons_zero, List.set_cons_succ])
  refine wpAnyH_take (i := 7) (v := .pointer (some ⟨g, 1, none⟩)) rfl (by kernel_rfl) (by kernel_rfl) (by kernel_rfl) (fun _ _ _ h => h) (Or.inl ⟨by rfl, by intro w' hS'; go_simp <;> (first | omega | (rw [IntKind.wrap_i64]; omega) | (rw [IntKind.wrap_u64]; omega) | (rw [IntKind.wrap_u32]; omega) | (rw [Int.tmod_eq_emod_of_nonneg (by omega)]))⟩) hSd ?_
  (try simp only [List.getElem_toArray, List.getElem_cons_succ, List.getElem_cons_zero, Act.put, List.setIfInBounds_toArray, List.set_cons_zero, List.set_cons_succ])
  refine wpAnyH_take (i := 8) (v := .pointer (some ⟨g, q, none⟩)) rfl (by kernel_rfl) (by kernel_rfl) (by kernel_rfl) (fun _ _ _ h => h) (Or.inl ⟨by rfl, by intro w' hS'; go_simp <;> (first | omega | (rw [IntKind.wrap_i64]; omega) | (rw [IntKind.wrap_u64]; omega) | (rw [IntKind.wrap_u32]; omega) | (rw [Int.tmod_eq_emod_of_nonneg (by omega)]))⟩) hSd ?_
  (try simp only [List.getElem_toArray, List.getElem_cons_succ, List.getElem_cons_zero, Act.put, List.setIfInBounds_toArray, List.set_cons_zero, List.set_cons_succ])
  refine wpAnyH_take (i := 10) (v := .pointer (some ⟨w.heap.size, 1, none⟩)) rfl (by kernel_rfl) (by kernel_rfl) (by kernel_rfl) (fun _ _ _ h => h) (Or.inl ⟨by rfl, by intro w' hS'; go_simp <;> (first | omega | (rw [IntKind.wrap_i64]; omega) | (rw [IntKind.wrap_u64]; omega) | (rw [IntKind.wrap_u32]; omega) | (rw [Int.tmod_eq_emod_of_nonneg (by omega)]))⟩) hSd ?_
  (try simp only [List.getElem_toArray, List.getElem_cons_succ, List.getElem_cons_zero, Act.put, List.setIfInBounds_toArray, List.set_cons_zero, List.set_cons_succ])
  refine wpAnyH_take (i := 11) (v := .int .i64 0) rfl (by kernel_rfl) (by kernel_rfl) (by kernel_rfl) (fun _ _ _ h => h) (Or.inl ⟨by rfl, by intro w' hS'; have hxx := HX2.out w' hS'; go_simp <;> (first | omega | (rw [IntKind.wrap_i64]; omega) | (rw [IntKind.wrap_u64]; omega) | (rw [IntKind.wrap_u32]; omega) | (rw [Int.tmod_eq_emod_of_nonneg (by omega)]))⟩) hSd ?_
  (try simp only [List.getElem_toArray, List.getElem_cons_succ, List.getElem_cons_zero, Act.put, List.setIfInBounds_toArray, List.set_cons_zero, List.set_cons_succ])
  refine wpAnyH_take (i := 13) (v := .pointer (some ⟨g, 0, none⟩)) rfl (by kernel_rfl) (by kernel_rfl) (by kernel_rfl) (fun _ _ _ h => h) (Or.inl ⟨by rfl, by intro w' hS'; go_simp <;> (first | omega | (rw [IntKind.wrap_i64]; omega) | (rw [IntKind.wrap_u64]; omega) | (rw [IntKind.wrap_u32]; omega) | (rw [Int.tmod_eq_emod_of_nonneg (by omega)]))⟩) hSd ?_
  (try simp only [List.getElem_toArray, List.getElem_cons_succ, List.getElem_cons_zero, Act.put, List.setIfInBounds_toArray, List.set_cons_zero, List.set_cons_succ])
  refine wpAnyH_take (i := 14) (v := .pointer (some ⟨g, 1, none⟩)) rfl (by kernel_rfl) (by kernel_rfl) (by kernel_rfl) (fun _ _ _ h => h) (Or.inl ⟨by rfl, by intro w' hS'; go_simp <;> (first | omega | (rw [IntKind.wrap_i64]; omega) | (rw [IntKind.wrap_u64]; omega) | (rw [IntKind.wrap_u32]; omega) | (rw [Int.tmod_eq_emod_of_nonneg (by omega)]))⟩) hSd ?_
  (try simp only [List.getElem_toArray, List.getElem_cons_succ, List.getElem_cons_zero, Act.put, List.setIfInBounds_toArray, List.set_cons_zero, List.set_cons_succ])
  refine held_stepS (i := 9) (by kernel_rfl) rfl (by rfl) ?_
  go_simp
  refine ⟨hSd, ?_⟩
  (try simp only [List.getElem_toArray, List.getElem_cons_succ, List.getElem_cons_zero, Act.put, List.setIfInBounds_toArray, List.set_cons_zero, List.set_cons_succ])
  refine held_stepS (i := 12) (by kernel_rfl) rfl (by rfl) ?_
  go_simp
  refine (HM.out _).mono ?_
  rintro e w3 ⟨rfl, hw3⟩
  subst w3
  refine ⟨hSd, ?_⟩
  (try simp only [List.getElem_toArray, List.getElem_cons_succ, List.getElem_cons_zero, Act.put, List.setIfInBounds_toArray, List.set_cons_zero, List.set_cons_succ])
  refine wpAnyH_take (i := 15) (v := .pointer (some ⟨g, q, none⟩)) rfl (by kernel_rfl) (by kernel_rfl) (by kernel_rfl) (fun _ _ _ h => h) (Or.inl ⟨by rfl, by intro w' hS'; go_simp <;> (first | omega | (rw [IntKind.wrap_i64]; omega) | (rw [IntKind.wrap_u64]; omega) | (rw [IntKind.wrap_u32]; omega) | (rw [Int.tmod_eq_emod_of_nonneg (by omega)]))⟩) hSd ?_
  (try simp only [List.getElem_toArray, List.getElem_cons_succ, List.getElem_cons_zero, Act.put, List.setIfInBounds_toArray, List.set_cons_zero, List.set_cons_succ])
  refine held_stepS (i := 16) (by kernel_rfl) rfl (by rfl) ?_
  go_simp
  refine ⟨by rw [HS.out]; exact ⟨cell_of_row _ _ 0 _ _ _ ((heap_setCell_other _ _ _ _ (by have := HGL.out; show w.heap.size ≠ g; omega)).trans HBX.out), cell_of_row _ _ 1 _ _ _ ((heap_setCell_other _ _ _ _ (by have := HGL.out; show w.heap.size ≠ g; omega)).trans HBX.out)⟩, ?_⟩
  (try simp only [List.getElem_toArray, List.getElem_cons_succ, List.getElem_cons_zero, Act.put, List.setIfInBounds_toArray, List.set_cons_zero, List.set_cons_succ])
  refine wpAnyH_done (by kernel_rfl) ?_ _
  go_wp2_with fail
  go_end0
  refine ⟨⟨_, rfl⟩, ?_, ?_⟩
  · unfold narC; rw [← HQ.out]; show (W2.setCell ⟨g, q, none⟩ _).heap[g]? = _; exact heap_setCell_same _ _ _ _ _ _ HW.out.1
  · exact (HW.out.2.trans (grownBy_setC W2 g q _)).trans ⟨rfl, rfl, rfl, Nat.le_refl _, fun _ _ _ => rfl⟩

set_option maxRecDepth 100000 in
set_option maxHeartbeats 2000000 in
theorem narrow_one (g wd x p bd : Nat) (C : Array Value) (T : TypeId) (w : World) (hw : wd < 4294967296) (hbd : bd ≤ wd) (hx : x < 512) (hp : 1 ≤ p ∧ p ≤ 2047) (hrow : w.heap[g]? = some (.cells C T (0, 0)))
    (x0 : C[0]? = some (.int .i64 (wd : Int))) (x1 : C[1 + x]? = some (.int .i64 (p : Int))) :
    Calls Try.prog 99 #[.pointer (some ⟨g, 0, none⟩), .agg #[.int .i64 (x : Int), .int .i64 1], .int .i64 (bd : Int)] w fun e w' => (∃ v, e = .returned v) ∧ w'.heap[g]? = some (.cells (narC C x (wd - bd) (movP p 1)) T (0, 0)) ∧ w.grownBy w' (some g) := by
  have HM : Hid (∀ w, Calls Try.prog 103 #[.int .i64 (p : Int), .int .i64 1] w fun e w' => e = .returned (.int .i64 ((movP p 1 : Nat) : Int)) ∧ w' = w) := fun w => by rw [← movI_nat hp (Or.inr rfl)]; exact moved_any _ _ w
  generalize movP p 1 = p' at HM ⊢
  obtain ⟨d, hd⟩ : ∃ d, d = wd - bd := ⟨_, rfl⟩
  have hdI : (wd : Int) - (bd : Int) = (d : Int) := by omega
  have hdw : IntKind.i64.wrap (d : Int) = (d : Int) := by rw [IntKind.wrap_i64]; omega
  rw [← hd]
  have HGL : Hid (g < w.heap.size) := (Array.getElem?_eq_some_iff.1 hrow).1
  have HROW : Hid (w.heap[g]? = some (.cells C T (0, 0))) := hrow
  have HX1 : Hid (C[1 + x]? = some (.int .i64 (p : Int))) := x1
  have c0 : w.cell? ⟨g, 0, none⟩ = some (.int .i64 (wd : Int)) := (cell_of_row w g 0 _ _ _ hrow).trans x0
  have z0 := frozen_of_row w g 0 _ _ hrow
  have hgl := HGL.out
  have hgne : ¬ g = w.heap.size := by omega
  have hxI : (x : Int) < 512 := by omega
  clear hrow x0 x1 hd
  go_enter Try.func99, Try.ntmps99
  go_wp2_with fail
  obtain ⟨S, hSS⟩ : ∃ S : World → Prop, S = fun w' => w'.cell? ⟨w.heap.size, 0, none⟩ = some (.int .i64 (x : Int)) ∧ w'.cell? ⟨w.heap.size, 1, none⟩ = some (.int .i64 1) := ⟨_, rfl⟩
  have HS : Hid (S = fun w' => w'.cell? ⟨w.heap.size, 0, none⟩ = some (.int .i64 (x : Int)) ∧ w'.cell? ⟨w.heap.size, 1, none⟩ = some (.int .i64 1)) := hSS
  obtain ⟨W2, hW2⟩ : ∃ W2, W2 = (w.setCell ⟨g, 0, none⟩ (.int .i64 (d : Int))).alloc (.cells #[.int .i64 (x : Int), .int .i64 1] 108) := ⟨_, rfl⟩
  have hrow2 : W2.heap[g]? = some (.cells (C.setIfInBounds 0 (.int .i64 (d : Int))) T (0, 0)) := by rw [hW2, Below.heap_alloc _ _ _ (by simpa using HGL.out)]; exact heap_setCell_same _ _ _ _ _ _ HROW.out
  have hbox2 : W2.heap[w.heap.size]? = some (.cells #[.int .i64 (x : Int), .int .i64 1] 108 (0, 0)) := by rw [hW2]; have h := heap_alloc_new (w.setCell ⟨g, 0, none⟩ (.int .i64 (d : Int))) (.cells #[.int .i64 (x : Int), .int .i64 1] 108); simpa using h
  have hgr2 : w.grownBy W2 (some g) := by rw [hW2]; exact (grownBy_setC w g 0 _).trans (World.grownBy_alloc _ _ _)
  have hp2 : W2.cell? ⟨g, 1 + x, none⟩ = some (.int .i64 (p : Int)) := (cell_of_row W2 g (1 + x) _ _ _ hrow2).trans ((Array.getElem?_setIfInBounds_ne (by omega)).trans HX1.out)
  have hf2 := frozen_of_row W2 g (1 + x) _ _ hrow2
  have HW : Hid (W2.heap[g]? = some (.cells (C.setIfInBounds 0 (.int .i64 (d : Int))) T (0, 0)) ∧ w.grownBy W2 (some g)) := ⟨hrow2, hgr2⟩
  have hSd : S W2.drew := by rw [hSS]; exact ⟨cell_of_row W2 _ 0 _ _ _ hbox2, cell_of_row W2 _ 1 _ _ _ hbox2⟩
  have HBX : Hid (W2.heap[w.heap.size]? = some (.cells #[.int .i64 (x : Int), .int .i64 1] 108 (0, 0))) := hbox2
  have HX0 : Hid (∀ w', S w' → w'.cell? ⟨w.heap.size, 0, none⟩ = some (.int .i64 (x : Int))) := fun w' h => by rw [hSS] at h; exact h.1
  have HX2 : Hid (∀ w', S w' → w'.cell? ⟨w.heap.size, 1, none⟩ = some (.int .i64 1)) := fun w' h => by rw [hSS] at h; exact h.2
  rw [← hW2]
  clear hSS hW2 hrow2 hbox2 hgr2 c0 z0
  obtain ⟨q, hq⟩ : ∃ q, q = 1 + x := ⟨_, rfl⟩
  have hxq : x + 1 = q := by omega
  have HQ : Hid (q = 1 + x) := hq
  have hxq2 : 1 + x = q := by omega
  rw [hxq2] at hp2 hf2
  clear hq
  refine wp_region_held (S := S) (by kernel_rfl) ?_
  change wpAnyH _ _ _ _ _ _ _ _ (World.drew _)
  refine wpAnyH_take (i := 0) (v := .pointer (some ⟨g, 0, none⟩)) rfl (by kernel_rfl) (by kernel_rfl) (by kernel_rfl) (fun _ _ _ h => h) (Or.inl ⟨by rfl, by intro w' hS'; go_simp <;> (first | omega | (rw [IntKind.wrap_i64]; omega) | (rw [IntKind.wrap_u64]; omega) | (rw [IntKind.wrap_u32]; omega) | (rw [Int.tmod_eq_emod_of_nonneg (by omega)]))⟩) hSd ?_
  (try simp only [List.getElem_toArray, List.getElem_cons_succ, List.getElem_cons_zero, Act.put, List.setIfInBounds_toArray, List.set_cons_zero, List.set_cons_succ])
  refine wpAnyH_take (i := 1) (v := .pointer (some ⟨w.heap.size, 0, none⟩)) rfl (by kernel_rfl) (by kernel_rfl) (by kernel_rfl) (fun _ _ _ h => h) (Or.inl ⟨by rfl, by intro w' hS'; go_simp <;> (first | omega | (rw [IntKind.wrap_i64]; omega) | (rw [IntKind.wrap_u64]; omega) | (rw [IntKind.wrap_u32]; omega) | (rw [Int.tmod_eq_emod_of_nonneg (by omega)]))⟩) hSd ?_
  (try simp only [List.getElem_toArray, List.getElem_cons_succ, List.getElem_cons_zero, Act.put, List.setIfInBounds_toArray, List.set_cons_zero, List.set_cons_succ])
  refine wpAnyH_take (i := 2) (v := .int .i64 (x : Int)) rfl (by kernel_rfl) (by kernel_rfl) (by kernel_rfl) (fun _ _ _ h => h) (Or.inl ⟨by rfl, by intro w' hS'; have hxx := HX0.out w' hS'; go_simp <;> (first | omega | (rw [IntKind.wrap_i64]; omega) | (rw [IntKind.wrap_u64]; omega) | (rw [IntKind.wrap_u32]; omega) | (rw [Int.tmod_eq_emod_of_nonneg (by omega)]))⟩) hSd ?_
  (try simp only [List.getElem_toArray, List.getElem_cons_succ, List.getElem_cons_zero, Act.put, List.setIfInBounds_toArray, List.set_cons_zero, List.set_cons_succ])
  refine wpAnyH_take (i := 3) (v := .pointer (some ⟨g, 0, none⟩)) rfl (by kernel_rfl) (by kernel_rfl) (by kernel_rfl) (fun _ _ _ h => h) (Or.inl ⟨by rfl, by intro w' hS'; go_simp <;> (first | omega | (rw [IntKind.wrap_i64]; omega) | (rw [IntKind.wrap_u64]; omega) | (rw [IntKind.wrap_u32]; omega) | (rw [Int.tmod_eq_emod_of_nonneg (by omega)]))⟩) hSd ?_
  (try simp only [List.getElem_toArray, List.getElem_cons_succ, List.getElem_cons_zero, Act.put, List.setIfInBounds_toArray, List.set_cons_zero, List.set_cons_succ])
  refine wpAnyH_take (i := 4) (v := .pointer (some ⟨w.heap.size, 0, none⟩)) rfl (by kernel_rfl) (by kernel_rfl) (by kernel_rfl) (fun _ _ _ h => h) (Or.inl ⟨by rfl, by intro w' hS'; go_simp <;> (first | omega | (rw [IntKind.wrap_i64]; omega) | (rw [IntKind.wrap_u64]; omega) | (rw [IntKind.wrap_u32]; omega) | (rw [Int.tmod_eq_emod_of_nonneg (by omega)]))⟩) hSd ?_
  (try simp only [List.getElem_toArray, List.getElem_cons_succ, List.getElem_cons_zero, Act.put, List.setIfInBounds_toArray, List.set_cons_zero, List.set_cons_succ])
  refine wpAnyH_take (i := 5) (v := .int .i64 (x : Int)) rfl (by kernel_rfl) (by kernel_rfl) (by kernel_rfl) (fun _ _ _ h => h) (Or.inl ⟨by rfl, by intro w' hS'; have hxx := HX0.out w' hS'; go_simp <;> (first | omega | (rw [IntKind.wrap_i64]; omega) | (rw [IntKind.wrap_u64]; omega) | (rw [IntKind.wrap_u32]; omega) | (rw [Int.tmod_eq_emod_of_nonneg (by omega)]))⟩) hSd ?_
  (try simp only [List.getElem_toArray, List.getElem_cons_succ, List.getElem_cons_zero, Act.put, List.setIfInBounds_toArray, List.set_cons_zero, List.set_cons_succ])
  refine wpAnyH_take (i := 6) (v := .pointer (some ⟨g, 0, none⟩)) rfl (by kernel_rfl) (by kernel_rfl) (by kernel_rfl) (fun _ _ _ h => h) (Or.inl ⟨by rfl, by intro w' hS'; go_simp <;> (first | omega | (rw [IntKind.wrap_i64]; omega) | (rw [IntKind.wrap_u64]; omega) | (rw [IntKind.wrap_u32]; omega) | (rw [Int.tmod_eq_emod_of_nonneg (by omega)]))⟩) hSd ?_
  (try simp only [List.getElem_toArray, List.getElem_cons_succ, List.getElem_cons_zero, Act.put, List.setIfInBounds_toArray, List.set_cons_zero, List.set_cons_succ])
  refine wpAnyH_take (i := 7) (v := .pointer (some ⟨g, 1, none⟩)) rfl (by kernel_rfl) (by kernel_rfl) (by kernel_rfl) (fun _ _ _ h => h) (Or.inl ⟨by rfl, by intro w' hS'; go_simp <;> (first | omega | (rw [IntKind.wrap_i64]; omega) | (rw [IntKind.wrap_u64]; omega) | (rw [IntKind.wrap_u32]; omega) | (rw [Int.tmod_eq_emod_of_nonneg (by omega)]))⟩) hSd ?_
  (try simp only [List.getElem_toArray, List.getElem_cons_succ, List.getElem_cons_zero, Act.put, List.setIfInBounds_toArray, List.set_cons_zero, List.set_cons_succ])
  refine wpAnyH_take (i := 8) (v := .pointer (some ⟨g, q, none⟩)) rfl (by kernel_rfl) (by kernel_rfl) (by kernel_rfl) (fun _ _ _ h => h) (Or.inl ⟨by rfl, by intro w' hS'; go_simp <;> (first | omega | (rw [IntKind.wrap_i64]; omega) | (rw [IntKind.wrap_u64]; omega) | (rw [IntKind.wrap_u32]; omega) | (rw [Int.tmod_eq_emod_of_nonneg (by omega)]))⟩) hSd ?_
  (try simp only [List.getElem_toArray, List.getElem_cons_succ, List.getElem_cons_zero, Act.put, List.setIfInBounds_toArray, List.set_cons_zero, List.set_cons_succ])
  refine wpAnyH_take (i := 10) (v := .pointer (some ⟨w.heap.size, 1, none⟩)) rfl (by kernel_rfl) (by kernel_rfl) (by kernel_rfl) (fun _ _ _ h => h) (Or.inl ⟨by rfl, by intro w' hS'; go_simp <;> (first | omega | (rw [IntKind.wrap_i64]; omega) | (rw [IntKind.wrap_u64]; omega) | (rw [IntKind.wrap_u32]; omega) | (rw [Int.tmod_eq_emod_of_nonneg (by omega)]))⟩) hSd ?_
  (try simp only [List.getElem_toArray, List.getElem_cons_succ, List.getElem_cons_zero, Act.put, List.setIfInBounds_toArray, List.set_cons_zero, List.set_cons_succ])
  refine wpAnyH_take (i := 11) (v := .int .i64 1) rfl (by kernel_rfl) (by kernel_rfl) (by kernel_rfl) (fun _ _ _ h => h) (Or.inl ⟨by rfl, by intro w' hS'; have hxx := HX2.out w' hS'; go_simp <;> (first | omega | (rw [IntKind.wrap_i64]; omega) | (rw [IntKind.wrap_u64]; omega) | (rw [IntKind.wrap_u32]; omega) | (rw [Int.tmod_eq_emod_of_nonneg (by omega)]))⟩) hSd ?_
  (try simp only [List.getElem_toArray, List.getElem_cons_succ, List.getElem_cons_zero, Act.put, List.setIfInBounds_toArray, List.set_cons_zero, List.set_cons_succ])
  refine wpAnyH_take (i := 13) (v := .pointer (some ⟨g, 0, none⟩)) rfl (by kernel_rfl) (by kernel_rfl) (by kernel_rfl) (fun _ _ _ h => h) (Or.inl ⟨by rfl, by intro w' hS'; go_simp <;> (first | omega | (rw [IntKind.wrap_i64]; omega) | (rw [IntKind.wrap_u64]; omega) | (rw [IntKind.wrap_u32]; omega) | (rw [Int.tmod_eq_emod_of_nonneg (by omega)]))⟩) hSd ?_
  (try simp only [List.getElem_toArray, List.getElem_cons_succ, List.getElem_cons_zero, Act.put, List.setIfInBounds_toArray, List.set_cons_zero, List.set_cons_succ])
  refine wpAnyH_take (i := 14) (v := .pointer (some ⟨g, 1, none⟩)) rfl (by kernel_rfl) (by kernel_rfl) (by kernel_rfl) (fun _ _ _ h => h) (Or.inl ⟨by rfl, by intro w' hS'; go_simp <;> (first | omega | (rw [IntKind.wrap_i64]; omega) | (rw [IntKind.wrap_u64]; omega) | (rw [IntKind.wrap_u32]; omega) | (rw [Int.tmod_eq_emod_of_nonneg (by omega)]))⟩) hSd ?_
  (try simp only [List.getElem_toArray, List.getElem_cons_succ, List.getElem_cons_zero, Act.put, List.setIfInBounds_toArray, List.set_cons_zero, List.set_cons_succ])
  refine held_stepS (i := 9) (by kernel_rfl) rfl (by rfl) ?_
  go_simp
  refine ⟨hSd, ?_⟩
  (try simp only [List.getElem_toArray, List.getElem_cons_succ, List.getElem_cons_zero, Act.put, List.setIfInBounds_toArray, List.set_cons_zero, List.set_cons_succ])
  refine held_stepS (i := 12) (by kernel_rfl) rfl (by rfl) ?_
  go_simp
  refine (HM.out _).mono ?_
  rintro e w3 ⟨rfl, hw3⟩
  subst w3
  refine ⟨hSd, ?_⟩
  (try simp only [List.getElem_toArray, List.getElem_cons_succ, List.getElem_cons_zero, Act.put, List.setIfInBounds_toArray, List.set_cons_zero, List.set_cons_succ])
  refine wpAnyH_take (i := 15) (v := .pointer (some ⟨g, q, none⟩)) rfl (by kernel_rfl) (by kernel_rfl) (by kernel_rfl) (fun _ _ _ h => h) (Or.inl ⟨by rfl, by intro w' hS'; go_simp <;> (first | omega | (rw [IntKind.wrap_i64]; omega) | (rw [IntKind.wrap_u64]; omega) | (rw [IntKind.wrap_u32]; omega) | (rw [Int.tmod_eq_emod_of_nonneg (by omega)]))⟩) hSd ?_
  (try simp only [List.getElem_toArray, List.getElem_cons_succ, List.getElem_cons_zero, Act.put, List.setIfInBounds_toArray, List.set_cons_zero, List.set_cons_succ])
  refine held_stepS (i := 16) (by kernel_rfl) rfl (by rfl) ?_
  go_simp
  refine ⟨by rw [HS.out]; exact ⟨cell_of_row _ _ 0 _ _ _ ((heap_setCell_other _ _ _ _ (by have := HGL.out; show w.heap.size ≠ g; omega)).trans HBX.out), cell_of_row _ _ 1 _ _ _ ((heap_setCell_other _ _ _ _ (by have := HGL.out; show w.heap.size ≠ g; omega)).trans HBX.out)⟩, ?_⟩
  (try simp only [List.getElem_toArray, List.getElem_cons_succ, List.getElem_cons_zero, Act.put, List.setIfInBounds_toArray, List.set_cons_zero, List.set_cons_succ])
  refine wpAnyH_done (by kernel_rfl) ?_ _
  go_wp2_with fail
  go_end0
  refine ⟨⟨_, rfl⟩, ?_, ?_⟩
  · unfold narC; rw [← HQ.out]; show (W2.setCell ⟨g, q, none⟩ _).heap[g]? = _; exact heap_setCell_same _ _ _ _ _ _ HW.out.1
  · exact (HW.out.2.trans (grownBy_setC W2 g q _)).trans ⟨rfl, rfl, rfl, Nat.le_refl _, fun _ _ _ => rfl⟩
end Go.Proofs.Ytbkjcngehhdchaa
