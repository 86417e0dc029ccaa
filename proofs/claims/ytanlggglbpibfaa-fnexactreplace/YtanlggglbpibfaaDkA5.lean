/-
  Several texts of this seat as one: RdF, Ins, RpI, RpS.
-/
import Derived.Test.YtanlggglbpibfaaFsL
import Derived.Test.YtanlggglbpibfaaSfG
import Derived.Test.YtanlggglbpibfaaHeld
import Derived.Lib.AppendZeros
import Derived.Lib.AppendZerosOnto
import Derived.Laws.CopyRow
import Derived.OwnWalk
import Derived.Test.YtanlggglbpibfaaDkA2

/-!   A file of a disk is read: the code's and the specification's. -/
namespace Go.Proofs.Ytanlggglbpibfaa
open Go.RowKit
set_option linter.unusedVariables false
set_option linter.unusedSimpArgs false
/-- what is read -/
noncomputable def rdE (L S : List FlI) (O : List DqI) (s : ByteArray) : ByteArray × Bool := open Classical in if diskP L S O then (match fdF L s with | some d => (d, true) | none => (⟨#[]⟩, false)) else (⟨#[]⟩, false)
theorem rdE_bad {L S : List FlI} {O : List DqI} (h : ¬ diskP L S O) (s : ByteArray) : rdE L S O s = (⟨#[]⟩, false) := by unfold rdE; rw [if_neg h]
theorem rdE_no {L S : List FlI} {O : List DqI} {s : ByteArray} (h : fdF L s = none) : rdE L S O s = (⟨#[]⟩, false) := by unfold rdE; rw [h]; split <;> rfl
theorem rdE_yes {L S : List FlI} {O : List DqI} {s d : ByteArray} (h : diskP L S O) (k : fdF L s = some d) : rdE L S O s = (d, true) := by unfold rdE; rw [if_pos h, k]
set_option maxRecDepth 100000 in
theorem read15_any (vL vS vO : Value) (L S : List FlI) (O : List DqI) (s : ByteArray) (w : World) (hs : s.size ≤ 1500000) (hL : FlLe L) (hS : FlLe S) (hO : DqLe O) (h1 : FlV w vL L) (h2 : FlV w vS S) (h3 : DqV w vO O) :
    Calls Try.prog 22 #[.agg #[vL, vS, vO], .string s] w fun e w' => e = .returned (.tuple #[.string (rdE L S O s).1, .bool (rdE L S O s).2]) ∧ Below w.heap.size w w' := by
  have HOP : Hid (∀ w', Below w.heap.size w w' → Calls Try.prog 41 #[.agg #[vL, vS, vO]] w' fun e w'' => OdAns w' vS L S O e w'' ∧ Below w'.heap.size w' w'') := fun w' hb => open15_any vL vS vO L S O w' hL hS hO (h1.below hb) (h2.below hb) (h3.below hb)
  have HS := hidF hs
  clear hL hS hO h1 h2 h3 hs
  go_enter Try.func22, Try.ntmps22
  go_wp2_with fail
  refine (HOP.out _ ((Below.refl _ _).alloc (Nat.le_refl _) _)).mono ?_
  rintro e w2 ⟨⟨hy, lo, wd, p, mb, v, rfl, _, _, hw⟩ | ⟨hn, x, rfl⟩, hb⟩
  · have hb := hidF (blFl ((Below.refl _ _).alloc (Nat.le_refl _) _) hb (by simp))
    obtain ⟨V, hF⟩ := hw.set
    have c0 := cell_of_row _ _ 0 _ _ _ hw.box
    have b0 := cell_of_row _ _ 0 _ _ _ hF.box
    have HH : Hid (Calls Try.prog 60 #[.pointer (some ⟨p, 0, none⟩), .string s] w2 fun e w' => e = .returned (.bool (fdF L s).isSome) ∧ w' = w2) := has15_any s w2 hF HS.out
    cases hf : fdF L s with
    | none =>
      rw [hf] at HH
      have HE := hidF (rdE_no (S := S) (O := O) hf)
      clear hw hF hf hy b0
      go_wp2_with fail
      refine HH.out.mono ?_
      rintro e w3 ⟨rfl, rfl⟩
      go_wp2_with fail
      go_ret2
      exact ⟨by rw [HE.out]; rfl, hb.out⟩
    | some d =>
      rw [hf] at HH
      have HE := hidF (rdE_yes hy hf)
      obtain ⟨⟨_, hl⟩, hrow⟩ := hF.look_yes HS.out hf
      have hst := hrow.str
      clear hw hF hf hy hrow
      generalize V s = vs at hl hst
      go_wp2_with fail
      refine HH.out.mono ?_
      rintro e w3 ⟨rfl, rfl⟩
      go_wp2_with fail
      go_ret2
      exact ⟨by rw [HE.out]; rfl, hb.out⟩
  · have HE := hidF (rdE_bad hn s)
    have hb := hidF (blFl ((Below.refl _ _).alloc (Nat.le_refl _) _) hb (by simp))
    clear hn
    go_wp2_with fail
    go_ret2
    exact ⟨by rw [HE.out]; rfl, hb.out⟩
set_option maxRecDepth 100000 in
theorem sread15_any (vL vS vO : Value) (L S : List FlI) (O : List DqI) (s : ByteArray) (w : World) (hs : s.size ≤ 1500000) (hL : FlLe L) (hS : FlLe S) (hO : DqLe O) (h1 : FlV w vL L) (h2 : FlV w vS S) (h3 : DqV w vO O) :
    Calls Try.prog 38 #[.agg #[vL, vS, vO], .string s] w fun e w' => e = .returned (.tuple #[.string (rdE L S O s).1, .bool (rdE L S O s).2]) ∧ Below w.heap.size w w' := by
  have HDK : Hid (∀ w', Below w.heap.size w w' → Calls Try.prog 15 #[.agg #[vL, vS, vO]] w' fun e w'' => e = .returned (.bool (dkB L S O)) ∧ Below w'.heap.size w' w'') := fun w' hb => sdisk_any vL vS vO L S O w' hL hS hO (h1.below hb) (h2.below hb) (h3.below hb)
  have HAT : Hid (∀ w', Below w.heap.size w w' → Calls Try.prog 64 #[vL, .string s] w' fun e w'' => atP L s e ∧ w'' = w') := fun w' hb => sat15_any vL L s w' hL (h1.below hb).arg
  have HV : Hid (∀ i w', i < L.length → Below w.heap.size w w' → ∃ g c, vL = .slice (some ⟨g, 0, none⟩) L.length c ∧ FlRow w' g L.length (flF L)) := fun i w' hi hb => by
    rcases h1 with ⟨_, rfl⟩ | ⟨g, c, e, hr⟩
    · simp at hi
    · exact ⟨g, c, e, hr.below hb hr.lt⟩
  obtain ⟨al, cl, rfl⟩ := h1.slice
  have HB1 : Hid (Below w.heap.size w (w.alloc (.cells #[.slice al L.length cl, vS, vO] 27))) := (Below.refl _ _).alloc (Nat.le_refl _) _
  have HX1 : Hid ((w.alloc (.cells #[.slice al L.length cl, vS, vO] 27)).heap[w.heap.size]? = some (.cells #[.slice al L.length cl, vS, vO] 27 (0, 0))) := heap_alloc_new w _
  have hi : Option.map (·.size) (Try.prog.info? 27) = some 3 := by kernel_rfl
  clear hL hS hO h1 h2 h3 hs
  go_enter Try.func38, Try.ntmps38
  go_wp2_with fail
  refine (HDK.out _ HB1.out).mono ?_
  rintro e w2 ⟨rfl, hb2⟩
  have HX2 : Hid (w2.heap[w.heap.size]? = some (.cells #[.slice al L.length cl, vS, vO] 27 (0, 0))) := (hb2.block _ (Array.getElem?_eq_some_iff.1 HX1.out).1).trans HX1.out
  have HB2 := hidF (blFl HB1.out hb2 HB1.out.size)
  clear hb2 HB1 HX1
  have c0 := cell_of_row _ _ 0 _ _ _ HX2.out
  by_cases hd : diskP L S O
  rotate_left
  · have HE := hidF (rdE_bad hd s)
    rw [dkB_no hd]
    clear hd
    go_wp2_with fail
    go_ret2
    exact ⟨by rw [HE.out]; rfl, HB2.out⟩
  rw [dkB_yes hd]
  go_wp2_with fail
  refine (HAT.out _ HB2.out).mono ?_
  rintro e w3 ⟨hat, rfl⟩
  rcases hat with ⟨hf, rfl⟩ | ⟨i, hi, _, hf, rfl⟩
  · have HE := hidF (rdE_no (S := S) (O := O) hf)
    clear hd hf
    go_wp2_with fail
    go_ret2
    exact ⟨by rw [HE.out]; rfl, HB2.out⟩
  · have HE := hidF (rdE_yes hd hf)
    obtain ⟨g, c, hv, hrow⟩ := HV.out i _ hi HB2.out
    injection hv with e1 e2 e3
    subst e1 e3
    clear e2
    obtain ⟨q, hq⟩ : ∃ q, q = 2 * i := ⟨_, rfl⟩
    have x1 := hrow.c1 i hi
    rw [← hq] at x1
    have hiq : i * 2 = q := by omega
    have hltI : (i : Int) < (L.length : Int) := by omega
    have hneg : ¬ (i : Int) < 0 := by omega
    clear hrow hd hf hq
    go_wp2_with fail
    go_ret2
    exact ⟨by rw [HE.out]; rfl, HB2.out⟩
end Go.Proofs.Ytanlggglbpibfaa

/-!   One op set ahead of two: slices.Insert at a list of ops. -/
namespace Go.Proofs.Ytanlggglbpibfaa
open Go.RowKit
set_option linter.unusedVariables false
set_option linter.unusedSimpArgs false
/-- copy of rows of four cells -/
theorem run_copy4 {P : Program} (w : World) (dT sT ty elem : TypeId) (g o dLen dCap : Nat) (a : Addr) (sLen sCap n : Nat) (cur : Array Value) (t : TypeId) (cs : List Value)
    (hu : P.underlying dT = some (.slice elem)) (hs : (P.info? elem).map (·.size) = some 4)
    (hg : w.heap[g]? = some (.cells cur t (0, 0))) (hn : Nat.min sLen dLen = n) (hcl : cs.length = n * 4)
    (hsrc : ∀ j v, cs[j]? = some v → w.cell? (a.add j) = some v) (hfit : o + cs.length ≤ cur.size) (h1 : ∀ v ∈ cs, v.oneCell' = true) :
    (Builtin.copy_ #[dT, sT] ty #[.slice (some ⟨g, o, none⟩) dLen dCap, .slice (some a) sLen sCap]).run P w =
      .ok (goInt n) (w.setRow g (cur.toList.take o ++ cs ++ cur.toList.drop (o + cs.length)).toArray) := by
  have hl := run_loadCells_list (P := P) w a cs hsrc
  have hst := run_storeCells_at P g o t cs 0 cur w hg (by simpa using hfit) h1
  rw [hcl] at hl
  cases hq : P.info? elem with
  | none => simp [hq] at hs
  | some i =>
    have hi : i.size = 4 := by simpa [hq] using hs
    simp [Builtin.copy_, run_underlying hu, Builtin.lenOf, Builtin.firstCells, sizeOf, typeInfo, hq, hi, hn, hl, hst]
theorem wp_copy4 {P : Program} (w : World) {o : Oper} {a : Act} {K : Act → World → Prop} {Q : Exit → Act → World → Prop} (d s : Operand) (t t' : TypeId)
    (ho : o.op = .call { callee := .builtin .copy, args := #[d, s], argTypes := #[t, t'] }) (v u : Value) (hd : a.eval d = v) (hs : a.eval s = u) {v' : Value} {w' : World}
    (hr : (Builtin.copy_ #[t, t'] o.type #[v, u]).run P w = .ok v' w') (h : K (a.put o.dst v') w') : o.wp P a w K Q := by
  unfold Oper.wp execOp
  simp only [ho, resolve, invoke, builtin, Sem.run_bind, Sem.run_pure, Result.andThen_ok, List.map_toArray, List.map_cons, List.map_nil, hd, hs, hr]
  exact h
theorem wpList_copy4 {P : Program} (w : World) {ops : Array Oper} {rest : List Oper} {o : Oper} {a : Act} {Q : Exit → Act → World → Prop} (hgd : o.guard = none) (d s : Operand) (t t' : TypeId)
    (ho : o.op = .call { callee := .builtin .copy, args := #[d, s], argTypes := #[t, t'] }) (v u : Value) (hd : a.eval d = v) (hs : a.eval s = u) {v' : Value} {w' : World}
    (hr : (Builtin.copy_ #[t, t'] o.type #[v, u]).run P w = .ok v' w') (h : wpList P ops Q rest (a.put o.dst v') w') : wpList P ops Q (o :: rest) a w :=
  wpList_plain hgd fun _ hK => wp_copy4 w d s t t' ho v u hd hs hr (hK _ _ h)
def dq4 (o : DqI) : List Value := [.int .i64 o.m, .string o.a, .string o.p, .string o.d]
theorem dq4_one (o : DqI) : ∀ v ∈ dq4 o, v.oneCell' = true := by
  intro v hv
  unfold dq4 at hv
  simp only [List.mem_cons, List.not_mem_nil, or_false] at hv
  rcases hv with rfl | rfl | rfl | rfl <;> rfl
set_option maxRecDepth 100000 in
set_option maxHeartbeats 1000000 in
theorem ins_any (g h : Nat) (x y z : DqI) (w : World) (hg : ∀ j v, (dq4 x ++ dq4 y)[j]? = some v → w.cell? ⟨g, j, none⟩ = some v) (hh : ∀ j v, (dq4 z)[j]? = some v → w.cell? ⟨h, j, none⟩ = some v) (hgl : g < w.heap.size) (hhl : h < w.heap.size) :
    Calls Try.prog 63 #[.slice (some ⟨g, 0, none⟩) 2 2, .int .i64 0, .slice (some ⟨h, 0, none⟩) 1 1] w fun e w' => (∃ v, e = .returned v ∧ DqV w' v [z, x, y]) ∧ Below w.heap.size w w' := by
  obtain ⟨i0, hi0, hz0, hz1, hz2⟩ := info_parts Try.infDq
  have hsz : (Try.prog.info? 36).map (·.size) = some 4 := by rw [hi0]; simp [hz1]
  have hi64 : Try.prog.underlying 3 = some (.int .i64) := Try.underlying3
  have hrz : ∀ ty, (Builtin.append_ #[25, 3] ty #[.slice (some ⟨g, 0, none⟩) 0 2, .int .i64 3]).run Try.prog w =
      .ok (.slice (some ⟨w.heap.size, 0, none⟩) 3 (grownCap w 3 2 36)) (w.drew.alloc (.cells ((#[] : Array Value) ++ Builtin.zeroCells (Value.agg #[.int .i64 0, .string ⟨#[]⟩, .string ⟨#[]⟩, .string ⟨#[]⟩]).cells 3 ++ Builtin.zeroCells (Value.agg #[.int .i64 0, .string ⟨#[]⟩, .string ⟨#[]⟩, .string ⟨#[]⟩]).cells (grownCap w 3 2 36 - 3)) 36)) := fun ty =>
    Lib.run_append_grow_zeros w 25 3 ty 36 i0 _ .i64 .i64 Try.underlying25 hi64 hi0 hz0 (some ⟨g, 0, none⟩) 0 2 [] (by rw [hz1]; exact run_firstCells_some w.drew 4 0 ⟨g, 0, none⟩ 0 2 [] rfl (fun j v hj => by simp at hj)) 3 (by omega) (by omega) (by omega) (by omega) (by rw [hz2]; omega) (by rw [hz2]; exact growslice_fits (by omega) (by omega))
  have hGn : 3 ≤ grownCap w 3 2 36 := grownCap_ge w _ _ _
  have hG63 : grownCap w 3 2 36 ≤ 9223372036854775807 := by
    have := grownCap_le_maxLen w 3 2 36 (by unfold maxLen; omega)
    unfold maxLen at this
    omega
  generalize grownCap w 3 2 36 = G at hrz hGn hG63
  obtain ⟨ROW, hROW⟩ : ∃ ROW : Array Value, ROW = (#[] : Array Value) ++ Builtin.zeroCells (Value.agg #[.int .i64 0, .string ⟨#[]⟩, .string ⟨#[]⟩, .string ⟨#[]⟩]).cells 3 ++ Builtin.zeroCells (Value.agg #[.int .i64 0, .string ⟨#[]⟩, .string ⟨#[]⟩, .string ⟨#[]⟩]).cells (G - 3) := ⟨_, rfl⟩
  have hRl : 12 ≤ ROW.size := by
    rw [hROW]
    simp [Builtin.zeroCells, Value.cells] <;> omega
  rw [← hROW] at hrz
  clear hROW
  have hw1 : w.drew.heap.size = w.heap.size := rfl
  obtain ⟨W1, hW1⟩ : ∃ W1, W1 = w.drew.alloc (.cells ROW 36) := ⟨_, rfl⟩
  have hR1 : W1.heap[w.heap.size]? = some (.cells ROW 36 (0, 0)) := by rw [hW1]; exact heap_alloc_new w.drew _
  have hB1 : Below w.heap.size w W1 := by rw [hW1]; exact ((Below.refl _ _).drew).alloc (Nat.le_refl _) _
  rw [← hW1] at hrz
  clear hW1
  have ea : ∀ (b j : Nat), (⟨b, 0, none⟩ : Addr).add j = ⟨b, j, none⟩ := fun b j => by
    unfold Addr.add
    by_cases h0 : j = 0
    · subst h0; simp
    · simp [h0]
  have hcA : ∀ ty, (Builtin.copy_ #[25, 25] ty #[.slice (some ⟨w.heap.size, 0, none⟩) 3 G, .slice (some ⟨h, 0, none⟩) 1 1]).run Try.prog W1 = .ok (goInt 1) (W1.setRow w.heap.size (ROW.toList.take 0 ++ dq4 z ++ ROW.toList.drop (0 + (dq4 z).length)).toArray) := fun ty =>
    run_copy4 W1 _ _ ty 36 w.heap.size 0 3 G ⟨h, 0, none⟩ 1 1 1 ROW _ (dq4 z) Try.underlying25 hsz hR1 rfl rfl (fun j v hj => (congrArg W1.cell? (ea h j)).trans <| (hB1.cell (p := ⟨h, j, none⟩) hhl).trans (hh j v hj)) (by show 0 + 4 ≤ _; omega) (dq4_one z)
  obtain ⟨R2, hR2⟩ : ∃ R2 : Array Value, R2 = (ROW.toList.take 0 ++ dq4 z ++ ROW.toList.drop (0 + (dq4 z).length)).toArray := ⟨_, rfl⟩
  have hl2 : (dq4 z).length = 4 := rfl
  have h2l : 12 ≤ R2.size := by
    rw [hR2]
    simp [hl2] <;> omega
  have h2a : R2.toList.take 4 = dq4 z := by
    rw [hR2]
    simp [hl2]
  rw [← hR2] at hcA
  clear hR2
  obtain ⟨W2, hW2⟩ : ∃ W2, W2 = W1.setRow w.heap.size R2 := ⟨_, rfl⟩
  have hR2h : W2.heap[w.heap.size]? = some (.cells R2 36 (0, 0)) := by rw [hW2]; exact setRow_heap W1 _ _ _ _ _ hR1
  have hB2 : Below w.heap.size w W2 := by rw [hW2]; exact ⟨hB1.os, hB1.tape, hB1.output, by simpa using hB1.size, fun i hi => (setRow_other W1 _ i _ (by omega)).trans (hB1.block i hi)⟩
  rw [← hW2] at hcA
  clear hW2
  have hcB : ∀ W : World, W.heap = W2.heap → ∀ ty, (Builtin.copy_ #[25, 25] ty #[.slice (some ⟨w.heap.size, 4, none⟩) 2 (G - 1), .slice (some ⟨g, 0, none⟩) 2 2]).run Try.prog W = .ok (goInt 2) (W.setRow w.heap.size (R2.toList.take 4 ++ (dq4 x ++ dq4 y) ++ R2.toList.drop (4 + (dq4 x ++ dq4 y).length)).toArray) := fun W hW ty =>
    run_copy4 W _ _ ty 36 w.heap.size 4 2 (G - 1) ⟨g, 0, none⟩ 2 2 2 R2 _ (dq4 x ++ dq4 y) Try.underlying25 hsz (by rw [hW]; exact hR2h) rfl rfl (fun j v hj => by
      have e : W.cell? ⟨g, j, none⟩ = W2.cell? ⟨g, j, none⟩ := by simp [World.cell?, hW]
      exact (congrArg W.cell? (ea g j)).trans (e.trans ((hB2.cell (p := ⟨g, j, none⟩) hgl).trans (hg j v hj)))) (by show 4 + 8 ≤ _; omega) (fun v hv => (List.mem_append.1 hv).elim (dq4_one x v) (dq4_one y v))
  have hfin : ∀ W : World, W.heap = W2.heap → DqV (W.setRow w.heap.size (R2.toList.take 4 ++ (dq4 x ++ dq4 y) ++ R2.toList.drop (4 + (dq4 x ++ dq4 y).length)).toArray) (.slice (some ⟨w.heap.size, 0, none⟩) 3 G) [z, x, y] := fun W hW => by
    have hr : (W.setRow w.heap.size (R2.toList.take 4 ++ (dq4 x ++ dq4 y) ++ R2.toList.drop (4 + (dq4 x ++ dq4 y).length)).toArray).heap[w.heap.size]? = some (.cells (R2.toList.take 4 ++ (dq4 x ++ dq4 y) ++ R2.toList.drop (4 + (dq4 x ++ dq4 y).length)).toArray 36 (0, 0)) := setRow_heap W _ _ _ _ _ (by rw [hW]; exact hR2h)
    rw [h2a] at hr ⊢
    refine Or.inr ⟨w.heap.size, G, rfl, ⟨(Array.getElem?_eq_some_iff.1 hr).1, fun i hi => ?_, fun i hi => ?_, fun i hi => ?_, fun i hi => ?_⟩⟩ <;>
    · have hi : i < 3 := hi
      refine (cell_of_row _ _ _ _ _ _ hr).trans ?_
      obtain rfl | rfl | rfl : i = 0 ∨ i = 1 ∨ i = 2 := by omega
      all_goals simp [dq4, dqF]
  have hbf : ∀ W : World, Below w.heap.size w W → W.heap = W2.heap → Below w.heap.size w (W.setRow w.heap.size (R2.toList.take 4 ++ (dq4 x ++ dq4 y) ++ R2.toList.drop (4 + (dq4 x ++ dq4 y).length)).toArray) := fun W hb _ => ⟨hb.os, hb.tape, hb.output, by simpa using hb.size, fun i hi => (setRow_other W _ i _ (by omega)).trans (hb.block i hi)⟩
  generalize (R2.toList.take 4 ++ (dq4 x ++ dq4 y) ++ R2.toList.drop (4 + (dq4 x ++ dq4 y).length)).toArray = R3 at hcB hfin hbf
  have HG : Hid (3 ≤ G ∧ G ≤ 9223372036854775807) := ⟨hGn, hG63⟩
  have hGi : ¬ (G = 0) := by omega
  have hGo : ¬ (G = 1) := by omega
  have HFI := hidF hfin
  have HBF := hidF hbf
  have HB2 := hidF hB2
  have HCB := hidF hcB
  clear hfin hbf hB1 hB2 hR1 hR2h hRl h2l h2a hl2 hg hh hgl hhl hcB hw1
  obtain ⟨k, hk⟩ : ∃ k, k = w.heap.size := ⟨_, rfl⟩
  rw [← hk] at hrz hcA HFI HCB
  have HKW := hidF hk
  clear hk
  go_enter Try.func63, Try.ntmps63
  go_wp2_with (first
    | (at_builtin; refine Lib.wpList_append_run _ rfl _ _ _ _ rfl _ _ rfl rfl _ _ (hrz _) ?_)
    | (at_builtin; refine wpList_copy4 _ rfl _ _ 25 25 rfl _ _ rfl rfl (hcA _) ?_))
  refine wp_region_held (S := fun _ => True) (by kernel_rfl) ?_
  change wpAnyH _ _ _ _ _ _ _ _ (World.drew _)
  have hS : (fun _ : World => True) W2.drew := trivial
  refine wpAnyH_take (i := 0) (v := .slice (some ⟨k, 0, none⟩) 3 G) rfl (by kernel_rfl) (by kernel_rfl) (by kernel_rfl) (fun _ _ _ h => h) (Or.inl ⟨by rfl, by intro w' hS'; go_simp <;> (first | omega | rfl | (rw [IntKind.wrap_i64]; omega))⟩) hS ?_
  (try simp only [List.getElem_toArray, List.getElem_cons_succ, List.getElem_cons_zero, Act.put, List.setIfInBounds_toArray, List.set_cons_zero, List.set_cons_succ])
  refine wpAnyH_take (i := 1) (v := .int .i64 0) rfl (by kernel_rfl) (by kernel_rfl) (by kernel_rfl) (fun _ _ _ h => h) (Or.inl ⟨by rfl, by intro w' hS'; go_simp <;> (first | omega | rfl | (rw [IntKind.wrap_i64]; omega))⟩) hS ?_
  (try simp only [List.getElem_toArray, List.getElem_cons_succ, List.getElem_cons_zero, Act.put, List.setIfInBounds_toArray, List.set_cons_zero, List.set_cons_succ])
  refine wpAnyH_take (i := 2) (v := .int .i64 1) rfl (by kernel_rfl) (by kernel_rfl) (by kernel_rfl) (fun _ _ _ h => h) (Or.inl ⟨by rfl, by intro w' hS'; go_simp <;> (first | omega | rfl | (rw [IntKind.wrap_i64]; omega))⟩) hS ?_
  (try simp only [List.getElem_toArray, List.getElem_cons_succ, List.getElem_cons_zero, Act.put, List.setIfInBounds_toArray, List.set_cons_zero, List.set_cons_succ])
  refine wpAnyH_take (i := 3) (v := .int .i64 1) rfl (by kernel_rfl) (by kernel_rfl) (by kernel_rfl) (fun _ _ _ h => h) (Or.inl ⟨by rfl, by intro w' hS'; go_simp <;> (first | omega | rfl | (rw [IntKind.wrap_i64]; omega))⟩) hS ?_
  (try simp only [List.getElem_toArray, List.getElem_cons_succ, List.getElem_cons_zero, Act.put, List.setIfInBounds_toArray, List.set_cons_zero, List.set_cons_succ])
  refine wpAnyH_take (i := 4) (v := .slice (some ⟨k, 4, none⟩) 2 (G - 1)) rfl (by kernel_rfl) (by kernel_rfl) (by kernel_rfl) (fun _ _ _ h => h) (Or.inl ⟨by rfl, by intro w' hS'; go_simp <;> (first | omega | rfl | (rw [IntKind.wrap_i64]; omega))⟩) hS ?_
  (try simp only [List.getElem_toArray, List.getElem_cons_succ, List.getElem_cons_zero, Act.put, List.setIfInBounds_toArray, List.set_cons_zero, List.set_cons_succ])
  refine wpAnyH_take (i := 5) (v := .slice (some ⟨g, 0, none⟩) 2 2) rfl (by kernel_rfl) (by kernel_rfl) (by kernel_rfl) (fun _ _ _ h => h) (Or.inl ⟨by rfl, by intro w' hS'; go_simp <;> (first | omega | rfl | (rw [IntKind.wrap_i64]; omega))⟩) hS ?_
  (try simp only [List.getElem_toArray, List.getElem_cons_succ, List.getElem_cons_zero, Act.put, List.setIfInBounds_toArray, List.set_cons_zero, List.set_cons_succ])
  refine wpAnyH_take (i := 6) (v := .int .i64 0) rfl (by kernel_rfl) (by kernel_rfl) (by kernel_rfl) (fun _ _ _ h => h) (Or.inl ⟨by rfl, by intro w' hS'; go_simp <;> (first | omega | rfl | (rw [IntKind.wrap_i64]; omega))⟩) hS ?_
  (try simp only [List.getElem_toArray, List.getElem_cons_succ, List.getElem_cons_zero, Act.put, List.setIfInBounds_toArray, List.set_cons_zero, List.set_cons_succ])
  refine wpAnyH_take (i := 7) (v := .slice (some ⟨g, 0, none⟩) 2 2) rfl (by kernel_rfl) (by kernel_rfl) (by kernel_rfl) (fun _ _ _ h => h) (Or.inl ⟨by rfl, by intro w' hS'; go_simp <;> (first | omega | rfl | (rw [IntKind.wrap_i64]; omega))⟩) hS ?_
  (try simp only [List.getElem_toArray, List.getElem_cons_succ, List.getElem_cons_zero, Act.put, List.setIfInBounds_toArray, List.set_cons_zero, List.set_cons_succ])
  refine held_stepS (i := 8) (by kernel_rfl) rfl (by rfl) ?_
  refine wp_copy4 _ _ _ 25 25 rfl _ _ rfl rfl (HCB.out W2.drew rfl _) ?_
  refine ⟨trivial, ?_⟩
  (try simp only [List.getElem_toArray, List.getElem_cons_succ, List.getElem_cons_zero, Act.put, List.setIfInBounds_toArray, List.set_cons_zero, List.set_cons_succ])
  have HV := hidF (HFI.out W2.drew rfl)
  have HBE : Hid (Below w.heap.size w (W2.drew.setRow k R3)) := by rw [HKW.out]; exact HBF.out W2.drew HB2.out.drew rfl
  generalize W2.drew.setRow k R3 = W9 at HV HBE ⊢
  refine wpAnyH_done (by kernel_rfl) ?_ _
  go_wp2_with fail
  go_ret
  exact ⟨⟨_, rfl, HV.out⟩, HBE.out⟩
end Go.Proofs.Ytanlggglbpibfaa

/-!   Replace: the code's. -/
namespace Go.Proofs.Ytanlggglbpibfaa
open Go.RowKit
set_option linter.unusedVariables false
set_option linter.unusedSimpArgs false
/-- the ops of a file that takes the place of another -/
def rpO (fr s d : ByteArray) : List DqI := [⟨1, fr, ⟨#[]⟩, d⟩, ⟨2, fr, s, ⟨#[]⟩⟩]
def rpP (L : List FlI) (fr s d : ByteArray) : List DqI := if (fdF L fr).isSome then ⟨3, fr, ⟨#[]⟩, ⟨#[]⟩⟩ :: rpO fr s d else rpO fr s d
theorem rpO_le {fr s d : ByteArray} (h1 : fr.size ≤ 1100000) (h2 : s.size ≤ 1100000) (h3 : d.size ≤ 1100000) : DqLe (rpO fr s d) := ⟨by simp [rpO], fun o ho => by
  have e : (⟨#[]⟩ : ByteArray).size = 0 := rfl
  simp only [rpO, List.mem_cons, List.not_mem_nil, or_false] at ho
  rcases ho with rfl | rfl
  · exact ⟨h1, by show (⟨#[]⟩ : ByteArray).size ≤ _; omega, h3⟩
  · exact ⟨h1, h2, by show (⟨#[]⟩ : ByteArray).size ≤ _; omega⟩⟩
theorem rpO_le3 {fr s d : ByteArray} (h1 : fr.size ≤ 1100000) (h2 : s.size ≤ 1100000) (h3 : d.size ≤ 1100000) : DqLe (⟨3, fr, ⟨#[]⟩, ⟨#[]⟩⟩ :: rpO fr s d) := ⟨by simp [rpO], fun o ho => by
  rcases List.mem_cons.1 ho with rfl | ho
  · have e : (⟨#[]⟩ : ByteArray).size = 0 := rfl
    exact ⟨h1, by show (⟨#[]⟩ : ByteArray).size ≤ _; omega, by show (⟨#[]⟩ : ByteArray).size ≤ _; omega⟩
  · exact (rpO_le h1 h2 h3).sz o ho⟩
theorem dqv_two (w : World) (fr s d : ByteArray) : DqV (w.alloc (.cells #[.int .i64 1, .string fr, .string ⟨#[]⟩, .string d, .int .i64 2, .string fr, .string s, .string ⟨#[]⟩] 36)) (.slice (some ⟨w.heap.size, 0, none⟩) 2 2) (rpO fr s d) := by
  have h := heap_alloc_new w (.cells #[.int .i64 1, .string fr, .string ⟨#[]⟩, .string d, .int .i64 2, .string fr, .string s, .string ⟨#[]⟩] 36)
  refine Or.inr ⟨w.heap.size, 2, rfl, ⟨by rw [World.size_alloc]; omega, fun i hi => ?_, fun i hi => ?_, fun i hi => ?_, fun i hi => ?_⟩⟩ <;>
  · have hi : i < 2 := hi
    refine (cell_of_row _ _ _ _ _ _ h).trans ?_
    obtain rfl | rfl : i = 0 ∨ i = 1 := by omega
    all_goals simp [rpO, dqF]
set_option maxRecDepth 100000 in
set_option maxHeartbeats 1000000 in
theorem repl15_any (vL vS vO : Value) (L S : List FlI) (O : List DqI) (s d fr : ByteArray) (w : World) (hfr : fr = s ++ ⟨#[46, 110, 101, 119]⟩) (hL : FlLe L) (hS : FlLe S) (hO : DqLe O) (hs : s.size ≤ 1050000) (hd : d.size ≤ 1100000) (h1 : FlV w vL L) (h2 : FlV w vS S) (h3 : DqV w vO O) :
    Calls Try.prog 24 #[.agg #[vL, vS, vO], .string s, .string d] w fun e w' => DoO w.heap.size (doA L S O (rpP L fr s d)) e w' ∧ Below w.heap.size w w' := by
  have hfs : fr.size = s.size + 4 := by rw [hfr, ByteArray.size_append]; rfl
  have HRD : Hid (∀ w', Below w.heap.size w w' → Calls Try.prog 22 #[.agg #[vL, vS, vO], .string fr] w' fun e w'' => e = .returned (.tuple #[.string (rdE L S O fr).1, .bool (rdE L S O fr).2]) ∧ Below w'.heap.size w' w'') := fun w' hb => read15_any vL vS vO L S O fr w' (by omega) hL hS hO (h1.below hb) (h2.below hb) (h3.below hb)
  have HD2 : Hid (∀ w' vP, Below w.heap.size w w' → DqV w' vP (rpO fr s d) → Calls Try.prog 58 #[.agg #[vL, vS, vO], vP] w' fun e w'' => DoO w'.heap.size (doA L S O (rpO fr s d)) e w'' ∧ Below w'.heap.size w' w'') := fun w' vP hb hp => doAll_any vL vS vO vP L S O _ w' hL hS hO (rpO_le (by omega) (by omega) hd) (h1.below hb) (h2.below hb) (h3.below hb) hp
  have HD3 : Hid (∀ w' vP, Below w.heap.size w w' → DqV w' vP (⟨3, fr, ⟨#[]⟩, ⟨#[]⟩⟩ :: rpO fr s d) → Calls Try.prog 58 #[.agg #[vL, vS, vO], vP] w' fun e w'' => DoO w'.heap.size (doA L S O (⟨3, fr, ⟨#[]⟩, ⟨#[]⟩⟩ :: rpO fr s d)) e w'' ∧ Below w'.heap.size w' w'') := fun w' vP hb hp => doAll_any vL vS vO vP L S O _ w' hL hS hO (rpO_le3 (by omega) (by omega) hd) (h1.below hb) (h2.below hb) (h3.below hb) hp
  have HIS : Hid (∀ (g h : Nat) (x y z : DqI) (w : World), (∀ j v, (dq4 x ++ dq4 y)[j]? = some v → w.cell? ⟨g, j, none⟩ = some v) → (∀ j v, (dq4 z)[j]? = some v → w.cell? ⟨h, j, none⟩ = some v) → g < w.heap.size → h < w.heap.size → Calls Try.prog 63 #[.slice (some ⟨g, 0, none⟩) 2 2, .int .i64 0, .slice (some ⟨h, 0, none⟩) 1 1] w fun e w' => (∃ v, e = .returned v ∧ DqV w' v [z, x, y]) ∧ Below w.heap.size w w') := ins_any
  obtain ⟨al, cl, rfl⟩ := h1.slice
  obtain ⟨a2, cs, rfl⟩ := h2.slice
  obtain ⟨ao, co, rfl⟩ := h3.slice
  have HX1 : Hid (((w.alloc (.cells #[.slice al L.length cl, .slice a2 S.length cs, .slice ao O.length co] 27)).alloc (.cells #[.slice none 0 0, .slice none 0 0, .slice none 0 0] 27)).heap[w.heap.size]? = some (.cells #[.slice al L.length cl, .slice a2 S.length cs, .slice ao O.length co] 27 (0, 0)) ∧ ((w.alloc (.cells #[.slice al L.length cl, .slice a2 S.length cs, .slice ao O.length co] 27)).alloc (.cells #[.slice none 0 0, .slice none 0 0, .slice none 0 0] 27)).heap[w.heap.size + 1]? = some (.cells #[.slice none 0 0, .slice none 0 0, .slice none 0 0] 27 (0, 0))) := by
    refine ⟨?_, ?_⟩
    · rw [Below.heap_alloc _ _ _ (by simp), heap_alloc_new]
    · have := heap_alloc_new (w.alloc (.cells #[.slice al L.length cl, .slice a2 S.length cs, .slice ao O.length co] 27)) (.cells #[.slice none 0 0, .slice none 0 0, .slice none 0 0] 27)
      rw [World.size_alloc] at this
      exact this
  have HB1 : Hid (Below w.heap.size w ((w.alloc (.cells #[.slice al L.length cl, .slice a2 S.length cs, .slice ao O.length co] 27)).alloc (.cells #[.slice none 0 0, .slice none 0 0, .slice none 0 0] 27))) := ((Below.refl _ _).alloc (Nat.le_refl _) _).alloc (by simp) _
  have hs9 : ¬ 9223372036854775807 < s.size + 4 := by omega
  have HDI : Hid ((rdE L S O fr).2 = true → rpP L fr s d = ⟨3, fr, ⟨#[]⟩, ⟨#[]⟩⟩ :: rpO fr s d) := fun h => by
    by_cases hD : diskP L S O
    · cases hf : fdF L fr with
      | none => rw [rdE_no hf] at h; cases h
      | some x => unfold rpP; rw [hf]; rfl
    · rw [rdE_bad hD] at h; cases h
  have HDJ : Hid ((rdE L S O fr).2 = false → doA L S O (rpP L fr s d) = doA L S O (rpO fr s d)) := fun h => by
    by_cases hD : diskP L S O
    · cases hf : fdF L fr with
      | none => unfold rpP; rw [hf]; rfl
      | some x => rw [rdE_yes hD hf] at h; cases h
    · rw [doA_bad hD, doA_bad hD]
  have HFR := hidF hfr
  clear hL hS hO hs hd h1 h2 h3 hfs hfr
  go_enter Try.func24, Try.ntmps24
  go_wp2_with fail
  rw [← HFR.out]
  have hrd := HRD.out (((w.alloc (.cells #[.slice al L.length cl, .slice a2 S.length cs, .slice ao O.length co] 27)).alloc (.cells #[.slice none 0 0, .slice none 0 0, .slice none 0 0] 27)).alloc (.cells #[.int .i64 1, .string fr, .string ⟨#[]⟩, .string d, .int .i64 2, .string fr, .string s, .string ⟨#[]⟩] 36)) (HB1.out.alloc HB1.out.size _)
  have hv2 := dqv_two ((w.alloc (.cells #[.slice al L.length cl, .slice a2 S.length cs, .slice ao O.length co] 27)).alloc (.cells #[.slice none 0 0, .slice none 0 0, .slice none 0 0] 27)) fr s d
  have hr2 := heap_alloc_new ((w.alloc (.cells #[.slice al L.length cl, .slice a2 S.length cs, .slice ao O.length co] 27)).alloc (.cells #[.slice none 0 0, .slice none 0 0, .slice none 0 0] 27)) (.cells #[.int .i64 1, .string fr, .string ⟨#[]⟩, .string d, .int .i64 2, .string fr, .string s, .string ⟨#[]⟩] 36)
  have hs1 : ((w.alloc (.cells #[.slice al L.length cl, .slice a2 S.length cs, .slice ao O.length co] 27)).alloc (.cells #[.slice none 0 0, .slice none 0 0, .slice none 0 0] 27)).heap.size = w.heap.size + 2 := by rw [World.size_alloc, World.size_alloc]
  have hb2 : Below ((w.alloc (.cells #[.slice al L.length cl, .slice a2 S.length cs, .slice ao O.length co] 27)).alloc (.cells #[.slice none 0 0, .slice none 0 0, .slice none 0 0] 27)).heap.size ((w.alloc (.cells #[.slice al L.length cl, .slice a2 S.length cs, .slice ao O.length co] 27)).alloc (.cells #[.slice none 0 0, .slice none 0 0, .slice none 0 0] 27)) (((w.alloc (.cells #[.slice al L.length cl, .slice a2 S.length cs, .slice ao O.length co] 27)).alloc (.cells #[.slice none 0 0, .slice none 0 0, .slice none 0 0] 27)).alloc (.cells #[.int .i64 1, .string fr, .string ⟨#[]⟩, .string d, .int .i64 2, .string fr, .string s, .string ⟨#[]⟩] 36)) := (Below.refl _ _).alloc (Nat.le_refl _) _
  rw [hs1] at hv2 hr2
  generalize ((w.alloc (.cells #[.slice al L.length cl, .slice a2 S.length cs, .slice ao O.length co] 27)).alloc (.cells #[.slice none 0 0, .slice none 0 0, .slice none 0 0] 27)).alloc (.cells #[.int .i64 1, .string fr, .string ⟨#[]⟩, .string d, .int .i64 2, .string fr, .string s, .string ⟨#[]⟩] 36) = w2 at hrd hv2 hr2 hb2 ⊢
  obtain ⟨pk, hpk⟩ : ∃ pk, pk = w.heap.size + 2 := ⟨_, rfl⟩
  rw [← hpk] at hv2 hr2 ⊢
  clear hpk
  have HX2 : Hid (w2.heap[w.heap.size]? = some (.cells #[.slice al L.length cl, .slice a2 S.length cs, .slice ao O.length co] 27 (0, 0)) ∧ w2.heap[w.heap.size + 1]? = some (.cells #[.slice none 0 0, .slice none 0 0, .slice none 0 0] 27 (0, 0))) := ⟨(hb2.block _ (Array.getElem?_eq_some_iff.1 HX1.out.1).1).trans HX1.out.1, (hb2.block _ (Array.getElem?_eq_some_iff.1 HX1.out.2).1).trans HX1.out.2⟩
  have HB2 := hidF (blFl HB1.out hb2 HB1.out.size)
  have HV2 : Hid (DqV w2 (.slice (some ⟨pk, 0, none⟩) 2 2) (rpO fr s d) ∧ w2.heap[pk]? = some (.cells #[.int .i64 1, .string fr, .string ⟨#[]⟩, .string d, .int .i64 2, .string fr, .string s, .string ⟨#[]⟩] 36 (0, 0))) := ⟨hv2, hr2⟩
  clear hv2 hr2 hb2 hs1 HX1 HB1 HRD
  obtain ⟨bk, hbk⟩ : ∃ bk, bk = w.heap.size := ⟨_, rfl⟩
  obtain ⟨rk, hrk⟩ : ∃ rk, rk = w.heap.size + 1 := ⟨_, rfl⟩
  have HRK : Hid (w.heap.size ≤ rk) := by show _ ≤ _; omega
  rw [← hrk, ← hbk] at HX2 ⊢
  clear hbk hrk
  refine hrd.mono ?_
  rintro e w3 ⟨rfl, hb3⟩
  have HX3 : Hid (w3.heap[bk]? = some (.cells #[.slice al L.length cl, .slice a2 S.length cs, .slice ao O.length co] 27 (0, 0)) ∧ w3.heap[rk]? = some (.cells #[.slice none 0 0, .slice none 0 0, .slice none 0 0] 27 (0, 0))) := ⟨(hb3.block _ (Array.getElem?_eq_some_iff.1 HX2.out.1).1).trans HX2.out.1, (hb3.block _ (Array.getElem?_eq_some_iff.1 HX2.out.2).1).trans HX2.out.2⟩
  have HB3 := hidF (blFl HB2.out hb3 HB2.out.size)
  have HV3 : Hid (DqV w3 (.slice (some ⟨pk, 0, none⟩) 2 2) (rpO fr s d) ∧ w3.heap[pk]? = some (.cells #[.int .i64 1, .string fr, .string ⟨#[]⟩, .string d, .int .i64 2, .string fr, .string s, .string ⟨#[]⟩] 36 (0, 0))) := ⟨HV2.out.1.below hb3, (hb3.block _ (Array.getElem?_eq_some_iff.1 HV2.out.2).1).trans HV2.out.2⟩
  clear hb3 hrd HX2 HB2 HV2
  generalize (rdE L S O fr).1 = r1
  cases hr : (rdE L S O fr).2 with
  | false =>
    have HE := hidF (HDJ.out hr)
    generalize doA L S O (rpO fr s d) = A at HD2 HE
    have HDA := HD2
    have HB5 := HB3
    have HX5 := HX3
    have HV5 := hidF HV3.out.1
    have c0 := cell_of_row _ _ 0 _ _ _ HX3.out.1
    have c1 := cell_of_row _ _ 1 _ _ _ HX3.out.1
    have c2 := cell_of_row _ _ 2 _ _ _ HX3.out.1
    clear hr HD2 HD3 HDI HDJ HIS
    go_wp2_with fail
    clear c0 c1 c2
    refine (HDA.out _ _ HB5.out HV5.out).mono ?_
    rintro e w9 ⟨⟨u1, u2, u3, rfl, t1, t2, t3, t4, t5⟩, hb9⟩
    obtain ⟨x1, y1, rfl⟩ := ownF_slice t1
    obtain ⟨x2, y2, rfl⟩ := ownF_slice t2
    obtain ⟨x3, y3, rfl⟩ := ownQ_slice t3
    have hz4 := (hb9.block _ (Array.getElem?_eq_some_iff.1 HX5.out.2).1).trans HX5.out.2
    have hb7 := blFl HB5.out hb9 HB5.out.size
    have HLO := HB5.out.size
    have HB9 : Hid (Below w.heap.size w (set3b w9 rk (.slice x1 A.l.length y1) (.slice x2 A.s.length y2) (.slice x3 A.o.length y3))) := ((hb7.setCell (p := ⟨rk, 0, none⟩) HRK.out _).setCell (p := ⟨rk, 1, none⟩) HRK.out _).setCell (p := ⟨rk, 2, none⟩) HRK.out _
    have HR9 : Hid ((set3b w9 rk (.slice x1 A.l.length y1) (.slice x2 A.s.length y2) (.slice x3 A.o.length y3)).heap[rk]? = some (.cells #[(.slice x1 A.l.length y1), (.slice x2 A.s.length y2), (.slice x3 A.o.length y3)] 27 (0, 0))) := heap_setCell_same _ _ _ _ _ _ (heap_setCell_same _ _ _ _ _ _ (heap_setCell_same _ _ _ _ _ _ hz4))
    have z0 := cell_of_row _ _ 0 _ _ _ hz4
    have z1 := cell_of_row _ _ 1 _ _ _ hz4
    have z2 := cell_of_row _ _ 2 _ _ _ hz4
    have f0 := frozen_of_row _ _ 0 _ _ hz4
    have f1 := frozen_of_row _ _ 1 _ _ hz4
    have f2 := frozen_of_row _ _ 2 _ _ hz4
    have HO9 : Hid (DoO w.heap.size A (.returned (.tuple #[.agg #[(.slice x1 A.l.length y1), (.slice x2 A.s.length y2), (.slice x3 A.o.length y3)], .int .i64 A.c])) (set3b w9 rk (.slice x1 A.l.length y1) (.slice x2 A.s.length y2) (.slice x3 A.o.length y3))) := ⟨_, _, _, rfl, own_set3b (ownF_base t1 HLO) hz4 (by decide), own_set3b (ownF_base t2 HLO) hz4 (by decide), own_set3b (ownF_base t3 HLO) hz4 (by decide), t4, t5⟩
    clear hb9 t1 t2 t3 t4 t5 hz4 hb7 HLO HX5 HB5
    go_wp2_with fail
    exact bodyPost_ret (results_cell_t rfl _ _ rk 27 #[(.slice x1 A.l.length y1), (.slice x2 A.s.length y2), (.slice x3 A.o.length y3)] (0, 0) _ rfl HR9.out Try.underlying27 rfl (by kernel_rfl)) rfl ⟨by rw [HE.out]; exact HO9.out, HB9.out⟩
  | true =>
    have HE : Hid (doA L S O (rpP L fr s d) = doA L S O (⟨3, fr, ⟨#[]⟩, ⟨#[]⟩⟩ :: rpO fr s d)) := by show _ = _; rw [HDI.out hr]
    generalize doA L S O (⟨3, fr, ⟨#[]⟩, ⟨#[]⟩⟩ :: rpO fr s d) = A at HD3 HE
    have HDA := HD3
    have hb4 : Below w3.heap.size w3 (w3.alloc (.cells #[.int .i64 3, .string fr, .string ⟨#[]⟩, .string ⟨#[]⟩] 36)) := (Below.refl _ _).alloc (Nat.le_refl _) _
    have hi4 := HIS.out pk w3.heap.size ⟨1, fr, ⟨#[]⟩, d⟩ ⟨2, fr, s, ⟨#[]⟩⟩ ⟨3, fr, ⟨#[]⟩, ⟨#[]⟩⟩ (w3.alloc (.cells #[.int .i64 3, .string fr, .string ⟨#[]⟩, .string ⟨#[]⟩] 36)) (fun j v hj => (cell_of_row _ _ _ _ _ _ ((hb4.block _ (Array.getElem?_eq_some_iff.1 HV3.out.2).1).trans HV3.out.2)).trans (by
      rw [← hj]
      simp [dq4])) (fun j v hj => (cell_of_row _ _ _ _ _ _ (heap_alloc_new w3 _)).trans (by
      rw [← hj]
      simp [dq4])) (Nat.lt_of_lt_of_le (Array.getElem?_eq_some_iff.1 HV3.out.2).1 hb4.size) (by rw [World.size_alloc]; omega)
    have HX4 : Hid ((w3.alloc (.cells #[.int .i64 3, .string fr, .string ⟨#[]⟩, .string ⟨#[]⟩] 36)).heap[bk]? = some (.cells #[.slice al L.length cl, .slice a2 S.length cs, .slice ao O.length co] 27 (0, 0)) ∧ (w3.alloc (.cells #[.int .i64 3, .string fr, .string ⟨#[]⟩, .string ⟨#[]⟩] 36)).heap[rk]? = some (.cells #[.slice none 0 0, .slice none 0 0, .slice none 0 0] 27 (0, 0))) := ⟨(hb4.block _ (Array.getElem?_eq_some_iff.1 HX3.out.1).1).trans HX3.out.1, (hb4.block _ (Array.getElem?_eq_some_iff.1 HX3.out.2).1).trans HX3.out.2⟩
    have HB4 := hidF (blFl HB3.out hb4 HB3.out.size)
    clear hr HD2 HD3 HDI HDJ HIS hb4
    go_wp2_with fail
    refine hi4.mono ?_
    rintro e w5 ⟨⟨v5, rfl, hv5⟩, hb5⟩
    have HX5 : Hid (w5.heap[bk]? = some (.cells #[.slice al L.length cl, .slice a2 S.length cs, .slice ao O.length co] 27 (0, 0)) ∧ w5.heap[rk]? = some (.cells #[.slice none 0 0, .slice none 0 0, .slice none 0 0] 27 (0, 0))) := ⟨(hb5.block _ (Array.getElem?_eq_some_iff.1 HX4.out.1).1).trans HX4.out.1, (hb5.block _ (Array.getElem?_eq_some_iff.1 HX4.out.2).1).trans HX4.out.2⟩
    have HB5 := hidF (blFl HB4.out hb5 HB4.out.size)
    have HV5 : Hid (DqV w5 v5 (⟨3, fr, ⟨#[]⟩, ⟨#[]⟩⟩ :: rpO fr s d)) := hv5
    have c0 := cell_of_row _ _ 0 _ _ _ HX5.out.1
    have c1 := cell_of_row _ _ 1 _ _ _ HX5.out.1
    have c2 := cell_of_row _ _ 2 _ _ _ HX5.out.1
    clear hv5 hb5 hi4 HX4 HB4 HX3 HB3 HV3
    go_wp2_with fail
    clear c0 c1 c2
    refine (HDA.out _ _ HB5.out HV5.out).mono ?_
    rintro e w9 ⟨⟨u1, u2, u3, rfl, t1, t2, t3, t4, t5⟩, hb9⟩
    obtain ⟨x1, y1, rfl⟩ := ownF_slice t1
    obtain ⟨x2, y2, rfl⟩ := ownF_slice t2
    obtain ⟨x3, y3, rfl⟩ := ownQ_slice t3
    have hz4 := (hb9.block _ (Array.getElem?_eq_some_iff.1 HX5.out.2).1).trans HX5.out.2
    have hb7 := blFl HB5.out hb9 HB5.out.size
    have HLO := HB5.out.size
    have HB9 : Hid (Below w.heap.size w (set3b w9 rk (.slice x1 A.l.length y1) (.slice x2 A.s.length y2) (.slice x3 A.o.length y3))) := ((hb7.setCell (p := ⟨rk, 0, none⟩) HRK.out _).setCell (p := ⟨rk, 1, none⟩) HRK.out _).setCell (p := ⟨rk, 2, none⟩) HRK.out _
    have HR9 : Hid ((set3b w9 rk (.slice x1 A.l.length y1) (.slice x2 A.s.length y2) (.slice x3 A.o.length y3)).heap[rk]? = some (.cells #[(.slice x1 A.l.length y1), (.slice x2 A.s.length y2), (.slice x3 A.o.length y3)] 27 (0, 0))) := heap_setCell_same _ _ _ _ _ _ (heap_setCell_same _ _ _ _ _ _ (heap_setCell_same _ _ _ _ _ _ hz4))
    have z0 := cell_of_row _ _ 0 _ _ _ hz4
    have z1 := cell_of_row _ _ 1 _ _ _ hz4
    have z2 := cell_of_row _ _ 2 _ _ _ hz4
    have f0 := frozen_of_row _ _ 0 _ _ hz4
    have f1 := frozen_of_row _ _ 1 _ _ hz4
    have f2 := frozen_of_row _ _ 2 _ _ hz4
    have HO9 : Hid (DoO w.heap.size A (.returned (.tuple #[.agg #[(.slice x1 A.l.length y1), (.slice x2 A.s.length y2), (.slice x3 A.o.length y3)], .int .i64 A.c])) (set3b w9 rk (.slice x1 A.l.length y1) (.slice x2 A.s.length y2) (.slice x3 A.o.length y3))) := ⟨_, _, _, rfl, own_set3b (ownF_base t1 HLO) hz4 (by decide), own_set3b (ownF_base t2 HLO) hz4 (by decide), own_set3b (ownF_base t3 HLO) hz4 (by decide), t4, t5⟩
    clear hb9 t1 t2 t3 t4 t5 hz4 hb7 HLO HX5 HB5
    go_wp2_with fail
    exact bodyPost_ret (results_cell_t rfl _ _ rk 27 #[(.slice x1 A.l.length y1), (.slice x2 A.s.length y2), (.slice x3 A.o.length y3)] (0, 0) _ rfl HR9.out Try.underlying27 rfl (by kernel_rfl)) rfl ⟨by rw [HE.out]; exact HO9.out, HB9.out⟩
end Go.Proofs.Ytanlggglbpibfaa

/-!   Replace: the specification's. -/
namespace Go.Proofs.Ytanlggglbpibfaa
open Go.RowKit
set_option linter.unusedVariables false
set_option linter.unusedSimpArgs false
theorem act_go {M S : List FlI} {R : List DqI} {o : DqI} (h : diskP M S R) (hc : codeF M R.length o = 0) : diskP (actL M R.length o) S (actO M R o) ∧ ∀ P, actsF M R (o :: P) = actsF (actL M R.length o) (actO M R o) P := by
  unfold actL actO
  rw [if_pos hc, if_pos hc]
  exact ⟨disk_next h hc, fun P => acts_go hc⟩
theorem actO_le {M S : List FlI} {R : List DqI} {m : Int} {a q d : ByteArray} (h : diskP M S R) (hR : DqLe R) (ha : a.size ≤ 1100000) (hq : q.size ≤ 1100000) (hd : d.size ≤ 1100000) : DqLe (actO M R ⟨m, a, q, d⟩) := by
  unfold actO
  split
  · exact ⟨by rw [List.length_append]; have := h.few; show _ + 1 ≤ _; omega, fun o ho => (List.mem_append.1 ho).elim (hR.sz o) (fun ho => by rw [List.mem_singleton.1 ho]; exact ⟨ha, hq, hd⟩)⟩
  · exact hR
set_option maxRecDepth 100000 in
set_option maxHeartbeats 3000000 in
theorem srepl15_any (vL vS vO : Value) (L S : List FlI) (O : List DqI) (s d fr : ByteArray) (w : World) (hfr : fr = s ++ ⟨#[46, 110, 101, 119]⟩) (hL : FlLe L) (hS : FlLe S) (hO : DqLe O) (hs : s.size ≤ 1050000) (hd : d.size ≤ 1100000) (h1 : FlV w vL L) (h2 : FlV w vS S) (h3 : DqV w vO O) :
    Calls Try.prog 25 #[.agg #[vL, vS, vO], .string s, .string d] w fun e w' => DoV (doA L S O (rpP L fr s d)) e w' ∧ Below w.heap.size w w' := by
  have hfs : fr.size = s.size + 4 := by rw [hfr, ByteArray.size_append]; rfl
  have HZ : Hid (fr.size ≤ 1100000 ∧ s.size ≤ 1100000 ∧ (⟨#[]⟩ : ByteArray).size ≤ 1100000 ∧ d.size ≤ 1100000) := ⟨by omega, by omega, by show 0 ≤ _; omega, hd⟩
  have HDK : Hid (∀ w', Below w.heap.size w w' → Calls Try.prog 15 #[.agg #[vL, vS, vO]] w' fun e w'' => e = .returned (.bool (dkB L S O)) ∧ Below w'.heap.size w' w'') := fun w' hb => sdisk_any vL vS vO L S O w' hL hS hO (h1.below hb) (h2.below hb) (h3.below hb)
  have HAT : Hid (∀ w', Below w.heap.size w w' → Calls Try.prog 64 #[vL, .string fr] w' fun e w'' => atP L fr e ∧ w'' = w') := fun w' hb => sat15_any vL L fr w' hL (h1.below hb).arg
  have HACT : Hid (∀ (vL vS vO : Value) (M : List FlI) (R : List DqI) (m : Int) (a q d : ByteArray) (w : World), diskP M S R → DqLe R → a.size ≤ 1100000 → q.size ≤ 1100000 → d.size ≤ 1100000 → FlV w vL M → FlV w vS S → DqV w vO R → Calls Try.prog 59 #[.agg #[vL, vS, vO], .agg #[.int .i64 m, .string a, .string q, .string d]] w fun e w' => ActAns M S R ⟨m, a, q, d⟩ e w' ∧ Below w.heap.size w w') := fun vL vS vO M R m a q d w hD hR ha hq hd h1 h2 h3 => sact_any vL vS vO M S R m a q d w hD hR ha hq hd h1 h2 h3
  have HCP : Hid (∀ (vL vS vO : Value) (M : List FlI) (R : List DqI) (w' : World), FlLe M → DqLe R → FlV w' vL M → FlV w' vS S → DqV w' vO R → Calls Try.prog 65 #[.agg #[vL, vS, vO]] w' fun e w'' => (∃ a b c, e = .returned (.agg #[a, b, c]) ∧ FlT w'' a M ∧ FlT w'' b S ∧ w''.ownsRow w'.heap.size 36 4 c R.length (dqC R)) ∧ Below w'.heap.size w' w'') := fun vL vS vO M R w' hM hR h1 h2 h3 => scopy15_any vL vS vO M S R w' hM hS hR h1 h2 h3
  have HLE : Hid (FlLe L ∧ DqLe O) := ⟨hL, hO⟩
  have HV0 : Hid (∀ w', Below w.heap.size w w' → FlV w' vL L ∧ FlV w' vS S ∧ DqV w' vO O) := fun w' hb => ⟨h1.below hb, h2.below hb, h3.below hb⟩
  obtain ⟨al, cl, rfl⟩ := h1.slice
  obtain ⟨a2, cs, rfl⟩ := h2.slice
  obtain ⟨ao, co, rfl⟩ := h3.slice
  have HX1 : Hid (((w.alloc (.cells #[.slice al L.length cl, .slice a2 S.length cs, .slice ao O.length co] 27)).alloc (.cells #[.slice none 0 0, .slice none 0 0, .slice none 0 0] 27)).heap[w.heap.size]? = some (.cells #[.slice al L.length cl, .slice a2 S.length cs, .slice ao O.length co] 27 (0, 0)) ∧ ((w.alloc (.cells #[.slice al L.length cl, .slice a2 S.length cs, .slice ao O.length co] 27)).alloc (.cells #[.slice none 0 0, .slice none 0 0, .slice none 0 0] 27)).heap[w.heap.size + 1]? = some (.cells #[.slice none 0 0, .slice none 0 0, .slice none 0 0] 27 (0, 0))) := by
    refine ⟨?_, ?_⟩
    · rw [Below.heap_alloc _ _ _ (by simp), heap_alloc_new]
    · have := heap_alloc_new (w.alloc (.cells #[.slice al L.length cl, .slice a2 S.length cs, .slice ao O.length co] 27)) (.cells #[.slice none 0 0, .slice none 0 0, .slice none 0 0] 27)
      rw [World.size_alloc] at this
      exact this
  have HB1 : Hid (Below w.heap.size w ((w.alloc (.cells #[.slice al L.length cl, .slice a2 S.length cs, .slice ao O.length co] 27)).alloc (.cells #[.slice none 0 0, .slice none 0 0, .slice none 0 0] 27))) := ((Below.refl _ _).alloc (Nat.le_refl _) _).alloc (by simp) _
  have hs9 : ¬ 9223372036854775807 < s.size + 4 := by omega
  have HFR := hidF hfr
  obtain ⟨P, hPP⟩ : ∃ P, P = rpP L fr s d := ⟨_, rfl⟩
  rw [← hPP]
  have HPP := hidF hPP
  clear hPP
  clear hL hS hO hs hd h1 h2 h3 hfs hfr
  go_enter Try.func25, Try.ntmps25
  go_wp2_with fail
  have hdk := HDK.out _ HB1.out
  generalize (w.alloc (.cells #[.slice al L.length cl, .slice a2 S.length cs, .slice ao O.length co] 27)).alloc (.cells #[.slice none 0 0, .slice none 0 0, .slice none 0 0] 27) = w1 at HB1 HX1 hdk ⊢
  obtain ⟨bk, hbk⟩ : ∃ bk, bk = w.heap.size := ⟨_, rfl⟩
  obtain ⟨rk, hrk⟩ : ∃ rk, rk = w.heap.size + 1 := ⟨_, rfl⟩
  have HRK : Hid (w.heap.size ≤ rk) := by show _ ≤ _; omega
  rw [← hrk, ← hbk] at HX1 ⊢
  clear hbk hrk
  refine hdk.mono ?_
  rintro e w2 ⟨rfl, hb2⟩
  have HX2 : Hid (w2.heap[bk]? = some (.cells #[.slice al L.length cl, .slice a2 S.length cs, .slice ao O.length co] 27 (0, 0)) ∧ w2.heap[rk]? = some (.cells #[.slice none 0 0, .slice none 0 0, .slice none 0 0] 27 (0, 0))) := ⟨(hb2.block _ (Array.getElem?_eq_some_iff.1 HX1.out.1).1).trans HX1.out.1, (hb2.block _ (Array.getElem?_eq_some_iff.1 HX1.out.2).1).trans HX1.out.2⟩
  have HB2 := hidF (blFl HB1.out hb2 HB1.out.size)
  clear hb2 HX1 HB1 hdk HDK
  by_cases hD : diskP L S O
  rotate_left
  · have HE : Hid (doA L S O P = ⟨[], [], [], 1⟩) := doA_bad hD
    rw [dkB_no hD]
    have hz4 := HX2.out.2
    have hb7 := HB2.out
    have HB9 : Hid (Below w.heap.size w (set3b w2 rk (.slice none 0 0) (.slice none 0 0) (.slice none 0 0))) := ((hb7.setCell (p := ⟨rk, 0, none⟩) HRK.out _).setCell (p := ⟨rk, 1, none⟩) HRK.out _).setCell (p := ⟨rk, 2, none⟩) HRK.out _
    have HR9 : Hid ((set3b w2 rk (.slice none 0 0) (.slice none 0 0) (.slice none 0 0)).heap[rk]? = some (.cells #[.slice none 0 0, .slice none 0 0, .slice none 0 0] 27 (0, 0))) := heap_setCell_same _ _ _ _ _ _ (heap_setCell_same _ _ _ _ _ _ (heap_setCell_same _ _ _ _ _ _ hz4))
    have z0 := cell_of_row _ _ 0 _ _ _ hz4
    have z1 := cell_of_row _ _ 1 _ _ _ hz4
    have z2 := cell_of_row _ _ 2 _ _ _ hz4
    have f0 := frozen_of_row _ _ 0 _ _ hz4
    have f1 := frozen_of_row _ _ 1 _ _ hz4
    have f2 := frozen_of_row _ _ 2 _ _ hz4
    clear hD hz4 hb7
    go_wp2_with fail
    exact bodyPost_ret (results_cell_t rfl _ _ rk 27 #[.slice none 0 0, .slice none 0 0, .slice none 0 0] (0, 0) _ rfl HR9.out Try.underlying27 rfl (by kernel_rfl)) rfl ⟨by rw [HE.out]; exact ⟨_, _, _, rfl, Or.inl ⟨rfl, rfl⟩, Or.inl ⟨rfl, rfl⟩, Or.inl ⟨rfl, rfl⟩⟩, HB9.out⟩
  have HD0 := hidF hD
  rw [dkB_yes hD]
  have c0 := cell_of_row _ _ 0 _ _ _ HX2.out.1
  have c1 := cell_of_row _ _ 1 _ _ _ HX2.out.1
  have c2 := cell_of_row _ _ 2 _ _ _ HX2.out.1
  have hb3 : Below w2.heap.size w2 (w2.alloc (.cells #[.slice al L.length cl, .slice a2 S.length cs, .slice ao O.length co] 27)) := (Below.refl _ _).alloc (Nat.le_refl _) _
  have HX3 : Hid ((w2.alloc (.cells #[.slice al L.length cl, .slice a2 S.length cs, .slice ao O.length co] 27)).heap[bk]? = some (.cells #[.slice al L.length cl, .slice a2 S.length cs, .slice ao O.length co] 27 (0, 0)) ∧ (w2.alloc (.cells #[.slice al L.length cl, .slice a2 S.length cs, .slice ao O.length co] 27)).heap[rk]? = some (.cells #[.slice none 0 0, .slice none 0 0, .slice none 0 0] 27 (0, 0))) := ⟨(hb3.block _ (Array.getElem?_eq_some_iff.1 HX2.out.1).1).trans HX2.out.1, (hb3.block _ (Array.getElem?_eq_some_iff.1 HX2.out.2).1).trans HX2.out.2⟩
  have HN3 : Hid ((w2.alloc (.cells #[.slice al L.length cl, .slice a2 S.length cs, .slice ao O.length co] 27)).heap[w2.heap.size]? = some (.cells #[.slice al L.length cl, .slice a2 S.length cs, .slice ao O.length co] 27 (0, 0))) := heap_alloc_new w2 _
  have HB3 := hidF (blFl HB2.out hb3 HB2.out.size)
  have HNE : Hid (bk ≠ w2.heap.size ∧ rk ≠ w2.heap.size ∧ w.heap.size ≤ w2.heap.size) := ⟨Nat.ne_of_lt (Array.getElem?_eq_some_iff.1 HX2.out.1).1, Nat.ne_of_lt (Array.getElem?_eq_some_iff.1 HX2.out.2).1, HB2.out.size⟩
  have hat := HAT.out _ HB3.out
  have d0 := cell_of_row _ _ 0 _ _ _ HX3.out.1
  have hbn : ¬ bk = w2.heap.size := HNE.out.1
  clear hD hb3
  go_wp2_with fail
  rw [← HFR.out]
  generalize w2.alloc (.cells #[.slice al L.length cl, .slice a2 S.length cs, .slice ao O.length co] 27) = w3 at HX3 HN3 HB3 hat ⊢
  generalize w2.heap.size = nk at HN3 HNE ⊢
  clear HX2 HB2 c0 c1 c2 d0 hbn
  have HV3 := hidF (HV0.out _ HB3.out)
  have HQ3 := hidF HLE.out.2
  refine hat.mono ?_
  rintro e w4 ⟨hat2, rfl⟩
  rcases hat2 with ⟨hf, rfl⟩ | ⟨i, hi, hfa, hf, rfl⟩
  · have hP := HPP.out
    have HAC3 : Hid (actsF L O P = actsF L O ([⟨1, fr, ⟨#[]⟩, d⟩, ⟨2, fr, s, ⟨#[]⟩⟩] : List DqI)) := by show _ = _; rw [hP]; unfold rpP; rw [hf]; rfl
    clear hf hP hat
    have HCX := hidF (HACT.out _ _ _ L O 1 fr ⟨#[]⟩ d w4 HD0.out HQ3.out HZ.out.1 HZ.out.2.2.1 HZ.out.2.2.2 HV3.out.1 HV3.out.2.1 HV3.out.2.2)
    go_wp2_with (refine wpList_load_row rfl 27 _ rfl nk rfl 27 #[.slice al L.length cl, .slice a2 S.length cs, .slice ao O.length co] (0, 0) _ HN3.out Try.underlying27 rfl (by kernel_rfl) ?_)
    refine HCX.out.mono ?_
    skip
    rintro e w10 ⟨⟨u1, u2, u3, rfl, t1, t2, t3⟩, hb10⟩
    have HGO : Hid (codeF L O.length ⟨1, fr, ⟨#[]⟩, d⟩ = 0 → diskP (actL L O.length ⟨1, fr, ⟨#[]⟩, d⟩) S (actO L O ⟨1, fr, ⟨#[]⟩, d⟩) ∧ actsF L O P = actsF (actL L O.length ⟨1, fr, ⟨#[]⟩, d⟩) (actO L O ⟨1, fr, ⟨#[]⟩, d⟩) ([⟨2, fr, s, ⟨#[]⟩⟩] : List DqI)) := fun h => ⟨(act_go HD0.out h).1, by rw [HAC3.out]; exact (act_go HD0.out h).2 _⟩
    have HNG : Hid (codeF L O.length ⟨1, fr, ⟨#[]⟩, d⟩ ≠ 0 → doA L S O P = ⟨L, S, O, codeF L O.length ⟨1, fr, ⟨#[]⟩, d⟩⟩) := fun h => by
      have h1 : (actsF L O P).1 = codeF L O.length ⟨1, fr, ⟨#[]⟩, d⟩ := by rw [HAC3.out, acts_no h]
      rw [doA_no HD0.out (by rw [h1]; exact h), h1]
    have HQ10 : Hid (DqLe (actO L O ⟨1, fr, ⟨#[]⟩, d⟩)) := actO_le HD0.out HQ3.out HZ.out.1 HZ.out.2.2.1 HZ.out.2.2.2
    generalize actL L O.length ⟨1, fr, ⟨#[]⟩, d⟩ = M10 at t1 HGO
    generalize actO L O ⟨1, fr, ⟨#[]⟩, d⟩ = R10 at t3 HGO HQ10
    generalize codeF L O.length ⟨1, fr, ⟨#[]⟩, d⟩ = c10 at HGO HNG
    obtain ⟨x10, y10, rfl⟩ := t1.slice
    obtain ⟨xx10, yy10, rfl⟩ := t2.slice
    obtain ⟨xz10, yz10, rfl⟩ := t3.slice
    have hbx := (hb10.block _ (Array.getElem?_eq_some_iff.1 HX3.out.1).1).trans HX3.out.1
    have hrx := (hb10.block _ (Array.getElem?_eq_some_iff.1 HX3.out.2).1).trans HX3.out.2
    have hnx := (hb10.block _ (Array.getElem?_eq_some_iff.1 HN3.out).1).trans HN3.out
    have hbb := blFl HB3.out hb10 HB3.out.size
    have HX11 : Hid ((set3b w10 nk (.slice x10 M10.length y10) (.slice xx10 S.length yy10) (.slice xz10 R10.length yz10)).heap[bk]? = some (.cells #[.slice al L.length cl, .slice a2 S.length cs, .slice ao O.length co] 27 (0, 0)) ∧ (set3b w10 nk (.slice x10 M10.length y10) (.slice xx10 S.length yy10) (.slice xz10 R10.length yz10)).heap[rk]? = some (.cells #[.slice none 0 0, .slice none 0 0, .slice none 0 0] 27 (0, 0))) := ⟨(set3b_other _ _ _ HNE.out.1).trans hbx, (set3b_other _ _ _ HNE.out.2.1).trans hrx⟩
    have HN11 : Hid ((set3b w10 nk (.slice x10 M10.length y10) (.slice xx10 S.length yy10) (.slice xz10 R10.length yz10)).heap[nk]? = some (.cells #[.slice x10 M10.length y10, .slice xx10 S.length yy10, .slice xz10 R10.length yz10] 27 (0, 0))) := heap_setCell_same _ _ _ _ _ _ (heap_setCell_same _ _ _ _ _ _ (heap_setCell_same _ _ _ _ _ _ hnx))
    have HB11 : Hid (Below w.heap.size w (set3b w10 nk (.slice x10 M10.length y10) (.slice xx10 S.length yy10) (.slice xz10 R10.length yz10))) := ((hbb.setCell (p := ⟨nk, 0, none⟩) HNE.out.2.2 _).setCell (p := ⟨nk, 1, none⟩) HNE.out.2.2 _).setCell (p := ⟨nk, 2, none⟩) HNE.out.2.2 _
    have HV11 : Hid (FlV (set3b w10 nk (.slice x10 M10.length y10) (.slice xx10 S.length yy10) (.slice xz10 R10.length yz10)) (.slice x10 M10.length y10) M10 ∧ FlV (set3b w10 nk (.slice x10 M10.length y10) (.slice xx10 S.length yy10) (.slice xz10 R10.length yz10)) (.slice xx10 S.length yy10) S ∧ DqV (set3b w10 nk (.slice x10 M10.length y10) (.slice xx10 S.length yy10) (.slice xz10 R10.length yz10)) (.slice xz10 R10.length yz10) R10) := ⟨t1.set3b hnx, t2.set3b hnx, t3.set3b hnx⟩
    have z0 := cell_of_row _ _ 0 _ _ _ hnx
    have z1 := cell_of_row _ _ 1 _ _ _ hnx
    have z2 := cell_of_row _ _ 2 _ _ _ hnx
    have f0 := frozen_of_row _ _ 0 _ _ hnx
    have f1 := frozen_of_row _ _ 1 _ _ hnx
    have f2 := frozen_of_row _ _ 2 _ _ hnx
    clear hb10 t1 t2 t3 hbx hrx hnx hbb HCX HX3 HN3 HB3 HV3
    by_cases hc : c10 = 0
    rotate_left
    · have HE := hidF (HNG.out hc)
      have hcb : (c10 != 0) = true := by rw [bne_iff_ne]; exact hc
      have hcb2 : (c10 == 0) = false := beq_eq_false_iff_ne.2 hc
      have HCX := hidF (HCP.out _ _ _ L O (set3b w10 nk (.slice x10 M10.length y10) (.slice xx10 S.length yy10) (.slice xz10 R10.length yz10)) HLE.out.1 HLE.out.2 (HV0.out _ HB11.out).1 (HV0.out _ HB11.out).2.1 (HV0.out _ HB11.out).2.2)
      clear hc HGO HNG
      go_wp2_with (refine wpList_load_row rfl 27 _ rfl bk rfl 27 #[.slice al L.length cl, .slice a2 S.length cs, .slice ao O.length co] (0, 0) _ HX11.out.1 Try.underlying27 rfl (by kernel_rfl) ?_)
      refine HCX.out.mono ?_
      clear z0 z1 z2 f0 f1 f2
      rintro e w12 ⟨⟨u1, u2, u3, rfl, t1, t2, t3⟩, hb12⟩
      obtain ⟨x1, y1, rfl⟩ := t1.slice
      obtain ⟨x2, y2, rfl⟩ := t2.slice
      obtain ⟨x3, y3, rfl⟩ := ownQ_slice t3
      have HX12 : Hid (w12.heap[bk]? = some (.cells #[.slice al L.length cl, .slice a2 S.length cs, .slice ao O.length co] 27 (0, 0)) ∧ w12.heap[rk]? = some (.cells #[.slice none 0 0, .slice none 0 0, .slice none 0 0] 27 (0, 0))) := ⟨(hb12.block _ (Array.getElem?_eq_some_iff.1 HX11.out.1).1).trans HX11.out.1, (hb12.block _ (Array.getElem?_eq_some_iff.1 HX11.out.2).1).trans HX11.out.2⟩
      have HB12 := hidF (blFl HB11.out hb12 HB11.out.size)
      have hz4 := HX12.out.2
      have hb7 := HB12.out
      have HB9 : Hid (Below w.heap.size w (set3b w12 rk (.slice x1 L.length y1) (.slice x2 S.length y2) (.slice x3 O.length y3))) := ((hb7.setCell (p := ⟨rk, 0, none⟩) HRK.out _).setCell (p := ⟨rk, 1, none⟩) HRK.out _).setCell (p := ⟨rk, 2, none⟩) HRK.out _
      have HR9 : Hid ((set3b w12 rk (.slice x1 L.length y1) (.slice x2 S.length y2) (.slice x3 O.length y3)).heap[rk]? = some (.cells #[.slice x1 L.length y1, .slice x2 S.length y2, .slice x3 O.length y3] 27 (0, 0))) := heap_setCell_same _ _ _ _ _ _ (heap_setCell_same _ _ _ _ _ _ (heap_setCell_same _ _ _ _ _ _ hz4))
      have HO9 : Hid (FlV (set3b w12 rk (.slice x1 L.length y1) (.slice x2 S.length y2) (.slice x3 O.length y3)) (.slice x1 L.length y1) L ∧ FlV (set3b w12 rk (.slice x1 L.length y1) (.slice x2 S.length y2) (.slice x3 O.length y3)) (.slice x2 S.length y2) S ∧ DqV (set3b w12 rk (.slice x1 L.length y1) (.slice x2 S.length y2) (.slice x3 O.length y3)) (.slice x3 O.length y3) O) := ⟨(t1.set3b hz4).1, (t2.set3b hz4).1, DqV.of_own (own_set3b t3 hz4 (by decide))⟩
      have z0 := cell_of_row _ _ 0 _ _ _ hz4
      have z1 := cell_of_row _ _ 1 _ _ _ hz4
      have z2 := cell_of_row _ _ 2 _ _ _ hz4
      have f0 := frozen_of_row _ _ 0 _ _ hz4
      have f1 := frozen_of_row _ _ 1 _ _ hz4
      have f2 := frozen_of_row _ _ 2 _ _ hz4
      clear hb12 t1 t2 t3 hz4 hb7
      go_wp2_with fail
      exact bodyPost_ret (results_cell_t rfl _ _ rk 27 #[.slice x1 L.length y1, .slice x2 S.length y2, .slice x3 O.length y3] (0, 0) _ rfl HR9.out Try.underlying27 rfl (by kernel_rfl)) rfl ⟨by rw [HE.out]; exact ⟨_, _, _, rfl, HO9.out⟩, HB9.out⟩
    have HD11 := hidF (HGO.out hc).1
    have HAC11 := hidF (HGO.out hc).2
    subst hc
    clear HGO HNG
    have HCX := hidF (HACT.out _ _ _ M10 R10 2 fr s ⟨#[]⟩ (set3b w10 nk (.slice x10 M10.length y10) (.slice xx10 S.length yy10) (.slice xz10 R10.length yz10)) HD11.out HQ10.out HZ.out.1 HZ.out.2.1 HZ.out.2.2.1 HV11.out.1 HV11.out.2.1 HV11.out.2.2)
    go_wp2_with (refine wpList_load_row rfl 27 _ rfl nk rfl 27 #[.slice x10 M10.length y10, .slice xx10 S.length yy10, .slice xz10 R10.length yz10] (0, 0) _ HN11.out Try.underlying27 rfl (by kernel_rfl) ?_)
    refine HCX.out.mono ?_
    clear z0 z1 z2 f0 f1 f2
    rintro e w13 ⟨⟨u1, u2, u3, rfl, t1, t2, t3⟩, hb13⟩
    have HGO : Hid (codeF M10 R10.length ⟨2, fr, s, ⟨#[]⟩⟩ = 0 → diskP (actL M10 R10.length ⟨2, fr, s, ⟨#[]⟩⟩) S (actO M10 R10 ⟨2, fr, s, ⟨#[]⟩⟩) ∧ actsF L O P = actsF (actL M10 R10.length ⟨2, fr, s, ⟨#[]⟩⟩) (actO M10 R10 ⟨2, fr, s, ⟨#[]⟩⟩) ([] : List DqI)) := fun h => ⟨(act_go HD11.out h).1, by rw [HAC11.out]; exact (act_go HD11.out h).2 _⟩
    have HNG : Hid (codeF M10 R10.length ⟨2, fr, s, ⟨#[]⟩⟩ ≠ 0 → doA L S O P = ⟨L, S, O, codeF M10 R10.length ⟨2, fr, s, ⟨#[]⟩⟩⟩) := fun h => by
      have h1 : (actsF L O P).1 = codeF M10 R10.length ⟨2, fr, s, ⟨#[]⟩⟩ := by rw [HAC11.out, acts_no h]
      rw [doA_no HD0.out (by rw [h1]; exact h), h1]
    have HQ13 : Hid (DqLe (actO M10 R10 ⟨2, fr, s, ⟨#[]⟩⟩)) := actO_le HD11.out HQ10.out HZ.out.1 HZ.out.2.1 HZ.out.2.2.1
    generalize actL M10 R10.length ⟨2, fr, s, ⟨#[]⟩⟩ = M13 at t1 HGO
    generalize actO M10 R10 ⟨2, fr, s, ⟨#[]⟩⟩ = R13 at t3 HGO HQ13
    generalize codeF M10 R10.length ⟨2, fr, s, ⟨#[]⟩⟩ = c13 at HGO HNG
    obtain ⟨x13, y13, rfl⟩ := t1.slice
    obtain ⟨xx13, yy13, rfl⟩ := t2.slice
    obtain ⟨xz13, yz13, rfl⟩ := t3.slice
    have hbx := (hb13.block _ (Array.getElem?_eq_some_iff.1 HX11.out.1).1).trans HX11.out.1
    have hrx := (hb13.block _ (Array.getElem?_eq_some_iff.1 HX11.out.2).1).trans HX11.out.2
    have hnx := (hb13.block _ (Array.getElem?_eq_some_iff.1 HN11.out).1).trans HN11.out
    have hbb := blFl HB11.out hb13 HB11.out.size
    have HX14 : Hid ((set3b w13 nk (.slice x13 M13.length y13) (.slice xx13 S.length yy13) (.slice xz13 R13.length yz13)).heap[bk]? = some (.cells #[.slice al L.length cl, .slice a2 S.length cs, .slice ao O.length co] 27 (0, 0)) ∧ (set3b w13 nk (.slice x13 M13.length y13) (.slice xx13 S.length yy13) (.slice xz13 R13.length yz13)).heap[rk]? = some (.cells #[.slice none 0 0, .slice none 0 0, .slice none 0 0] 27 (0, 0))) := ⟨(set3b_other _ _ _ HNE.out.1).trans hbx, (set3b_other _ _ _ HNE.out.2.1).trans hrx⟩
    have HN14 : Hid ((set3b w13 nk (.slice x13 M13.length y13) (.slice xx13 S.length yy13) (.slice xz13 R13.length yz13)).heap[nk]? = some (.cells #[.slice x13 M13.length y13, .slice xx13 S.length yy13, .slice xz13 R13.length yz13] 27 (0, 0))) := heap_setCell_same _ _ _ _ _ _ (heap_setCell_same _ _ _ _ _ _ (heap_setCell_same _ _ _ _ _ _ hnx))
    have HB14 : Hid (Below w.heap.size w (set3b w13 nk (.slice x13 M13.length y13) (.slice xx13 S.length yy13) (.slice xz13 R13.length yz13))) := ((hbb.setCell (p := ⟨nk, 0, none⟩) HNE.out.2.2 _).setCell (p := ⟨nk, 1, none⟩) HNE.out.2.2 _).setCell (p := ⟨nk, 2, none⟩) HNE.out.2.2 _
    have HV14 : Hid (FlV (set3b w13 nk (.slice x13 M13.length y13) (.slice xx13 S.length yy13) (.slice xz13 R13.length yz13)) (.slice x13 M13.length y13) M13 ∧ FlV (set3b w13 nk (.slice x13 M13.length y13) (.slice xx13 S.length yy13) (.slice xz13 R13.length yz13)) (.slice xx13 S.length yy13) S ∧ DqV (set3b w13 nk (.slice x13 M13.length y13) (.slice xx13 S.length yy13) (.slice xz13 R13.length yz13)) (.slice xz13 R13.length yz13) R13) := ⟨t1.set3b hnx, t2.set3b hnx, t3.set3b hnx⟩
    have z0 := cell_of_row _ _ 0 _ _ _ hnx
    have z1 := cell_of_row _ _ 1 _ _ _ hnx
    have z2 := cell_of_row _ _ 2 _ _ _ hnx
    have f0 := frozen_of_row _ _ 0 _ _ hnx
    have f1 := frozen_of_row _ _ 1 _ _ hnx
    have f2 := frozen_of_row _ _ 2 _ _ hnx
    clear hb13 t1 t2 t3 hbx hrx hnx hbb HCX HX11 HN11 HB11 HV11
    by_cases hc : c13 = 0
    rotate_left
    · have HE := hidF (HNG.out hc)
      have hcb : (c13 != 0) = true := by rw [bne_iff_ne]; exact hc
      have hcb2 : (c13 == 0) = false := beq_eq_false_iff_ne.2 hc
      have HCX := hidF (HCP.out _ _ _ L O (set3b w13 nk (.slice x13 M13.length y13) (.slice xx13 S.length yy13) (.slice xz13 R13.length yz13)) HLE.out.1 HLE.out.2 (HV0.out _ HB14.out).1 (HV0.out _ HB14.out).2.1 (HV0.out _ HB14.out).2.2)
      clear hc HGO HNG
      go_wp2_with (refine wpList_load_row rfl 27 _ rfl bk rfl 27 #[.slice al L.length cl, .slice a2 S.length cs, .slice ao O.length co] (0, 0) _ HX14.out.1 Try.underlying27 rfl (by kernel_rfl) ?_)
      refine HCX.out.mono ?_
      clear z0 z1 z2 f0 f1 f2
      rintro e w15 ⟨⟨u1, u2, u3, rfl, t1, t2, t3⟩, hb15⟩
      obtain ⟨x1, y1, rfl⟩ := t1.slice
      obtain ⟨x2, y2, rfl⟩ := t2.slice
      obtain ⟨x3, y3, rfl⟩ := ownQ_slice t3
      have HX15 : Hid (w15.heap[bk]? = some (.cells #[.slice al L.length cl, .slice a2 S.length cs, .slice ao O.length co] 27 (0, 0)) ∧ w15.heap[rk]? = some (.cells #[.slice none 0 0, .slice none 0 0, .slice none 0 0] 27 (0, 0))) := ⟨(hb15.block _ (Array.getElem?_eq_some_iff.1 HX14.out.1).1).trans HX14.out.1, (hb15.block _ (Array.getElem?_eq_some_iff.1 HX14.out.2).1).trans HX14.out.2⟩
      have HB15 := hidF (blFl HB14.out hb15 HB14.out.size)
      have hz4 := HX15.out.2
      have hb7 := HB15.out
      have HB9 : Hid (Below w.heap.size w (set3b w15 rk (.slice x1 L.length y1) (.slice x2 S.length y2) (.slice x3 O.length y3))) := ((hb7.setCell (p := ⟨rk, 0, none⟩) HRK.out _).setCell (p := ⟨rk, 1, none⟩) HRK.out _).setCell (p := ⟨rk, 2, none⟩) HRK.out _
      have HR9 : Hid ((set3b w15 rk (.slice x1 L.length y1) (.slice x2 S.length y2) (.slice x3 O.length y3)).heap[rk]? = some (.cells #[.slice x1 L.length y1, .slice x2 S.length y2, .slice x3 O.length y3] 27 (0, 0))) := heap_setCell_same _ _ _ _ _ _ (heap_setCell_same _ _ _ _ _ _ (heap_setCell_same _ _ _ _ _ _ hz4))
      have HO9 : Hid (FlV (set3b w15 rk (.slice x1 L.length y1) (.slice x2 S.length y2) (.slice x3 O.length y3)) (.slice x1 L.length y1) L ∧ FlV (set3b w15 rk (.slice x1 L.length y1) (.slice x2 S.length y2) (.slice x3 O.length y3)) (.slice x2 S.length y2) S ∧ DqV (set3b w15 rk (.slice x1 L.length y1) (.slice x2 S.length y2) (.slice x3 O.length y3)) (.slice x3 O.length y3) O) := ⟨(t1.set3b hz4).1, (t2.set3b hz4).1, DqV.of_own (own_set3b t3 hz4 (by decide))⟩
      have z0 := cell_of_row _ _ 0 _ _ _ hz4
      have z1 := cell_of_row _ _ 1 _ _ _ hz4
      have z2 := cell_of_row _ _ 2 _ _ _ hz4
      have f0 := frozen_of_row _ _ 0 _ _ hz4
      have f1 := frozen_of_row _ _ 1 _ _ hz4
      have f2 := frozen_of_row _ _ 2 _ _ hz4
      clear hb15 t1 t2 t3 hz4 hb7
      go_wp2_with fail
      exact bodyPost_ret (results_cell_t rfl _ _ rk 27 #[.slice x1 L.length y1, .slice x2 S.length y2, .slice x3 O.length y3] (0, 0) _ rfl HR9.out Try.underlying27 rfl (by kernel_rfl)) rfl ⟨by rw [HE.out]; exact ⟨_, _, _, rfl, HO9.out⟩, HB9.out⟩
    have HD14 := hidF (HGO.out hc).1
    have HAC14 := hidF (HGO.out hc).2
    subst hc
    clear HGO HNG
    have HE : Hid (doA L S O P = ⟨M13, S, R13, 0⟩) := by
      have h0 : actsF L O P = (0, M13, R13) := by rw [HAC14.out]; rfl
      show _ = _
      rw [doA_yes HD0.out (by rw [h0]), h0]
    have HCX := hidF (HCP.out _ _ _ M13 R13 (set3b w13 nk (.slice x13 M13.length y13) (.slice xx13 S.length yy13) (.slice xz13 R13.length yz13)) HD14.out.live.le HQ13.out HV14.out.1 HV14.out.2.1 HV14.out.2.2)
    go_wp2_with (refine wpList_load_row rfl 27 _ rfl nk rfl 27 #[.slice x13 M13.length y13, .slice xx13 S.length yy13, .slice xz13 R13.length yz13] (0, 0) _ HN14.out Try.underlying27 rfl (by kernel_rfl) ?_)
    refine HCX.out.mono ?_
    clear z0 z1 z2 f0 f1 f2
    rintro e w16 ⟨⟨u1, u2, u3, rfl, t1, t2, t3⟩, hb16⟩
    obtain ⟨x1, y1, rfl⟩ := t1.slice
    obtain ⟨x2, y2, rfl⟩ := t2.slice
    obtain ⟨x3, y3, rfl⟩ := ownQ_slice t3
    have HX16 : Hid (w16.heap[bk]? = some (.cells #[.slice al L.length cl, .slice a2 S.length cs, .slice ao O.length co] 27 (0, 0)) ∧ w16.heap[rk]? = some (.cells #[.slice none 0 0, .slice none 0 0, .slice none 0 0] 27 (0, 0))) := ⟨(hb16.block _ (Array.getElem?_eq_some_iff.1 HX14.out.1).1).trans HX14.out.1, (hb16.block _ (Array.getElem?_eq_some_iff.1 HX14.out.2).1).trans HX14.out.2⟩
    have HB16 := hidF (blFl HB14.out hb16 HB14.out.size)
    have hz4 := HX16.out.2
    have hb7 := HB16.out
    have HB9 : Hid (Below w.heap.size w (set3b w16 rk (.slice x1 M13.length y1) (.slice x2 S.length y2) (.slice x3 R13.length y3))) := ((hb7.setCell (p := ⟨rk, 0, none⟩) HRK.out _).setCell (p := ⟨rk, 1, none⟩) HRK.out _).setCell (p := ⟨rk, 2, none⟩) HRK.out _
    have HR9 : Hid ((set3b w16 rk (.slice x1 M13.length y1) (.slice x2 S.length y2) (.slice x3 R13.length y3)).heap[rk]? = some (.cells #[.slice x1 M13.length y1, .slice x2 S.length y2, .slice x3 R13.length y3] 27 (0, 0))) := heap_setCell_same _ _ _ _ _ _ (heap_setCell_same _ _ _ _ _ _ (heap_setCell_same _ _ _ _ _ _ hz4))
    have HO9 : Hid (FlV (set3b w16 rk (.slice x1 M13.length y1) (.slice x2 S.length y2) (.slice x3 R13.length y3)) (.slice x1 M13.length y1) M13 ∧ FlV (set3b w16 rk (.slice x1 M13.length y1) (.slice x2 S.length y2) (.slice x3 R13.length y3)) (.slice x2 S.length y2) S ∧ DqV (set3b w16 rk (.slice x1 M13.length y1) (.slice x2 S.length y2) (.slice x3 R13.length y3)) (.slice x3 R13.length y3) R13) := ⟨(t1.set3b hz4).1, (t2.set3b hz4).1, DqV.of_own (own_set3b t3 hz4 (by decide))⟩
    have z0 := cell_of_row _ _ 0 _ _ _ hz4
    have z1 := cell_of_row _ _ 1 _ _ _ hz4
    have z2 := cell_of_row _ _ 2 _ _ _ hz4
    have f0 := frozen_of_row _ _ 0 _ _ hz4
    have f1 := frozen_of_row _ _ 1 _ _ hz4
    have f2 := frozen_of_row _ _ 2 _ _ hz4
    clear hb16 t1 t2 t3 hz4 hb7
    go_wp2_with fail
    exact bodyPost_ret (results_cell_t rfl _ _ rk 27 #[.slice x1 M13.length y1, .slice x2 S.length y2, .slice x3 R13.length y3] (0, 0) _ rfl HR9.out Try.underlying27 rfl (by kernel_rfl)) rfl ⟨by rw [HE.out]; exact ⟨_, _, _, rfl, HO9.out⟩, HB9.out⟩
  · have hP := HPP.out
    have HAC3 : Hid (actsF L O P = actsF L O ([⟨3, fr, ⟨#[]⟩, ⟨#[]⟩⟩, ⟨1, fr, ⟨#[]⟩, d⟩, ⟨2, fr, s, ⟨#[]⟩⟩] : List DqI)) := by show _ = _; rw [hP]; unfold rpP; rw [hf]; rfl
    have hi0 : (0 : Int) ≤ (i : Int) := by omega
    clear hf hP hat hi hfa
    have HCX := hidF (HACT.out _ _ _ L O 3 fr ⟨#[]⟩ ⟨#[]⟩ w4 HD0.out HQ3.out HZ.out.1 HZ.out.2.2.1 HZ.out.2.2.1 HV3.out.1 HV3.out.2.1 HV3.out.2.2)
    go_wp2_with (refine wpList_load_row rfl 27 _ rfl nk rfl 27 #[.slice al L.length cl, .slice a2 S.length cs, .slice ao O.length co] (0, 0) _ HN3.out Try.underlying27 rfl (by kernel_rfl) ?_)
    refine HCX.out.mono ?_
    skip
    rintro e w17 ⟨⟨u1, u2, u3, rfl, t1, t2, t3⟩, hb17⟩
    have HGO : Hid (codeF L O.length ⟨3, fr, ⟨#[]⟩, ⟨#[]⟩⟩ = 0 → diskP (actL L O.length ⟨3, fr, ⟨#[]⟩, ⟨#[]⟩⟩) S (actO L O ⟨3, fr, ⟨#[]⟩, ⟨#[]⟩⟩) ∧ actsF L O P = actsF (actL L O.length ⟨3, fr, ⟨#[]⟩, ⟨#[]⟩⟩) (actO L O ⟨3, fr, ⟨#[]⟩, ⟨#[]⟩⟩) ([⟨1, fr, ⟨#[]⟩, d⟩, ⟨2, fr, s, ⟨#[]⟩⟩] : List DqI)) := fun h => ⟨(act_go HD0.out h).1, by rw [HAC3.out]; exact (act_go HD0.out h).2 _⟩
    have HNG : Hid (codeF L O.length ⟨3, fr, ⟨#[]⟩, ⟨#[]⟩⟩ ≠ 0 → doA L S O P = ⟨L, S, O, codeF L O.length ⟨3, fr, ⟨#[]⟩, ⟨#[]⟩⟩⟩) := fun h => by
      have h1 : (actsF L O P).1 = codeF L O.length ⟨3, fr, ⟨#[]⟩, ⟨#[]⟩⟩ := by rw [HAC3.out, acts_no h]
      rw [doA_no HD0.out (by rw [h1]; exact h), h1]
    have HQ17 : Hid (DqLe (actO L O ⟨3, fr, ⟨#[]⟩, ⟨#[]⟩⟩)) := actO_le HD0.out HQ3.out HZ.out.1 HZ.out.2.2.1 HZ.out.2.2.1
    generalize actL L O.length ⟨3, fr, ⟨#[]⟩, ⟨#[]⟩⟩ = M17 at t1 HGO
    generalize actO L O ⟨3, fr, ⟨#[]⟩, ⟨#[]⟩⟩ = R17 at t3 HGO HQ17
    generalize codeF L O.length ⟨3, fr, ⟨#[]⟩, ⟨#[]⟩⟩ = c17 at HGO HNG
    obtain ⟨x17, y17, rfl⟩ := t1.slice
    obtain ⟨xx17, yy17, rfl⟩ := t2.slice
    obtain ⟨xz17, yz17, rfl⟩ := t3.slice
    have hbx := (hb17.block _ (Array.getElem?_eq_some_iff.1 HX3.out.1).1).trans HX3.out.1
    have hrx := (hb17.block _ (Array.getElem?_eq_some_iff.1 HX3.out.2).1).trans HX3.out.2
    have hnx := (hb17.block _ (Array.getElem?_eq_some_iff.1 HN3.out).1).trans HN3.out
    have hbb := blFl HB3.out hb17 HB3.out.size
    have HX18 : Hid ((set3b w17 nk (.slice x17 M17.length y17) (.slice xx17 S.length yy17) (.slice xz17 R17.length yz17)).heap[bk]? = some (.cells #[.slice al L.length cl, .slice a2 S.length cs, .slice ao O.length co] 27 (0, 0)) ∧ (set3b w17 nk (.slice x17 M17.length y17) (.slice xx17 S.length yy17) (.slice xz17 R17.length yz17)).heap[rk]? = some (.cells #[.slice none 0 0, .slice none 0 0, .slice none 0 0] 27 (0, 0))) := ⟨(set3b_other _ _ _ HNE.out.1).trans hbx, (set3b_other _ _ _ HNE.out.2.1).trans hrx⟩
    have HN18 : Hid ((set3b w17 nk (.slice x17 M17.length y17) (.slice xx17 S.length yy17) (.slice xz17 R17.length yz17)).heap[nk]? = some (.cells #[.slice x17 M17.length y17, .slice xx17 S.length yy17, .slice xz17 R17.length yz17] 27 (0, 0))) := heap_setCell_same _ _ _ _ _ _ (heap_setCell_same _ _ _ _ _ _ (heap_setCell_same _ _ _ _ _ _ hnx))
    have HB18 : Hid (Below w.heap.size w (set3b w17 nk (.slice x17 M17.length y17) (.slice xx17 S.length yy17) (.slice xz17 R17.length yz17))) := ((hbb.setCell (p := ⟨nk, 0, none⟩) HNE.out.2.2 _).setCell (p := ⟨nk, 1, none⟩) HNE.out.2.2 _).setCell (p := ⟨nk, 2, none⟩) HNE.out.2.2 _
    have HV18 : Hid (FlV (set3b w17 nk (.slice x17 M17.length y17) (.slice xx17 S.length yy17) (.slice xz17 R17.length yz17)) (.slice x17 M17.length y17) M17 ∧ FlV (set3b w17 nk (.slice x17 M17.length y17) (.slice xx17 S.length yy17) (.slice xz17 R17.length yz17)) (.slice xx17 S.length yy17) S ∧ DqV (set3b w17 nk (.slice x17 M17.length y17) (.slice xx17 S.length yy17) (.slice xz17 R17.length yz17)) (.slice xz17 R17.length yz17) R17) := ⟨t1.set3b hnx, t2.set3b hnx, t3.set3b hnx⟩
    have z0 := cell_of_row _ _ 0 _ _ _ hnx
    have z1 := cell_of_row _ _ 1 _ _ _ hnx
    have z2 := cell_of_row _ _ 2 _ _ _ hnx
    have f0 := frozen_of_row _ _ 0 _ _ hnx
    have f1 := frozen_of_row _ _ 1 _ _ hnx
    have f2 := frozen_of_row _ _ 2 _ _ hnx
    clear hb17 t1 t2 t3 hbx hrx hnx hbb HCX HX3 HN3 HB3 HV3
    by_cases hc : c17 = 0
    rotate_left
    · have HE := hidF (HNG.out hc)
      have hcb : (c17 != 0) = true := by rw [bne_iff_ne]; exact hc
      have hcb2 : (c17 == 0) = false := beq_eq_false_iff_ne.2 hc
      have HCX := hidF (HCP.out _ _ _ L O (set3b w17 nk (.slice x17 M17.length y17) (.slice xx17 S.length yy17) (.slice xz17 R17.length yz17)) HLE.out.1 HLE.out.2 (HV0.out _ HB18.out).1 (HV0.out _ HB18.out).2.1 (HV0.out _ HB18.out).2.2)
      clear hc HGO HNG
      go_wp2_with (refine wpList_load_row rfl 27 _ rfl bk rfl 27 #[.slice al L.length cl, .slice a2 S.length cs, .slice ao O.length co] (0, 0) _ HX18.out.1 Try.underlying27 rfl (by kernel_rfl) ?_)
      refine HCX.out.mono ?_
      clear z0 z1 z2 f0 f1 f2
      rintro e w19 ⟨⟨u1, u2, u3, rfl, t1, t2, t3⟩, hb19⟩
      obtain ⟨x1, y1, rfl⟩ := t1.slice
      obtain ⟨x2, y2, rfl⟩ := t2.slice
      obtain ⟨x3, y3, rfl⟩ := ownQ_slice t3
      have HX19 : Hid (w19.heap[bk]? = some (.cells #[.slice al L.length cl, .slice a2 S.length cs, .slice ao O.length co] 27 (0, 0)) ∧ w19.heap[rk]? = some (.cells #[.slice none 0 0, .slice none 0 0, .slice none 0 0] 27 (0, 0))) := ⟨(hb19.block _ (Array.getElem?_eq_some_iff.1 HX18.out.1).1).trans HX18.out.1, (hb19.block _ (Array.getElem?_eq_some_iff.1 HX18.out.2).1).trans HX18.out.2⟩
      have HB19 := hidF (blFl HB18.out hb19 HB18.out.size)
      have hz4 := HX19.out.2
      have hb7 := HB19.out
      have HB9 : Hid (Below w.heap.size w (set3b w19 rk (.slice x1 L.length y1) (.slice x2 S.length y2) (.slice x3 O.length y3))) := ((hb7.setCell (p := ⟨rk, 0, none⟩) HRK.out _).setCell (p := ⟨rk, 1, none⟩) HRK.out _).setCell (p := ⟨rk, 2, none⟩) HRK.out _
      have HR9 : Hid ((set3b w19 rk (.slice x1 L.length y1) (.slice x2 S.length y2) (.slice x3 O.length y3)).heap[rk]? = some (.cells #[.slice x1 L.length y1, .slice x2 S.length y2, .slice x3 O.length y3] 27 (0, 0))) := heap_setCell_same _ _ _ _ _ _ (heap_setCell_same _ _ _ _ _ _ (heap_setCell_same _ _ _ _ _ _ hz4))
      have HO9 : Hid (FlV (set3b w19 rk (.slice x1 L.length y1) (.slice x2 S.length y2) (.slice x3 O.length y3)) (.slice x1 L.length y1) L ∧ FlV (set3b w19 rk (.slice x1 L.length y1) (.slice x2 S.length y2) (.slice x3 O.length y3)) (.slice x2 S.length y2) S ∧ DqV (set3b w19 rk (.slice x1 L.length y1) (.slice x2 S.length y2) (.slice x3 O.length y3)) (.slice x3 O.length y3) O) := ⟨(t1.set3b hz4).1, (t2.set3b hz4).1, DqV.of_own (own_set3b t3 hz4 (by decide))⟩
      have z0 := cell_of_row _ _ 0 _ _ _ hz4
      have z1 := cell_of_row _ _ 1 _ _ _ hz4
      have z2 := cell_of_row _ _ 2 _ _ _ hz4
      have f0 := frozen_of_row _ _ 0 _ _ hz4
      have f1 := frozen_of_row _ _ 1 _ _ hz4
      have f2 := frozen_of_row _ _ 2 _ _ hz4
      clear hb19 t1 t2 t3 hz4 hb7
      go_wp2_with fail
      exact bodyPost_ret (results_cell_t rfl _ _ rk 27 #[.slice x1 L.length y1, .slice x2 S.length y2, .slice x3 O.length y3] (0, 0) _ rfl HR9.out Try.underlying27 rfl (by kernel_rfl)) rfl ⟨by rw [HE.out]; exact ⟨_, _, _, rfl, HO9.out⟩, HB9.out⟩
    have HD18 := hidF (HGO.out hc).1
    have HAC18 := hidF (HGO.out hc).2
    subst hc
    clear HGO HNG
    have HCX := hidF (HACT.out _ _ _ M17 R17 1 fr ⟨#[]⟩ d (set3b w17 nk (.slice x17 M17.length y17) (.slice xx17 S.length yy17) (.slice xz17 R17.length yz17)) HD18.out HQ17.out HZ.out.1 HZ.out.2.2.1 HZ.out.2.2.2 HV18.out.1 HV18.out.2.1 HV18.out.2.2)
    go_wp2_with (refine wpList_load_row rfl 27 _ rfl nk rfl 27 #[.slice x17 M17.length y17, .slice xx17 S.length yy17, .slice xz17 R17.length yz17] (0, 0) _ HN18.out Try.underlying27 rfl (by kernel_rfl) ?_)
    refine HCX.out.mono ?_
    clear z0 z1 z2 f0 f1 f2
    rintro e w20 ⟨⟨u1, u2, u3, rfl, t1, t2, t3⟩, hb20⟩
    have HGO : Hid (codeF M17 R17.length ⟨1, fr, ⟨#[]⟩, d⟩ = 0 → diskP (actL M17 R17.length ⟨1, fr, ⟨#[]⟩, d⟩) S (actO M17 R17 ⟨1, fr, ⟨#[]⟩, d⟩) ∧ actsF L O P = actsF (actL M17 R17.length ⟨1, fr, ⟨#[]⟩, d⟩) (actO M17 R17 ⟨1, fr, ⟨#[]⟩, d⟩) ([⟨2, fr, s, ⟨#[]⟩⟩] : List DqI)) := fun h => ⟨(act_go HD18.out h).1, by rw [HAC18.out]; exact (act_go HD18.out h).2 _⟩
    have HNG : Hid (codeF M17 R17.length ⟨1, fr, ⟨#[]⟩, d⟩ ≠ 0 → doA L S O P = ⟨L, S, O, codeF M17 R17.length ⟨1, fr, ⟨#[]⟩, d⟩⟩) := fun h => by
      have h1 : (actsF L O P).1 = codeF M17 R17.length ⟨1, fr, ⟨#[]⟩, d⟩ := by rw [HAC18.out, acts_no h]
      rw [doA_no HD0.out (by rw [h1]; exact h), h1]
    have HQ20 : Hid (DqLe (actO M17 R17 ⟨1, fr, ⟨#[]⟩, d⟩)) := actO_le HD18.out HQ17.out HZ.out.1 HZ.out.2.2.1 HZ.out.2.2.2
    generalize actL M17 R17.length ⟨1, fr, ⟨#[]⟩, d⟩ = M20 at t1 HGO
    generalize actO M17 R17 ⟨1, fr, ⟨#[]⟩, d⟩ = R20 at t3 HGO HQ20
    generalize codeF M17 R17.length ⟨1, fr, ⟨#[]⟩, d⟩ = c20 at HGO HNG
    obtain ⟨x20, y20, rfl⟩ := t1.slice
    obtain ⟨xx20, yy20, rfl⟩ := t2.slice
    obtain ⟨xz20, yz20, rfl⟩ := t3.slice
    have hbx := (hb20.block _ (Array.getElem?_eq_some_iff.1 HX18.out.1).1).trans HX18.out.1
    have hrx := (hb20.block _ (Array.getElem?_eq_some_iff.1 HX18.out.2).1).trans HX18.out.2
    have hnx := (hb20.block _ (Array.getElem?_eq_some_iff.1 HN18.out).1).trans HN18.out
    have hbb := blFl HB18.out hb20 HB18.out.size
    have HX21 : Hid ((set3b w20 nk (.slice x20 M20.length y20) (.slice xx20 S.length yy20) (.slice xz20 R20.length yz20)).heap[bk]? = some (.cells #[.slice al L.length cl, .slice a2 S.length cs, .slice ao O.length co] 27 (0, 0)) ∧ (set3b w20 nk (.slice x20 M20.length y20) (.slice xx20 S.length yy20) (.slice xz20 R20.length yz20)).heap[rk]? = some (.cells #[.slice none 0 0, .slice none 0 0, .slice none 0 0] 27 (0, 0))) := ⟨(set3b_other _ _ _ HNE.out.1).trans hbx, (set3b_other _ _ _ HNE.out.2.1).trans hrx⟩
    have HN21 : Hid ((set3b w20 nk (.slice x20 M20.length y20) (.slice xx20 S.length yy20) (.slice xz20 R20.length yz20)).heap[nk]? = some (.cells #[.slice x20 M20.length y20, .slice xx20 S.length yy20, .slice xz20 R20.length yz20] 27 (0, 0))) := heap_setCell_same _ _ _ _ _ _ (heap_setCell_same _ _ _ _ _ _ (heap_setCell_same _ _ _ _ _ _ hnx))
    have HB21 : Hid (Below w.heap.size w (set3b w20 nk (.slice x20 M20.length y20) (.slice xx20 S.length yy20) (.slice xz20 R20.length yz20))) := ((hbb.setCell (p := ⟨nk, 0, none⟩) HNE.out.2.2 _).setCell (p := ⟨nk, 1, none⟩) HNE.out.2.2 _).setCell (p := ⟨nk, 2, none⟩) HNE.out.2.2 _
    have HV21 : Hid (FlV (set3b w20 nk (.slice x20 M20.length y20) (.slice xx20 S.length yy20) (.slice xz20 R20.length yz20)) (.slice x20 M20.length y20) M20 ∧ FlV (set3b w20 nk (.slice x20 M20.length y20) (.slice xx20 S.length yy20) (.slice xz20 R20.length yz20)) (.slice xx20 S.length yy20) S ∧ DqV (set3b w20 nk (.slice x20 M20.length y20) (.slice xx20 S.length yy20) (.slice xz20 R20.length yz20)) (.slice xz20 R20.length yz20) R20) := ⟨t1.set3b hnx, t2.set3b hnx, t3.set3b hnx⟩
    have z0 := cell_of_row _ _ 0 _ _ _ hnx
    have z1 := cell_of_row _ _ 1 _ _ _ hnx
    have z2 := cell_of_row _ _ 2 _ _ _ hnx
    have f0 := frozen_of_row _ _ 0 _ _ hnx
    have f1 := frozen_of_row _ _ 1 _ _ hnx
    have f2 := frozen_of_row _ _ 2 _ _ hnx
    clear hb20 t1 t2 t3 hbx hrx hnx hbb HCX HX18 HN18 HB18 HV18
    by_cases hc : c20 = 0
    rotate_left
    · have HE := hidF (HNG.out hc)
      have hcb : (c20 != 0) = true := by rw [bne_iff_ne]; exact hc
      have hcb2 : (c20 == 0) = false := beq_eq_false_iff_ne.2 hc
      have HCX := hidF (HCP.out _ _ _ L O (set3b w20 nk (.slice x20 M20.length y20) (.slice xx20 S.length yy20) (.slice xz20 R20.length yz20)) HLE.out.1 HLE.out.2 (HV0.out _ HB21.out).1 (HV0.out _ HB21.out).2.1 (HV0.out _ HB21.out).2.2)
      clear hc HGO HNG
      go_wp2_with (refine wpList_load_row rfl 27 _ rfl bk rfl 27 #[.slice al L.length cl, .slice a2 S.length cs, .slice ao O.length co] (0, 0) _ HX21.out.1 Try.underlying27 rfl (by kernel_rfl) ?_)
      refine HCX.out.mono ?_
      clear z0 z1 z2 f0 f1 f2
      rintro e w22 ⟨⟨u1, u2, u3, rfl, t1, t2, t3⟩, hb22⟩
      obtain ⟨x1, y1, rfl⟩ := t1.slice
      obtain ⟨x2, y2, rfl⟩ := t2.slice
      obtain ⟨x3, y3, rfl⟩ := ownQ_slice t3
      have HX22 : Hid (w22.heap[bk]? = some (.cells #[.slice al L.length cl, .slice a2 S.length cs, .slice ao O.length co] 27 (0, 0)) ∧ w22.heap[rk]? = some (.cells #[.slice none 0 0, .slice none 0 0, .slice none 0 0] 27 (0, 0))) := ⟨(hb22.block _ (Array.getElem?_eq_some_iff.1 HX21.out.1).1).trans HX21.out.1, (hb22.block _ (Array.getElem?_eq_some_iff.1 HX21.out.2).1).trans HX21.out.2⟩
      have HB22 := hidF (blFl HB21.out hb22 HB21.out.size)
      have hz4 := HX22.out.2
      have hb7 := HB22.out
      have HB9 : Hid (Below w.heap.size w (set3b w22 rk (.slice x1 L.length y1) (.slice x2 S.length y2) (.slice x3 O.length y3))) := ((hb7.setCell (p := ⟨rk, 0, none⟩) HRK.out _).setCell (p := ⟨rk, 1, none⟩) HRK.out _).setCell (p := ⟨rk, 2, none⟩) HRK.out _
      have HR9 : Hid ((set3b w22 rk (.slice x1 L.length y1) (.slice x2 S.length y2) (.slice x3 O.length y3)).heap[rk]? = some (.cells #[.slice x1 L.length y1, .slice x2 S.length y2, .slice x3 O.length y3] 27 (0, 0))) := heap_setCell_same _ _ _ _ _ _ (heap_setCell_same _ _ _ _ _ _ (heap_setCell_same _ _ _ _ _ _ hz4))
      have HO9 : Hid (FlV (set3b w22 rk (.slice x1 L.length y1) (.slice x2 S.length y2) (.slice x3 O.length y3)) (.slice x1 L.length y1) L ∧ FlV (set3b w22 rk (.slice x1 L.length y1) (.slice x2 S.length y2) (.slice x3 O.length y3)) (.slice x2 S.length y2) S ∧ DqV (set3b w22 rk (.slice x1 L.length y1) (.slice x2 S.length y2) (.slice x3 O.length y3)) (.slice x3 O.length y3) O) := ⟨(t1.set3b hz4).1, (t2.set3b hz4).1, DqV.of_own (own_set3b t3 hz4 (by decide))⟩
      have z0 := cell_of_row _ _ 0 _ _ _ hz4
      have z1 := cell_of_row _ _ 1 _ _ _ hz4
      have z2 := cell_of_row _ _ 2 _ _ _ hz4
      have f0 := frozen_of_row _ _ 0 _ _ hz4
      have f1 := frozen_of_row _ _ 1 _ _ hz4
      have f2 := frozen_of_row _ _ 2 _ _ hz4
      clear hb22 t1 t2 t3 hz4 hb7
      go_wp2_with fail
      exact bodyPost_ret (results_cell_t rfl _ _ rk 27 #[.slice x1 L.length y1, .slice x2 S.length y2, .slice x3 O.length y3] (0, 0) _ rfl HR9.out Try.underlying27 rfl (by kernel_rfl)) rfl ⟨by rw [HE.out]; exact ⟨_, _, _, rfl, HO9.out⟩, HB9.out⟩
    have HD21 := hidF (HGO.out hc).1
    have HAC21 := hidF (HGO.out hc).2
    subst hc
    clear HGO HNG
    have HCX := hidF (HACT.out _ _ _ M20 R20 2 fr s ⟨#[]⟩ (set3b w20 nk (.slice x20 M20.length y20) (.slice xx20 S.length yy20) (.slice xz20 R20.length yz20)) HD21.out HQ20.out HZ.out.1 HZ.out.2.1 HZ.out.2.2.1 HV21.out.1 HV21.out.2.1 HV21.out.2.2)
    go_wp2_with (refine wpList_load_row rfl 27 _ rfl nk rfl 27 #[.slice x20 M20.length y20, .slice xx20 S.length yy20, .slice xz20 R20.length yz20] (0, 0) _ HN21.out Try.underlying27 rfl (by kernel_rfl) ?_)
    refine HCX.out.mono ?_
    clear z0 z1 z2 f0 f1 f2
    rintro e w23 ⟨⟨u1, u2, u3, rfl, t1, t2, t3⟩, hb23⟩
    have HGO : Hid (codeF M20 R20.length ⟨2, fr, s, ⟨#[]⟩⟩ = 0 → diskP (actL M20 R20.length ⟨2, fr, s, ⟨#[]⟩⟩) S (actO M20 R20 ⟨2, fr, s, ⟨#[]⟩⟩) ∧ actsF L O P = actsF (actL M20 R20.length ⟨2, fr, s, ⟨#[]⟩⟩) (actO M20 R20 ⟨2, fr, s, ⟨#[]⟩⟩) ([] : List DqI)) := fun h => ⟨(act_go HD21.out h).1, by rw [HAC21.out]; exact (act_go HD21.out h).2 _⟩
    have HNG : Hid (codeF M20 R20.length ⟨2, fr, s, ⟨#[]⟩⟩ ≠ 0 → doA L S O P = ⟨L, S, O, codeF M20 R20.length ⟨2, fr, s, ⟨#[]⟩⟩⟩) := fun h => by
      have h1 : (actsF L O P).1 = codeF M20 R20.length ⟨2, fr, s, ⟨#[]⟩⟩ := by rw [HAC21.out, acts_no h]
      rw [doA_no HD0.out (by rw [h1]; exact h), h1]
    have HQ23 : Hid (DqLe (actO M20 R20 ⟨2, fr, s, ⟨#[]⟩⟩)) := actO_le HD21.out HQ20.out HZ.out.1 HZ.out.2.1 HZ.out.2.2.1
    generalize actL M20 R20.length ⟨2, fr, s, ⟨#[]⟩⟩ = M23 at t1 HGO
    generalize actO M20 R20 ⟨2, fr, s, ⟨#[]⟩⟩ = R23 at t3 HGO HQ23
    generalize codeF M20 R20.length ⟨2, fr, s, ⟨#[]⟩⟩ = c23 at HGO HNG
    obtain ⟨x23, y23, rfl⟩ := t1.slice
    obtain ⟨xx23, yy23, rfl⟩ := t2.slice
    obtain ⟨xz23, yz23, rfl⟩ := t3.slice
    have hbx := (hb23.block _ (Array.getElem?_eq_some_iff.1 HX21.out.1).1).trans HX21.out.1
    have hrx := (hb23.block _ (Array.getElem?_eq_some_iff.1 HX21.out.2).1).trans HX21.out.2
    have hnx := (hb23.block _ (Array.getElem?_eq_some_iff.1 HN21.out).1).trans HN21.out
    have hbb := blFl HB21.out hb23 HB21.out.size
    have HX24 : Hid ((set3b w23 nk (.slice x23 M23.length y23) (.slice xx23 S.length yy23) (.slice xz23 R23.length yz23)).heap[bk]? = some (.cells #[.slice al L.length cl, .slice a2 S.length cs, .slice ao O.length co] 27 (0, 0)) ∧ (set3b w23 nk (.slice x23 M23.length y23) (.slice xx23 S.length yy23) (.slice xz23 R23.length yz23)).heap[rk]? = some (.cells #[.slice none 0 0, .slice none 0 0, .slice none 0 0] 27 (0, 0))) := ⟨(set3b_other _ _ _ HNE.out.1).trans hbx, (set3b_other _ _ _ HNE.out.2.1).trans hrx⟩
    have HN24 : Hid ((set3b w23 nk (.slice x23 M23.length y23) (.slice xx23 S.length yy23) (.slice xz23 R23.length yz23)).heap[nk]? = some (.cells #[.slice x23 M23.length y23, .slice xx23 S.length yy23, .slice xz23 R23.length yz23] 27 (0, 0))) := heap_setCell_same _ _ _ _ _ _ (heap_setCell_same _ _ _ _ _ _ (heap_setCell_same _ _ _ _ _ _ hnx))
    have HB24 : Hid (Below w.heap.size w (set3b w23 nk (.slice x23 M23.length y23) (.slice xx23 S.length yy23) (.slice xz23 R23.length yz23))) := ((hbb.setCell (p := ⟨nk, 0, none⟩) HNE.out.2.2 _).setCell (p := ⟨nk, 1, none⟩) HNE.out.2.2 _).setCell (p := ⟨nk, 2, none⟩) HNE.out.2.2 _
    have HV24 : Hid (FlV (set3b w23 nk (.slice x23 M23.length y23) (.slice xx23 S.length yy23) (.slice xz23 R23.length yz23)) (.slice x23 M23.length y23) M23 ∧ FlV (set3b w23 nk (.slice x23 M23.length y23) (.slice xx23 S.length yy23) (.slice xz23 R23.length yz23)) (.slice xx23 S.length yy23) S ∧ DqV (set3b w23 nk (.slice x23 M23.length y23) (.slice xx23 S.length yy23) (.slice xz23 R23.length yz23)) (.slice xz23 R23.length yz23) R23) := ⟨t1.set3b hnx, t2.set3b hnx, t3.set3b hnx⟩
    have z0 := cell_of_row _ _ 0 _ _ _ hnx
    have z1 := cell_of_row _ _ 1 _ _ _ hnx
    have z2 := cell_of_row _ _ 2 _ _ _ hnx
    have f0 := frozen_of_row _ _ 0 _ _ hnx
    have f1 := frozen_of_row _ _ 1 _ _ hnx
    have f2 := frozen_of_row _ _ 2 _ _ hnx
    clear hb23 t1 t2 t3 hbx hrx hnx hbb HCX HX21 HN21 HB21 HV21
    by_cases hc : c23 = 0
    rotate_left
    · have HE := hidF (HNG.out hc)
      have hcb : (c23 != 0) = true := by rw [bne_iff_ne]; exact hc
      have hcb2 : (c23 == 0) = false := beq_eq_false_iff_ne.2 hc
      have HCX := hidF (HCP.out _ _ _ L O (set3b w23 nk (.slice x23 M23.length y23) (.slice xx23 S.length yy23) (.slice xz23 R23.length yz23)) HLE.out.1 HLE.out.2 (HV0.out _ HB24.out).1 (HV0.out _ HB24.out).2.1 (HV0.out _ HB24.out).2.2)
      clear hc HGO HNG
      go_wp2_with (refine wpList_load_row rfl 27 _ rfl bk rfl 27 #[.slice al L.length cl, .slice a2 S.length cs, .slice ao O.length co] (0, 0) _ HX24.out.1 Try.underlying27 rfl (by kernel_rfl) ?_)
      refine HCX.out.mono ?_
      clear z0 z1 z2 f0 f1 f2
      rintro e w25 ⟨⟨u1, u2, u3, rfl, t1, t2, t3⟩, hb25⟩
      obtain ⟨x1, y1, rfl⟩ := t1.slice
      obtain ⟨x2, y2, rfl⟩ := t2.slice
      obtain ⟨x3, y3, rfl⟩ := ownQ_slice t3
      have HX25 : Hid (w25.heap[bk]? = some (.cells #[.slice al L.length cl, .slice a2 S.length cs, .slice ao O.length co] 27 (0, 0)) ∧ w25.heap[rk]? = some (.cells #[.slice none 0 0, .slice none 0 0, .slice none 0 0] 27 (0, 0))) := ⟨(hb25.block _ (Array.getElem?_eq_some_iff.1 HX24.out.1).1).trans HX24.out.1, (hb25.block _ (Array.getElem?_eq_some_iff.1 HX24.out.2).1).trans HX24.out.2⟩
      have HB25 := hidF (blFl HB24.out hb25 HB24.out.size)
      have hz4 := HX25.out.2
      have hb7 := HB25.out
      have HB9 : Hid (Below w.heap.size w (set3b w25 rk (.slice x1 L.length y1) (.slice x2 S.length y2) (.slice x3 O.length y3))) := ((hb7.setCell (p := ⟨rk, 0, none⟩) HRK.out _).setCell (p := ⟨rk, 1, none⟩) HRK.out _).setCell (p := ⟨rk, 2, none⟩) HRK.out _
      have HR9 : Hid ((set3b w25 rk (.slice x1 L.length y1) (.slice x2 S.length y2) (.slice x3 O.length y3)).heap[rk]? = some (.cells #[.slice x1 L.length y1, .slice x2 S.length y2, .slice x3 O.length y3] 27 (0, 0))) := heap_setCell_same _ _ _ _ _ _ (heap_setCell_same _ _ _ _ _ _ (heap_setCell_same _ _ _ _ _ _ hz4))
      have HO9 : Hid (FlV (set3b w25 rk (.slice x1 L.length y1) (.slice x2 S.length y2) (.slice x3 O.length y3)) (.slice x1 L.length y1) L ∧ FlV (set3b w25 rk (.slice x1 L.length y1) (.slice x2 S.length y2) (.slice x3 O.length y3)) (.slice x2 S.length y2) S ∧ DqV (set3b w25 rk (.slice x1 L.length y1) (.slice x2 S.length y2) (.slice x3 O.length y3)) (.slice x3 O.length y3) O) := ⟨(t1.set3b hz4).1, (t2.set3b hz4).1, DqV.of_own (own_set3b t3 hz4 (by decide))⟩
      have z0 := cell_of_row _ _ 0 _ _ _ hz4
      have z1 := cell_of_row _ _ 1 _ _ _ hz4
      have z2 := cell_of_row _ _ 2 _ _ _ hz4
      have f0 := frozen_of_row _ _ 0 _ _ hz4
      have f1 := frozen_of_row _ _ 1 _ _ hz4
      have f2 := frozen_of_row _ _ 2 _ _ hz4
      clear hb25 t1 t2 t3 hz4 hb7
      go_wp2_with fail
      exact bodyPost_ret (results_cell_t rfl _ _ rk 27 #[.slice x1 L.length y1, .slice x2 S.length y2, .slice x3 O.length y3] (0, 0) _ rfl HR9.out Try.underlying27 rfl (by kernel_rfl)) rfl ⟨by rw [HE.out]; exact ⟨_, _, _, rfl, HO9.out⟩, HB9.out⟩
    have HD24 := hidF (HGO.out hc).1
    have HAC24 := hidF (HGO.out hc).2
    subst hc
    clear HGO HNG
    have HE : Hid (doA L S O P = ⟨M23, S, R23, 0⟩) := by
      have h0 : actsF L O P = (0, M23, R23) := by rw [HAC24.out]; rfl
      show _ = _
      rw [doA_yes HD0.out (by rw [h0]), h0]
    have HCX := hidF (HCP.out _ _ _ M23 R23 (set3b w23 nk (.slice x23 M23.length y23) (.slice xx23 S.length yy23) (.slice xz23 R23.length yz23)) HD24.out.live.le HQ23.out HV24.out.1 HV24.out.2.1 HV24.out.2.2)
    go_wp2_with (refine wpList_load_row rfl 27 _ rfl nk rfl 27 #[.slice x23 M23.length y23, .slice xx23 S.length yy23, .slice xz23 R23.length yz23] (0, 0) _ HN24.out Try.underlying27 rfl (by kernel_rfl) ?_)
    refine HCX.out.mono ?_
    clear z0 z1 z2 f0 f1 f2
    rintro e w26 ⟨⟨u1, u2, u3, rfl, t1, t2, t3⟩, hb26⟩
    obtain ⟨x1, y1, rfl⟩ := t1.slice
    obtain ⟨x2, y2, rfl⟩ := t2.slice
    obtain ⟨x3, y3, rfl⟩ := ownQ_slice t3
    have HX26 : Hid (w26.heap[bk]? = some (.cells #[.slice al L.length cl, .slice a2 S.length cs, .slice ao O.length co] 27 (0, 0)) ∧ w26.heap[rk]? = some (.cells #[.slice none 0 0, .slice none 0 0, .slice none 0 0] 27 (0, 0))) := ⟨(hb26.block _ (Array.getElem?_eq_some_iff.1 HX24.out.1).1).trans HX24.out.1, (hb26.block _ (Array.getElem?_eq_some_iff.1 HX24.out.2).1).trans HX24.out.2⟩
    have HB26 := hidF (blFl HB24.out hb26 HB24.out.size)
    have hz4 := HX26.out.2
    have hb7 := HB26.out
    have HB9 : Hid (Below w.heap.size w (set3b w26 rk (.slice x1 M23.length y1) (.slice x2 S.length y2) (.slice x3 R23.length y3))) := ((hb7.setCell (p := ⟨rk, 0, none⟩) HRK.out _).setCell (p := ⟨rk, 1, none⟩) HRK.out _).setCell (p := ⟨rk, 2, none⟩) HRK.out _
    have HR9 : Hid ((set3b w26 rk (.slice x1 M23.length y1) (.slice x2 S.length y2) (.slice x3 R23.length y3)).heap[rk]? = some (.cells #[.slice x1 M23.length y1, .slice x2 S.length y2, .slice x3 R23.length y3] 27 (0, 0))) := heap_setCell_same _ _ _ _ _ _ (heap_setCell_same _ _ _ _ _ _ (heap_setCell_same _ _ _ _ _ _ hz4))
    have HO9 : Hid (FlV (set3b w26 rk (.slice x1 M23.length y1) (.slice x2 S.length y2) (.slice x3 R23.length y3)) (.slice x1 M23.length y1) M23 ∧ FlV (set3b w26 rk (.slice x1 M23.length y1) (.slice x2 S.length y2) (.slice x3 R23.length y3)) (.slice x2 S.length y2) S ∧ DqV (set3b w26 rk (.slice x1 M23.length y1) (.slice x2 S.length y2) (.slice x3 R23.length y3)) (.slice x3 R23.length y3) R23) := ⟨(t1.set3b hz4).1, (t2.set3b hz4).1, DqV.of_own (own_set3b t3 hz4 (by decide))⟩
    have z0 := cell_of_row _ _ 0 _ _ _ hz4
    have z1 := cell_of_row _ _ 1 _ _ _ hz4
    have z2 := cell_of_row _ _ 2 _ _ _ hz4
    have f0 := frozen_of_row _ _ 0 _ _ hz4
    have f1 := frozen_of_row _ _ 1 _ _ hz4
    have f2 := frozen_of_row _ _ 2 _ _ hz4
    clear hb26 t1 t2 t3 hz4 hb7
    go_wp2_with fail
    exact bodyPost_ret (results_cell_t rfl _ _ rk 27 #[.slice x1 M23.length y1, .slice x2 S.length y2, .slice x3 R23.length y3] (0, 0) _ rfl HR9.out Try.underlying27 rfl (by kernel_rfl)) rfl ⟨by rw [HE.out]; exact ⟨_, _, _, rfl, HO9.out⟩, HB9.out⟩
end Go.Proofs.Ytanlggglbpibfaa
