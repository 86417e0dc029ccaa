/-
  ReadFile of the code answers as the model does: at every disk and every name.
-/
import Derived.Test.YtanlggglbpibfaaRows
import Derived.Test.YtanlggglbpibfaaRdF
import Derived.Test.YtanlggglbpibfaaFlR
import Derived.Test.YtanlggglbpibfaaDqR
import Derived.WalkKit
import Derived.ProofKit
import Derived.OpenShut
import Derived.ShutString
import Derived.ChangeOld
import Derived.Below
import Derived.Lib.SmallJoins
import Derived.Deep.Strs
import Derived.Deep.Slices
namespace Go.Proofs.Ytanlggglbpibfaa.fnExactReadFile
open Go.ChangeShapes Go.WideShapes Go.ChangeAt Go.RowKit
open Go.ChangeMaps (open_string shut_string)
set_option linter.unusedVariables false
set_option linter.unusedSimpArgs false

theorem own : ownKnob Try.prog.godebug = none := by kernel_rfl
theorem laidOut : laidOutB Try.prog = true := by kernel_rfl
set_option maxRecDepth 100000 in
set_option maxHeartbeats 2000000 in
theorem walk (a b c : Value) (s : ByteArray) (n m k : Nat) (F G : Nat → FlI) (O : Nat → DqI) (w : World) (hs : s.size ≤ maxLen) (hn : n ≤ maxLen) (hm : m ≤ maxLen) (hk : k ≤ maxLen) (d1 : ∀ i, i < n → (F i).a.size ≤ maxLen ∧ (F i).d.size ≤ maxLen) (d2 : ∀ i, i < m → (G i).a.size ≤ maxLen ∧ (G i).d.size ≤ maxLen) (d3 : ∀ i, i < k → (O i).a.size ≤ maxLen ∧ (O i).p.size ≤ maxLen ∧ (O i).d.size ≤ maxLen) (h1 : FlIn w a n F) (h2 : FlIn w b m G) (h3 : DqIn w c k O) :
    Calls Try.prog 10 #[.agg #[a, b, c], .string s] w fun e w' => e = .returned (.bool true) ∧ Below w.heap.size w w' := by
  have HSZ : Hid (∀ w', Below w.heap.size w w' → Calls Try.prog 26 #[.agg #[a, b, c], .int .i64 1048576] w' fun e w'' => (∃ z, e = .returned (.int .i64 z) ∧ (0 ≤ z → z = ((1048576 - (n + flTot F n) - (m + flTot G m) - (k + dqTot O k) : Nat) : Int) ∧ (n + flTot F n) + (m + flTot G m) + (k + dqTot O k) ≤ 1048576)) ∧ Below w'.heap.size w' w'') := fun w' hb => szDk_any a b c n m k 1048576 F G O w' (Nat.le_refl _) hn hm hk d1 d2 d3 (h1.below hb) (h2.below hb) (h3.below hb)
  have HIN : Hid (∀ w', Below w.heap.size w w' → FlIn w' a n F ∧ FlIn w' b m G ∧ DqIn w' c k O) := fun w' hb => ⟨h1.below hb, h2.below hb, h3.below hb⟩
  clear hn hm hk d1 d2 d3 h1 h2 h3
  have HB1 : Hid (Below w.heap.size w (w.alloc (.cells #[a, b, c] 50))) := (Below.refl _ _).alloc (Nat.le_refl _) _
  have HX1 : Hid ((w.alloc (.cells #[a, b, c] 50)).heap[w.heap.size]? = some (.cells #[a, b, c] 50 (0, 0))) := heap_alloc_new w _
  have hi : Option.map (·.size) (Try.prog.info? 50) = some 3 := by kernel_rfl
  go_enter Try.func10, Try.ntmps10
  have hsm : s.size ≤ 9223372036854775807 := hs
  by_cases hs1 : (1048576 : Int) < (s.size : Int)
  · clear HSZ HIN HX1
    go_wp2_with fail
    go_ret
    exact ⟨rfl, HB1.out⟩
  have HS : Hid (s.size ≤ 1500000) := by show _ ≤ _; omega
  go_wp2_with fail
  refine (HSZ.out _ HB1.out).mono ?_
  rintro e w2 ⟨⟨z, rfl, hz⟩, hb2⟩
  have HX2 : Hid (w2.heap[w.heap.size]? = some (.cells #[a, b, c] 50 (0, 0))) := (hb2.block _ (Array.getElem?_eq_some_iff.1 HX1.out).1).trans HX1.out
  have HB2 := hidF (blFl HB1.out hb2 HB1.out.size)
  clear hb2 HB1 HX1 HSZ
  by_cases hz0 : z < 0
  · clear hz
    go_wp2_with fail
    go_ret
    exact ⟨rfl, HB2.out⟩
  have hzz := (hz (by omega)).2
  clear hz
  have hn : n ≤ 1048576 := by omega
  have hm : m ≤ 1048576 := by omega
  have hk : k ≤ 1048576 := by omega
  have HTO : Hid (∀ w', Below w.heap.size w w' → Calls Try.prog 27 #[.agg #[a, b, c]] w' fun e w'' => (∃ x y z, e = .returned (.agg #[x, y, z]) ∧ FlV w'' x (flM n F) ∧ FlV w'' y (flM m G) ∧ DqV w'' z (dqM k O)) ∧ Below w'.heap.size w' w'') := fun w' hb => (toDk_any a b c n m k F G O w' hn hm hk (HIN.out w' hb).1 (HIN.out w' hb).2.1 (HIN.out w' hb).2.2).mono fun e w'' ⟨⟨v, e1, x, y, z, e2, h⟩, hb⟩ => by
    subst e2
    exact ⟨⟨x, y, z, e1, h⟩, hb⟩
  have HSP : Hid (∀ w' v, DkV w' v (flM n F) (flM m G) (dqM k O) → Calls Try.prog 38 #[v, .string s] w' fun e w'' => e = .returned (.tuple #[.string (rdE (flM n F) (flM m G) (dqM k O) s).1, .bool (rdE (flM n F) (flM m G) (dqM k O) s).2]) ∧ Below w'.heap.size w' w'') := fun w' v ⟨x, y, z, e, p, q, r⟩ => by
    subst e; exact sread15_any x y z _ _ _ s w' HS.out (flM_le (by omega)) (flM_le (by omega)) (dqM_le (by omega)) p q r
  have HIM : Hid (∀ w' v, DkV w' v (flM n F) (flM m G) (dqM k O) → Calls Try.prog 22 #[v, .string s] w' fun e w'' => e = .returned (.tuple #[.string (rdE (flM n F) (flM m G) (dqM k O) s).1, .bool (rdE (flM n F) (flM m G) (dqM k O) s).2]) ∧ Below w'.heap.size w' w'') := fun w' v ⟨x, y, z, e, p, q, r⟩ => by
    subst e; exact read15_any x y z _ _ _ s w' HS.out (flM_le (by omega)) (flM_le (by omega)) (dqM_le (by omega)) p q r
  have HEQ : Hid (∀ w' u v, DkV w' u (flM n F) (flM m G) (dqM k O) → DkV w' v (flM n F) (flM m G) (dqM k O) → Calls Try.prog 28 #[u, v] w' fun e w'' => e = .returned (.bool true) ∧ Below w'.heap.size w' w'') := fun w' u v h h' => eqDk_any u v n m k F G O w' hn hm hk h h'
  generalize flM n F = L at HTO HSP HIM HEQ
  generalize flM m G = S at HTO HSP HIM HEQ
  generalize dqM k O = Q at HTO HSP HIM HEQ
  generalize rdE L S Q s = B at HSP HIM
  obtain ⟨B1, B2⟩ := B
  simp only at HSP HIM
  clear hzz hn hm hk HIN HS hs hsm hs1
  go_wp2_with (refine wpList_load_row rfl 50 _ rfl (w.heap.size) rfl 50 #[a, b, c] (0, 0) _ HX2.out Try.underlying50 rfl hi ?_)
  refine (HTO.out _ HB2.out).mono ?_
  rintro e w3 ⟨⟨xa, xb, xc, rfl, hv3⟩, hb3⟩
  have HX3 : Hid (w3.heap[w.heap.size]? = some (.cells #[a, b, c] 50 (0, 0))) := (hb3.block _ (Array.getElem?_eq_some_iff.1 HX2.out).1).trans HX2.out
  have HB3 := hidF (blFl HB2.out hb3 HB2.out.size)
  clear hb3 HB2 HX2
  go_wp2_with fail
  refine (HSP.out _ _ ⟨_, _, _, rfl, hv3⟩).mono ?_
  rintro e w4 ⟨rfl, hb4⟩
  have HX4 : Hid (w4.heap[w.heap.size]? = some (.cells #[a, b, c] 50 (0, 0))) := (hb4.block _ (Array.getElem?_eq_some_iff.1 HX3.out).1).trans HX3.out
  have HB4 := hidF (blFl HB3.out hb4 HB3.out.size)
  clear hb4 HB3 HX3 hv3
  go_wp2_with (refine wpList_load_row rfl 50 _ rfl (w.heap.size) rfl 50 #[a, b, c] (0, 0) _ HX4.out Try.underlying50 rfl hi ?_)
  refine (HTO.out _ HB4.out).mono ?_
  rintro e w5 ⟨⟨xa, xb, xc, rfl, p1, p2, p3⟩, hb5⟩
  obtain ⟨x1, y1, rfl⟩ := p1.slice
  obtain ⟨x2, y2, rfl⟩ := p2.slice
  obtain ⟨x3, y3, rfl⟩ := p3.slice
  have HX5 : Hid (w5.heap[w.heap.size]? = some (.cells #[a, b, c] 50 (0, 0))) := (hb5.block _ (Array.getElem?_eq_some_iff.1 HX4.out).1).trans HX4.out
  have HB5 := hidF (blFl HB4.out hb5 HB4.out.size)
  clear hb5 HB4 HX4
  have HBX : Hid (Below w5.heap.size w5 (w5.alloc (.cells #[.slice x1 L.length y1, .slice x2 S.length y2, .slice x3 Q.length y3] 27))) := (Below.refl _ _).alloc (Nat.le_refl _) _
  have HTX : Hid ((w5.alloc (.cells #[.slice x1 L.length y1, .slice x2 S.length y2, .slice x3 Q.length y3] 27)).heap[w5.heap.size]? = some (.cells #[.slice x1 L.length y1, .slice x2 S.length y2, .slice x3 Q.length y3] 27 (0, 0))) := heap_alloc_new w5 _
  have HP : Hid (FlV (w5.alloc (.cells #[.slice x1 L.length y1, .slice x2 S.length y2, .slice x3 Q.length y3] 27)) (.slice x1 L.length y1) L ∧ FlV (w5.alloc (.cells #[.slice x1 L.length y1, .slice x2 S.length y2, .slice x3 Q.length y3] 27)) (.slice x2 S.length y2) S ∧ DqV (w5.alloc (.cells #[.slice x1 L.length y1, .slice x2 S.length y2, .slice x3 Q.length y3] 27)) (.slice x3 Q.length y3) Q) := ⟨p1.below HBX.out, p2.below HBX.out, p3.below HBX.out⟩
  have HB6 : Hid (Below w.heap.size w (w5.alloc (.cells #[.slice x1 L.length y1, .slice x2 S.length y2, .slice x3 Q.length y3] 27))) := blFl HB5.out HBX.out HB5.out.size
  have HX6 : Hid ((w5.alloc (.cells #[.slice x1 L.length y1, .slice x2 S.length y2, .slice x3 Q.length y3] 27)).heap[w.heap.size]? = some (.cells #[a, b, c] 50 (0, 0))) := (HBX.out.block _ (Array.getElem?_eq_some_iff.1 HX5.out).1).trans HX5.out
  clear p1 p2 p3 HBX HX5
  have hj : Option.map (·.size) (Try.prog.info? 27) = some 3 := by kernel_rfl
  go_wp2_with (refine wpList_load_row rfl 27 _ rfl (w5.heap.size) rfl 27 #[.slice x1 L.length y1, .slice x2 S.length y2, .slice x3 Q.length y3] (0, 0) _ HTX.out Try.underlying27 rfl hj ?_)
  have him := HIM.out _ _ ⟨_, _, _, rfl, HP.out⟩
  generalize w5.alloc (.cells #[.slice x1 L.length y1, .slice x2 S.length y2, .slice x3 Q.length y3] 27) = w6 at HTX HP HB6 HX6 him ⊢
  generalize w5.heap.size = g at HTX ⊢
  refine him.mono ?_
  rintro e w7 ⟨rfl, hb7⟩
  have HX7 : Hid (w7.heap[w.heap.size]? = some (.cells #[a, b, c] 50 (0, 0))) := (hb7.block _ (Array.getElem?_eq_some_iff.1 HX6.out).1).trans HX6.out
  have HT7 : Hid (w7.heap[g]? = some (.cells #[.slice x1 L.length y1, .slice x2 S.length y2, .slice x3 Q.length y3] 27 (0, 0))) := (hb7.block _ (Array.getElem?_eq_some_iff.1 HTX.out).1).trans HTX.out
  have HP7 : Hid (FlV w7 (.slice x1 L.length y1) L ∧ FlV w7 (.slice x2 S.length y2) S ∧ DqV w7 (.slice x3 Q.length y3) Q) := ⟨HP.out.1.below hb7, HP.out.2.1.below hb7, HP.out.2.2.below hb7⟩
  have HB7 := hidF (blFl HB6.out hb7 HB6.out.size)
  clear hb7 HB6 HX6 HTX HP him HB5 w5
  have hBB : (B2 != B2) = false := by cases B2 <;> rfl
  have hBC : (B1.toList != B1.toList) = false := by simp
  go_wp2_with (first | refine wpList_load_row rfl 27 _ rfl g rfl 27 #[.slice x1 L.length y1, .slice x2 S.length y2, .slice x3 Q.length y3] (0, 0) _ HT7.out Try.underlying27 rfl hj ?_ | refine wpList_load_row rfl 50 _ rfl (w.heap.size) rfl 50 #[a, b, c] (0, 0) _ HX7.out Try.underlying50 rfl hi ?_)
  obtain ⟨S2, hS2⟩ : ∃ SS : World → Prop, SS = fun w' => Below w7.heap.size w7 w' := ⟨_, rfl⟩
  have hSd : S2 w7.drew := by rw [hS2]; exact (Below.refl _ _).drew
  have HSX : Hid (∀ w', S2 w' → w'.rangeAt g 0 [.slice x1 L.length y1, .slice x2 S.length y2, .slice x3 Q.length y3]) := fun w' hq j v hv => by
    rw [hS2] at hq
    rw [Nat.zero_add]
    have hrow := (hq.block _ (Array.getElem?_eq_some_iff.1 HT7.out).1).trans HT7.out
    refine (cell_of_row _ _ j _ _ _ hrow).trans ?_
    simpa using hv
  have HSY : Hid (∀ w', S2 w' → w'.rangeAt w.heap.size 0 [a, b, c]) := fun w' hq j v hv => by
    rw [hS2] at hq
    rw [Nat.zero_add]
    have hrow := (hq.block _ (Array.getElem?_eq_some_iff.1 HX7.out).1).trans HX7.out
    refine (cell_of_row _ _ j _ _ _ hrow).trans ?_
    simpa using hv
  have HSI : Hid (∀ w', Below w7.heap.size w7 w' → S2 w') := fun w' hb => by rw [hS2]; exact hb
  have HDR : Hid (Below w7.heap.size w7 w7.drew) := (Below.refl _ _).drew
  have HQ8 := hidF (HTO.out w7.drew (blFl HB7.out HDR.out HB7.out.size))
  clear hS2
  refine wp_region_held (S := S2) (by kernel_rfl) ?_
  change wpAnyH _ _ _ _ _ _ _ _ (World.drew _)
  generalize hX2 : w7.drew = X2 at hSd HDR HQ8 ⊢
  clear hX2
  refine wpAnyH_take (i := 0) (v := .agg #[.slice x1 L.length y1, .slice x2 S.length y2, .slice x3 Q.length y3]) rfl (by kernel_rfl) (by kernel_rfl) (by kernel_rfl) (fun _ _ _ h => h) (yieldsIf_load_mid (by rfl) 27 (.tmp 8) rfl g 0 rfl [.slice x1 L.length y1, .slice x2 S.length y2, .slice x3 Q.length y3] _ HSX.out Try.underlying27 rfl (by kernel_rfl)) hSd ?_
  (try simp only [List.getElem_toArray, List.getElem_cons_succ, List.getElem_cons_zero, Act.put, List.setIfInBounds_toArray, List.set_cons_zero, List.set_cons_succ])
  refine wpAnyH_take (i := 1) (v := .agg #[a, b, c]) rfl (by kernel_rfl) (by kernel_rfl) (by kernel_rfl) (fun _ _ _ h => h) (yieldsIf_load_mid (by rfl) 50 (.tmp 2) rfl (w.heap.size) 0 rfl [a, b, c] _ HSY.out Try.underlying50 rfl (by kernel_rfl)) hSd ?_
  (try simp only [List.getElem_toArray, List.getElem_cons_succ, List.getElem_cons_zero, Act.put, List.setIfInBounds_toArray, List.set_cons_zero, List.set_cons_succ])
  refine held_step (i := 2) (by kernel_rfl) rfl (by rfl) ?_
  go_simp
  refine HQ8.out.mono ?_
  rintro e w9 ⟨⟨u1, u2, u3, rfl, hu⟩, hb9⟩
  have HB9 : Hid (Below w7.heap.size w7 w9) := blFl HDR.out hb9 HDR.out.size
  have hS9 := HSI.out _ HB9.out
  refine ⟨hS9, ?_⟩
  (try simp only [List.getElem_toArray, List.getElem_cons_succ, List.getElem_cons_zero, Act.put, List.setIfInBounds_toArray, List.set_cons_zero, List.set_cons_succ])
  have HE9 := hidF (HEQ.out w9 _ _ ⟨_, _, _, rfl, HP7.out.1.below HB9.out, HP7.out.2.1.below HB9.out, HP7.out.2.2.below HB9.out⟩ ⟨_, _, _, rfl, hu⟩)
  clear hu hb9
  refine held_step (i := 3) (by kernel_rfl) rfl (by rfl) ?_
  go_simp
  refine HE9.out.mono ?_
  rintro e w10 ⟨rfl, hb10⟩
  have HB10 : Hid (Below w7.heap.size w7 w10) := blFl HB9.out hb10 HB9.out.size
  have hS10 := HSI.out _ HB10.out
  refine ⟨hS10, ?_⟩
  (try simp only [List.getElem_toArray, List.getElem_cons_succ, List.getElem_cons_zero, Act.put, List.setIfInBounds_toArray, List.set_cons_zero, List.set_cons_succ])
  clear hb10
  refine wpAnyH_take (i := 4) (v := .bool false) rfl (by kernel_rfl) (by kernel_rfl) (by kernel_rfl) (fun _ _ _ h => h) (Or.inl ⟨by rfl, by intro w' hS'; go_simp <;> (first | omega | rfl)⟩) hS10 ?_
  (try simp only [List.getElem_toArray, List.getElem_cons_succ, List.getElem_cons_zero, Act.put, List.setIfInBounds_toArray, List.set_cons_zero, List.set_cons_succ])
  refine wpAnyH_done (by kernel_rfl) ?_ _
  have HBZ := hidF (blFl HB7.out HB10.out HB7.out.size)
  clear hS10 HSX HSY HSI
  go_wp2_with fail
  go_ret
  exact ⟨rfl, HBZ.out⟩
theorem array3x {α : Type} {cs : Array α} (h : cs.size = 3) : ∃ c0 c1 c2, cs = #[c0, c1, c2] := by
  obtain ⟨l⟩ := cs
  match l, h with
  | [c0, c1, c2], _ => exact ⟨c0, c1, c2, rfl⟩
set_option maxRecDepth 100000 in
theorem read3 {H : Type} {enc : TypeId × Value → H} {W : World} {v : Value} {d : DataW H} {ps : List MemPlace} (h0 : DataW.Trod enc Try.prog W 0 (fun _ => true) true 50 v d ps) (ho : Value.okWide Try.prog W .any 0 50 v) :
    ∃ (a b c : Value) (n m k : Nat) (F G : Nat → FlI) (O : Nat → DqI), v = .agg #[a, b, c] ∧ (n ≤ maxLen ∧ m ≤ maxLen ∧ k ≤ maxLen) ∧ (∀ i, i < n → (F i).a.size ≤ maxLen ∧ (F i).d.size ≤ maxLen) ∧ (∀ i, i < m → (G i).a.size ≤ maxLen ∧ (G i).d.size ≤ maxLen) ∧ (∀ i, i < k → (O i).a.size ≤ maxLen ∧ (O i).p.size ≤ maxLen ∧ (O i).d.size ≤ maxLen) ∧ FlIn W a n F ∧ FlIn W b m G ∧ DqIn W c k O := by
  obtain ⟨cs, rfl, hsz⟩ := okWide_struct Try.underlying50 ho
  have hsz3 : cs.size = 3 := hsz.trans (by kernel_rfl)
  obtain ⟨c0, c1, c2, rfl⟩ := array3x hsz3
  obtain ⟨fuel, hf⟩ := h0
  obtain ⟨y0, y1, y2, n, _, _, t0, t1, t2⟩ := Go.Deep.trod_struct3 Try.underlying50 hf
  have cF : Try.prog.cellsOf 47 = 1 := by kernel_rfl
  have cD : Try.prog.cellsOf 48 = 1 := by kernel_rfl
  rw [cF] at t0 t1
  rw [cD] at t2
  simp [Value.cells] at t0 t1 t2
  obtain ⟨a1, n1, k1, rfl⟩ : ∃ a n k, c0 = .slice a n k := by
    rcases Go.Deep.open_slice Try.underlying47 t0 with ⟨h, _⟩ | ⟨a', len, cap, m, nn, D, Pl, hcs, _⟩
    · cases h; exact ⟨_, _, _, rfl⟩
    · cases hcs; exact ⟨_, _, _, rfl⟩
  obtain ⟨a2, n2, k2, rfl⟩ : ∃ a n k, c1 = .slice a n k := by
    rcases Go.Deep.open_slice Try.underlying47 t1 with ⟨h, _⟩ | ⟨a', len, cap, m, nn, D, Pl, hcs, _⟩
    · cases h; exact ⟨_, _, _, rfl⟩
    · cases hcs; exact ⟨_, _, _, rfl⟩
  obtain ⟨a3, n3, k3, rfl⟩ : ∃ a n k, c2 = .slice a n k := by
    rcases Go.Deep.open_slice Try.underlying48 t2 with ⟨h, _⟩ | ⟨a', len, cap, m, nn, D, Pl, hcs, _⟩
    · cases h; exact ⟨_, _, _, rfl⟩
    · cases hcs; exact ⟨_, _, _, rfl⟩
  obtain ⟨F, m1, z1, i1⟩ := read_slFl (d := y0.1) (ps := y0.2) ⟨n, by simpa [Value.cells] using t0⟩
  obtain ⟨G, m2, z2, i2⟩ := read_slFl (d := y1.1) (ps := y1.2) ⟨n, by simpa [Value.cells] using t1⟩
  obtain ⟨O, m3, z3, i3⟩ := read_slDq (d := y2.1) (ps := y2.2) ⟨n, by simpa [Value.cells] using t2⟩
  exact ⟨_, _, _, n1, n2, n3, F, G, O, rfl, ⟨m1, m2, m3⟩, z1, z2, z3, i1, i2, i3⟩
set_option maxRecDepth 100000 in
theorem lifted (os : Os) (started : os.Started) (H : Type) (enc : TypeId × Value → H) :
    ReturnsInHanded {} Try.checked os 10 .any (Rows.fnExactReadFileSpec.pre6 enc Try.prog Try.f10 Rows.fnExactReadFileRow.domain false) (Rows.fnExactReadFileSpec.post enc Try.prog Try.f10 false true false false) := by
  refine returnsInHanded_of_change (C := Try.checked) own started (by kernel_rfl) Try.func10
    (ChangeSpec.witness6 (enc := enc) (C := Try.checked) false ⟨#[], #[.agg #[.slice none 0 0, .slice none 0 0, .slice none 0 0], .string ⟨#[]⟩], []⟩ 8 (by kernel_rfl) (by kernel_rfl) (by kernel_rfl) (by kernel_rfl)) ?_
  intro W base args ds gs before hval0 hW hcnd _
  have hval : ∀ (j : Nat) t v, Try.f10.params[j]? = some t → args[j]? = some v → Value.okWide Try.prog W .any base t v := hval0
  have hW' := hW
  obtain ⟨p, q, hA0, hV, rfl, hfz, hnd⟩ := hW
  have hA : DataW.TrodAll enc Try.prog W 0 (fun _ => true) true Try.f10.params.toList args.toList ds p := hA0
  rw [Try.params10] at hA hval
  obtain ⟨v0, vs0, d0, ds0, p0, q0, hargs, rfl, rfl, h0, r0⟩ := trodAll_cons hA
  obtain ⟨v1, vs1, d1, ds1, p1, q1, rfl, rfl, rfl, h1, r1⟩ := trodAll_cons r0
  obtain ⟨rfl, rfl, rfl⟩ := trodAll_nil r1
  obtain rfl : args = #[v0, v1] := by cases args; simp_all
  obtain ⟨rfl, rfl⟩ := trodVars_none hV
  obtain ⟨a, b, c, n, m, k, F, G, O, rfl, ⟨m1, m2, m3⟩, z1, z2, z3, i1, i2, i3⟩ := read3 h0 (Value.okWide_any_base (hval 0 _ v0 rfl rfl))
  obtain ⟨s1, rfl, rfl, rfl, ws⟩ := open_string Try.underlying9 (hval 1 _ v1 rfl rfl) h1
  have k0 := h0
  have lt0 : ∀ x ∈ p0, x.block < W.heap.size := by obtain ⟨m, hm⟩ := k0; exact DataW.trod_lt m _ _ _ hm
  clear hA0 hval0
  refine (walk a b c s1 n m k F G O W ws m1 m2 m3 z1 z2 z3 i1 i2 i3).mono fun e W' ⟨he, bel⟩ => ?_
  subst he
  exact ⟨_, rfl, _, _, _, [], _, [], hW', trodAll_mk1 (shut_bool Try.underlying4 _), (trodAll_cons_mk (Below.trod laidOut (by kernel_rfl) (of_decide_eq_true (by kernel_rfl)) k0 bel lt0) (trodAll_cons_mk (shut_string Try.underlying9 ws) trodAll_mk0)), rfl, bel.frame _, fun h => by cases h⟩

theorem over : Rows.fnExactReadFileRow.holds Try.pinned (OpenSpec.ofChange Rows.fnExactReadFileSpec) :=
  OpenClaim.holds_of_wide 10 Try.f10 rfl rfl rfl rfl rfl rfl rfl ⟨rfl, rfl, rfl, rfl, rfl⟩ rfl rfl rfl rfl rfl (by kernel_rfl) Try.func10 (by kernel_rfl)
    (of_decide_eq_true (by kernel_rfl)) (by unfold Func.isWrapper; first | (rw [if_pos (by decide +kernel)]; kernel_rfl) | (rw [if_neg (by decide +kernel)]; exact ⟨rfl, rfl⟩))
    (fun os started H enc _ => lifted os started H enc)
theorem proved : Rows.FnExactReadFileSaid :=
  over
#print axioms proved
end Go.Proofs.Ytanlggglbpibfaa.fnExactReadFile
