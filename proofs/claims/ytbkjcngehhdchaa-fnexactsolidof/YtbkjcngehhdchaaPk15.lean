/-
  Several texts of this seat as one: StepC2, TkC, TkS.
-/
import Derived.Test.YtbkjcngehhdchaaPk14
import Derived.Test.YtbkjcngehhdchaaPk09
import Derived.Test.YtbkjcngehhdchaaPk12
import Derived.Test.YtbkjcngehhdchaaPk06
import Derived.Laws.Rows
import Derived.Laws.MakeOwn
import Derived.Laws.OwnMore
import Derived.Lib.LazyBuf
import Derived.Lib.SlBuf
import Derived.Maps.OwnOps
import Derived.Test.YtbkjcngehhdchaaPk13
import Derived.Laws.AppendOwn
import Derived.OwnWalk
import Derived.Test.YtbkjcngehhdchaaPk08

/-!   How far ahead of each place its three bytes stood last: the code's, by a map. -/
namespace Go.Proofs.Ytbkjcngehhdchaa
open Go.RowKit
open Go.Maps (Keyed)
set_option linter.unusedVariables false
set_option linter.unusedSimpArgs false

theorem Try.infi : (Try.prog.info? 3).map (fun i => (i.zero, i.size, i.bytes)) = some (some (.int .i64 0), 1, 8) := by kernel_rfl
def zI (m : Nat) : Array Value := madeCells #[Value.int .i64 0] m
theorem zI_at {m j : Nat} (h : j < m) : (zI m)[j]? = some (.int .i64 0) := by
  rw [← Array.getElem?_toList, zI, toList_madeCells_one, List.getElem?_replicate, if_pos h]
theorem zI_made (m : Nat) (hm : m ≤ 4000) (W : World) : (Instr.makeSlice 139 (.int .i64 (m : Int)) (.int .i64 (m : Int))).run Try.prog W = .ok (.slice (some ⟨W.heap.size, 0, none⟩) m m) (W.alloc (.cells (zI m) 3)) := by
  obtain ⟨i0, hi, hz0, hz1, hz2⟩ := info_parts Try.infi
  have h := run_make (P := Try.prog) W 139 3 i0 (.int .i64 0) Try.underlying139 hi hz0 .i64 .i64 (m : Int) (m : Int) (by omega) (by omega) (by rw [hz2]; omega) (by omega)
  have e : madeCells (Value.int .i64 0).cells ((m : Int).toNat * i0.size) = zI m := by rw [hz1, Int.toNat_natCast, Nat.mul_one]; rfl
  rw [e] at h
  simpa using h
theorem arr3_ty : Try.prog.underlying 154 = some (.array (Try.prog.arrayLen 154) (Try.prog.elem 154)) := by kernel_rfl
theorem arr3_len : Try.prog.arrayLen 154 = 3 := by kernel_rfl
theorem arr3_slice (W : World) (b : Nat) :
    (Instr.sliceAt 154 (.pointer (some ⟨b, 0, none⟩)) none none none).run Try.prog W = .ok (.slice (some ⟨b, 0, none⟩) 3 3) W := by
  have hsz : (sizeOf (Try.prog.elem 154)).run Try.prog W = .ok 1 W := by kernel_rfl
  rw [run_sliceAt_array_all W 154 _ arr3_ty, hsz, arr3_len]
  simp [slicedAt, Result.andThen, Addr.add]
theorem arr3_key : WideMaps.ArrKey Try.prog 154 5 3 := ⟨by kernel_rfl, by kernel_rfl, by kernel_rfl, by kernel_rfl⟩
theorem arr3_law : Keyed Try.prog 154 := Keyed.of_law (arr3_key).law
theorem types_some : ∃ m, Try.prog.types.size = m + 1 := ⟨Try.prog.types.size - 1, by kernel_rfl⟩
theorem zeroI (w : World) : (zeroValue 3).run Try.prog w = .ok (.int .i64 0) w := by kernel_rfl
/-- the first three bytes of a longer text -/
theorem copy_three (w : World) (ty : TypeId) (g : Nat) (t : ByteArray) (X : Array Value) (ht : 3 ≤ t.size) (hX : X.size = 3) (hg : w.heap[g]? = some (.cells X 154 (0, 0))) :
    (Builtin.copy_ #[36, 9] ty #[.slice (some ⟨g, 0, none⟩) 3 3, .string t]).run Try.prog w = .ok (goInt 3) (w.setCells g 0 [.int .u8 (bsOf t 0 : Nat), .int .u8 (bsOf t 1 : Nat), .int .u8 (bsOf t 2 : Nat)]) := by
  have hz : (Go.sizeOf 5).run Try.prog w = .ok 1 w := by kernel_rfl
  have hmin : Nat.min t.size 3 = 3 := Nat.min_eq_right ht
  have hcell : ∀ j, j < 3 → w.cell? ⟨g, j, none⟩ = X[j]? := fun j _ => cell_of_row w g j _ _ _ hg
  have htl : List.take 3 (t.data.toList.map fun x => Value.int .u8 (x.toNat : Int)) = [.int .u8 (bsOf t 0 : Nat), .int .u8 (bsOf t 1 : Nat), .int .u8 (bsOf t 2 : Nat)] := by
    have hl : 3 ≤ t.data.toList.length := by rw [← Lib.size_eq]; exact ht
    unfold bsOf
    match h : t.data.toList, hl with
    | a :: b :: c :: r, _ => rfl
  have hst := run_storeCells_cells (P := Try.prog) g 0 [.int .u8 (bsOf t 0 : Nat), .int .u8 (bsOf t 1 : Nat), .int .u8 (bsOf t 2 : Nat)] 0 w (by
    intro j hj
    have hj3 : j < 3 := hj
    rw [show 0 + 0 + j = j by omega, hcell j hj3, Array.getElem?_eq_getElem (by omega)]; rfl) (by
    intro j hj
    have hj3 : j < 3 := hj
    rw [show 0 + 0 + j = j by omega]
    exact frozen_of_row w g j _ _ hg) (by
    intro v hv
    simp only [List.mem_cons, List.not_mem_nil, or_false] at hv
    rcases hv with rfl | rfl | rfl <;> rfl)
  simp [Builtin.copy_, run_underlying Try.underlying36, Builtin.lenOf, Builtin.firstCells, hz, hmin]
  rw [htl, hst]
  rfl
/-- the blocks that the call makes: the steps, the map, three bytes -/
structure BW (s : ByteArray) (n : Nat) (w wr : World) (cur X : Array Value) : Prop where
  below : Below w.heap.size w wr
  st : wr.heap[w.heap.size]? = some (.cells cur 3 (0, 0))
  own : wr.ownsMap Try.prog 154 (plainElem (H := Unit) Try.prog 3) (w.heap.size + 1) n (C3 (bsOf s) n)
  row : wr.heap[w.heap.size + 2]? = some (.cells X 154 (0, 0))
theorem own_other {w w' : World} {b n : Nat} {D : DataW Unit} (h : w.ownsMap Try.prog 154 (plainElem (H := Unit) Try.prog 3) b n D) (he : w'.heap[b]? = w.heap[b]?) : w'.ownsMap Try.prog 154 (plainElem (H := Unit) Try.prog 3) b n D := by
  obtain ⟨es, clock, hb, F, hs, hD⟩ := h
  exact ⟨es, clock, he.trans hb, F, hs, hD⟩
theorem BW.drew {s : ByteArray} {n : Nat} {w wr : World} {cur X : Array Value} (h : BW s n w wr cur X) : BW s n w wr.drew cur X := ⟨h.below.drew, h.st, own_other h.own rfl, h.row⟩
theorem BW.setX {s : ByteArray} {n : Nat} {w wr : World} {cur X : Array Value} (h : BW s n w wr cur X) (t : Nat) (v : Value) : BW s n w (wr.setCell ⟨w.heap.size + 2, t, none⟩ v) cur (X.setIfInBounds t v) :=
  ⟨h.below.setCell (p := ⟨w.heap.size + 2, t, none⟩) (by show _ ≤ w.heap.size + 2; omega) v,
    by rw [heap_setCell_other wr ⟨w.heap.size + 2, t, none⟩ _ v (by show _ ≠ w.heap.size + 2; omega)]; exact h.st,
    own_other h.own (heap_setCell_other wr ⟨w.heap.size + 2, t, none⟩ _ v (by show _ ≠ w.heap.size + 2; omega)),
    heap_setCell_same wr _ t _ _ _ h.row⟩
theorem BW.setC {s : ByteArray} {n : Nat} {w wr : World} {cur X : Array Value} (h : BW s n w wr cur X) (t : Nat) (v : Value) : BW s n w (wr.setCell ⟨w.heap.size, t, none⟩ v) (cur.setIfInBounds t v) X :=
  ⟨h.below.setCell (p := ⟨w.heap.size, t, none⟩) (Nat.le_refl _) v,
    heap_setCell_same wr _ t _ _ _ h.st,
    own_other h.own (heap_setCell_other wr ⟨w.heap.size, t, none⟩ _ v (by show _ ≠ w.heap.size; omega)),
    by rw [heap_setCell_other wr ⟨w.heap.size, t, none⟩ _ v (by show _ ≠ w.heap.size; omega)]; exact h.row⟩
theorem BW.put {s : ByteArray} {n : Nat} {w wr w1 : World} {cur X : Array Value} (h : BW s n w wr cur X) (ho : w1.ownsMap Try.prog 154 (plainElem (H := Unit) Try.prog 3) (w.heap.size + 1) (n + 1) (C3 (bsOf s) (n + 1))) (hg : wr.grownBy w1 (some (w.heap.size + 1))) : BW s (n + 1) w w1 cur X :=
  have l1 := (Array.getElem?_eq_some_iff.1 h.st).1
  have l2 := (Array.getElem?_eq_some_iff.1 h.row).1
  ⟨h.below.grown hg h.below.size (fun j hj => by cases hj; omega), (hg.block _ l1 (by simp)).trans h.st, ho, (hg.block _ l2 (by simp)).trans h.row⟩
theorem three_set {X : Array Value} (hX : X.size = 3) (a b c : Value) : ((X.setIfInBounds 0 a).setIfInBounds 1 b).setIfInBounds 2 c = #[a, b, c] := by
  obtain ⟨l⟩ := X
  match l, hX with
  | [x, y, z], _ => rfl
theorem hold_goal {p : Prop} (h : Hid p) : p := h.out
set_option maxRecDepth 100000 in
set_option maxHeartbeats 2000000 in
theorem steps_any (s : ByteArray) (w : World) (hs : s.size ≤ 4000) :
    Calls Try.prog 94 #[.string s] w fun e w' => (e = .returned (.slice (some ⟨w.heap.size, 0, none⟩) s.size s.size) ∧ w.heap.size < w'.heap.size ∧ ∀ j, j < s.size → w'.cell? ⟨w.heap.size, j, none⟩ = some (.int .i64 (stF (bsOf s) s.size j : Nat))) ∧ Below w.heap.size w w' := by
  have hmk := zI_made s.size hs
  have hmm := @run_makeMap Try.prog
  have hsl := arr3_slice
  have HZ : Hid (∀ j, j < s.size → (zI s.size)[j]? = some (.int .i64 0)) := fun j hj => zI_at hj
  have HZS : Hid ((zI s.size).size = s.size) := by
    show (zI s.size).size = s.size
    rw [← Array.length_toList, zI, toList_madeCells_one, List.length_replicate]
  have hsz : (s.size : Int) ≤ 4000 := by omega
  have hsz0 : 0 ≤ (s.size : Int) := by omega
  have hw1 : IntKind.i64.wrap ((s.size : Int) - 3) = (s.size : Int) - 3 := by rw [IntKind.wrap_i64]; omega
  have hw2 : IntKind.i64.wrap ((s.size : Int) - 3 + 1) = (s.size : Int) - 3 + 1 := by rw [IntKind.wrap_i64]; omega
  have HST : Hid (BW s 0 w (((w.alloc (.cells (zI s.size) 3)).alloc (.map #[] 0)).alloc (.cells #[.int .u8 0, .int .u8 0, .int .u8 0] 154)) (zI s.size) #[.int .u8 0, .int .u8 0, .int .u8 0]) := by
    refine ⟨(((Below.refl _ _).alloc (Nat.le_refl _) _).alloc (by simp) _).alloc (by simp; omega) _, ?_, ?_, ?_⟩
    · rw [Below.heap_alloc _ _ _ (by simp; omega), Below.heap_alloc _ _ _ (by simp)]
      exact heap_alloc_new w _
    · have h := World.ownsMap_made (w.alloc (.cells (zI s.size) 3)) Try.prog 154 (plainElem (H := Unit) Try.prog 3)
      rw [show (w.alloc (.cells (zI s.size) 3)).heap.size = w.heap.size + 1 by simp] at h
      exact own_other h (Below.heap_alloc _ _ _ (by simp))
    · have h := heap_alloc_new ((w.alloc (.cells (zI s.size) 3)).alloc (.map #[] 0)) (.cells #[.int .u8 0, .int .u8 0, .int .u8 0] 154)
      simpa using h
  generalize zI s.size = Z at *
  go_enter Try.func94, Try.ntmps94
  go_wp2_with fail
  clear hmk hmm
  generalize ((w.alloc (.cells Z 3)).alloc (.map #[] 0)).alloc (.cells #[.int .u8 0, .int .u8 0, .int .u8 0] 154) = W2 at HST ⊢
  have info3 : Option.map (·.size) (Try.prog.info? 154) = some 3 := by kernel_rfl
  go_loopw [17] (fun c wr => ∃ (n : Nat) (cur X : Array Value), (n : Int) ≤ (s.size : Int) ∧ (n = 0 ∨ n + 2 ≤ s.size) ∧ c = .int .i64 (n : Int) ∧ cur.size = s.size ∧ X.size = 3 ∧ Hid (BW s n w wr cur X) ∧ Hid (∀ j, j < s.size → cur[j]? = some (.int .i64 ((if j < n then prevP (bsOf s) j j else 0 : Nat) : Int)))) (fun c _ => s.size - (lonIntOf c).toNat)
  case atStart => exact ⟨0, Z, _, by omega, Or.inl rfl, rfl, HZS.out, rfl, HST, fun j hj => by rw [if_neg (by omega)]; exact HZ.out j hj⟩
  case round =>
    obtain ⟨n, cur, X, hnL, hn0, rfl, hcs, hXs, HB, HCUR⟩ := hrel
    clear HST
    by_cases hlt : (n : Int) < (s.size : Int) - 3 + 1
    · have hn3 : n + 3 ≤ s.size := by omega
      have hnI : (n : Int) ≤ (s.size : Int) := by omega
      have hnI2 : (n : Int) < (s.size : Int) := by omega
      have hnN : n ≤ s.size := by omega
      have HKEY : Hid _ := keyOf_three arr3_key Try.underlying5 types_some (bsOf_lt s) n
      have HLOOK : Hid _ := look3 (bsOf_lt s) n
      have HCP : Hid (∀ ty, (Builtin.copy_ #[36, 9] ty #[.slice (some ⟨w.heap.size + 2, 0, none⟩) 3 3, .string (s.extract n s.size)]).run Try.prog wr.drew = .ok (goInt 3) (wr.drew.setCells (w.heap.size + 2) 0 [.int .u8 (bsOf s n : Nat), .int .u8 (bsOf s (n + 1) : Nat), .int .u8 (bsOf s (n + 2) : Nat)])) := fun ty => by
        have h := copy_three wr.drew ty (w.heap.size + 2) (s.extract n s.size) X (by simp; omega) hXs HB.out.drew.row
        rw [bsOf_ext _ _ _ _ (by omega), bsOf_ext _ _ _ _ (by omega), bsOf_ext _ _ _ _ (by omega)] at h
        exact h
      have HB2 : Hid (BW s n w (wr.drew.setCells (w.heap.size + 2) 0 [.int .u8 (bsOf s n : Nat), .int .u8 (bsOf s (n + 1) : Nat), .int .u8 (bsOf s (n + 2) : Nat)]) cur #[.int .u8 (bsOf s n : Nat), .int .u8 (bsOf s (n + 1) : Nat), .int .u8 (bsOf s (n + 2) : Nat)]) := by
        have h := ((HB.out.drew.setX 0 (.int .u8 (bsOf s n : Nat))).setX 1 (.int .u8 (bsOf s (n + 1) : Nat))).setX 2 (.int .u8 (bsOf s (n + 2) : Nat))
        rw [three_set hXs] at h
        exact h
      have HBL : Hid (∀ j, bsOf s j < 256) := bsOf_lt s
      have HP : Hid (∀ j, (if j < n + 1 then prevP (bsOf s) j j else 0) = if j = n then prevP (bsOf s) n n else if j < n then prevP (bsOf s) j j else 0) := fun j => by
        by_cases e : j = n
        · subst e; rw [if_pos (by omega), if_pos rfl]
        · rw [if_neg e]
          by_cases l : j < n
          · rw [if_pos (by omega), if_pos l]
          · rw [if_neg (by omega), if_neg l]
      generalize bsOf s n = c0 at HKEY HCP HB2
      generalize bsOf s (n + 1) = c1 at HKEY HCP HB2
      generalize bsOf s (n + 2) = c2 at HKEY HCP HB2
      obtain ⟨S, hSS⟩ : ∃ S : World → Prop, S = fun _ => True := ⟨_, rfl⟩
      have hS : ∀ w', S w' := fun w' => by rw [hSS]; trivial
      have hSd := hS wr.drew
      clear hSS
      go_wp2_with fail
      refine wp_region_held (S := S) (by kernel_rfl) ?_
      change wpAnyH _ _ _ _ _ _ _ _ (World.drew _)
      refine wpAnyH_take (i := 0) (v := .slice (some ⟨w.heap.size + 2, 0, none⟩) 3 3) rfl (by kernel_rfl) (by kernel_rfl) (by kernel_rfl) (fun _ _ _ h => h) (Or.inl ⟨by rfl, by intro w' hS'; go_simp <;> (first | omega | (rw [IntKind.wrap_i64]; omega) | (rw [IntKind.wrap_u64]; omega) | (rw [IntKind.wrap_u32]; omega) | (rw [Int.tmod_eq_emod_of_nonneg (by omega)]))⟩) hSd ?_
      (try simp only [List.getElem_toArray, List.getElem_cons_succ, List.getElem_cons_zero, Act.put, List.setIfInBounds_toArray, List.set_cons_zero, List.set_cons_succ])
      refine wpAnyH_take (i := 1) (v := .string s) rfl (by kernel_rfl) (by kernel_rfl) (by kernel_rfl) (fun _ _ _ h => h) (Or.inl ⟨by rfl, by intro w' hS'; go_simp <;> (first | omega | (rw [IntKind.wrap_i64]; omega) | (rw [IntKind.wrap_u64]; omega) | (rw [IntKind.wrap_u32]; omega) | (rw [Int.tmod_eq_emod_of_nonneg (by omega)]))⟩) hSd ?_
      (try simp only [List.getElem_toArray, List.getElem_cons_succ, List.getElem_cons_zero, Act.put, List.setIfInBounds_toArray, List.set_cons_zero, List.set_cons_succ])
      refine wpAnyH_take (i := 2) (v := .int .i64 (n : Int)) rfl (by kernel_rfl) (by kernel_rfl) (by kernel_rfl) (fun _ _ _ h => h) (Or.inl ⟨by rfl, by intro w' hS'; go_simp <;> (first | omega | (rw [IntKind.wrap_i64]; omega) | (rw [IntKind.wrap_u64]; omega) | (rw [IntKind.wrap_u32]; omega) | (rw [Int.tmod_eq_emod_of_nonneg (by omega)]))⟩) hSd ?_
      (try simp only [List.getElem_toArray, List.getElem_cons_succ, List.getElem_cons_zero, Act.put, List.setIfInBounds_toArray, List.set_cons_zero, List.set_cons_succ])
      refine wpAnyH_take (i := 3) (v := .string (s.extract n s.size)) rfl (by kernel_rfl) (by kernel_rfl) (by kernel_rfl) (fun _ _ _ h => h) (Or.inl ⟨by rfl, by intro w' hS'; go_simp <;> (first | omega | (rw [IntKind.wrap_i64]; omega) | (rw [IntKind.wrap_u64]; omega) | (rw [IntKind.wrap_u32]; omega) | (rw [Int.tmod_eq_emod_of_nonneg (by omega)]))⟩) hSd ?_
      (try simp only [List.getElem_toArray, List.getElem_cons_succ, List.getElem_cons_zero, Act.put, List.setIfInBounds_toArray, List.set_cons_zero, List.set_cons_succ])
      refine held_step (i := 4) (by kernel_rfl) rfl (by rfl) ?_
      refine Lib.wp_copy_run _ _ _ 36 9 rfl _ _ rfl rfl (HCP.out _) ?_
      refine ⟨hS _, ?_⟩
      (try simp only [List.getElem_toArray, List.getElem_cons_succ, List.getElem_cons_zero, Act.put, List.setIfInBounds_toArray, List.set_cons_zero, List.set_cons_succ])
      refine wpAnyH_done (by kernel_rfl) ?_ _
      generalize wr.drew.setCells (w.heap.size + 2) 0 [.int .u8 (c0 : Nat), .int .u8 (c1 : Nat), .int .u8 (c2 : Nat)] = w2 at HB2 ⊢
      have HR : Hid _ := HB2.out.row
      have HO : Hid _ := HB2.out.own
      go_wp2_with (first
        | (refine wpList_load_row rfl 154 _ rfl (w.heap.size + 2) rfl 154 #[.int .u8 c0, .int .u8 c1, .int .u8 c2] (0, 0) _ HR.out Try.underlying154 rfl info3 ?_)
        | (at_lookup; refine wpList_lookup_own_ok_int _ rfl _ _ 153 rfl 154 3 .i64 arr3_law Try.underlying153 Try.underlying3 (zeroI _) (w.heap.size + 1) n (C3 (bsOf s) n) rfl HO.out _ _ rfl HKEY.out ?_; intro c hat hwc; refine hold_goal ?_))
      rcases HLOOK.out c hat with ⟨hh, hp⟩ | ⟨hh, q, hq, hcq, hp⟩
      · rw [hh]
        have HPP : Hid (prevP (bsOf s) n n = 0) := hp
        have HWF : Hid ((Lit.int .i64 (n : Int)).wf = true) := by
          show (Lit.int .i64 (n : Int)).wf = true
          simp [Lit.wf, IntKind.min, IntKind.max, IntKind.signed, IntKind.bits]; omega
        clear hat hwc hh hp
        refine id ?_
        unfold Hid
        go_wp2_with (first
          | (refine wpList_load_row rfl 154 _ rfl (w.heap.size + 2) rfl 154 #[.int .u8 c0, .int .u8 c1, .int .u8 c2] (0, 0) _ HR.out Try.underlying154 rfl info3 ?_)
          | (at_mapUpdate; refine wpList_mapUpdate_own _ rfl _ _ _ 153 rfl 154 3 arr3_law Try.underlying153 _ (w.heap.size + 1) n _ rfl HO.out (by unfold maxLen; omega) _ _ _ rfl rfl HKEY.out _ [] (plainElem_int Try.underlying3 HWF.out) ?_; intro w1 hown1 hgrow1; refine hold_goal ?_))
        have HB3 : Hid (BW s (n + 1) w w1 cur #[.int .u8 (c0 : Nat), .int .u8 (c1 : Nat), .int .u8 (c2 : Nat)]) := HB2.out.put hown1 hgrow1
        clear hown1 hgrow1
        unfold Hid
        go_wp2_with fail
        go_roundw
        case rel => exact ⟨n + 1, cur, _, by omega, Or.inr (by omega), by go_num, hcs, rfl, HB3, fun j hj => by
          rw [HP.out j, HPP.out]
          by_cases e : j = n
          · subst e; rw [if_pos rfl]; have := HCUR.out j hj; rwa [if_neg (by omega)] at this
          · rw [if_neg e]; exact HCUR.out j hj⟩
        case measure => simp [lonIntOf]; omega
      · rw [hh]
        subst hcq
        have HPP : Hid (prevP (bsOf s) n n = n - q) := hp
        have HWF : Hid ((Lit.int .i64 (n : Int)).wf = true) := by
          show (Lit.int .i64 (n : Int)).wf = true
          simp [Lit.wf, IntKind.min, IntKind.max, IntKind.signed, IntKind.bits]; omega
        have hsub : IntKind.i64.wrap ((n : Int) - (q : Int)) = ((n - q : Nat) : Int) := by rw [IntKind.wrap_i64]; omega
        have hcell : w2.cell? ⟨w.heap.size, n, none⟩ = some (.int .i64 0) := by
          have h1 := HCUR.out n (by omega)
          rw [if_neg (by omega)] at h1
          exact (cell_of_row w2 _ n _ _ _ HB2.out.st).trans h1
        have hfz : w2.frozen? ⟨w.heap.size, n, none⟩ = false := frozen_of_row w2 _ n _ _ HB2.out.st
        clear hat hwc hh hp
        unfold Hid
        have HB3 : Hid (BW s n w (w2.setCell ⟨w.heap.size, n, none⟩ (.int .i64 ((n - q : Nat) : Int))) (cur.setIfInBounds n (.int .i64 ((n - q : Nat) : Int))) #[.int .u8 (c0 : Nat), .int .u8 (c1 : Nat), .int .u8 (c2 : Nat)]) := HB2.out.setC n _
        clear HR HO
        have HR : Hid _ := HB3.out.row
        have HO : Hid _ := HB3.out.own
        go_wp2_with (first
          | (refine wpList_load_row rfl 154 _ rfl (w.heap.size + 2) rfl 154 #[.int .u8 c0, .int .u8 c1, .int .u8 c2] (0, 0) _ HR.out Try.underlying154 rfl info3 ?_)
          | (at_mapUpdate; refine wpList_mapUpdate_own _ rfl _ _ _ 153 rfl 154 3 arr3_law Try.underlying153 _ (w.heap.size + 1) n _ rfl HO.out (by unfold maxLen; omega) _ _ _ rfl rfl HKEY.out _ [] (plainElem_int Try.underlying3 HWF.out) ?_; intro w1 hown1 hgrow1; refine hold_goal ?_))
        have HB4 : Hid (BW s (n + 1) w w1 (cur.setIfInBounds n (.int .i64 ((n - q : Nat) : Int))) #[.int .u8 (c0 : Nat), .int .u8 (c1 : Nat), .int .u8 (c2 : Nat)]) := HB3.out.put hown1 hgrow1
        clear hown1 hgrow1
        unfold Hid
        go_wp2_with fail
        go_roundw
        case rel => exact ⟨n + 1, _, _, by omega, Or.inr (by omega), by go_num, by simpa using hcs, rfl, HB4, fun j hj => by
          rw [HP.out j, HPP.out]
          by_cases e : j = n
          · subst e; rw [if_pos rfl, Array.getElem?_setIfInBounds_self_of_lt (by omega)]
          · rw [if_neg e, Array.getElem?_setIfInBounds_ne (by omega)]; exact HCUR.out j hj⟩
        case measure => simp [lonIntOf]; omega
    · have hend : ¬ (n : Int) < (s.size : Int) - 3 + 1 := hlt
      go_wp2_with fail
      go_ret
      refine ⟨⟨rfl, (Array.getElem?_eq_some_iff.1 HB.out.st).1, fun j hj => ?_⟩, HB.out.below⟩
      rw [cell_of_row wr _ j _ _ _ HB.out.st, HCUR.out j hj]
      congr 3
      unfold stF
      by_cases h3 : j + 3 ≤ s.size
      · rw [if_pos h3, if_pos (by omega)]
      · rw [if_neg h3, if_neg (by omega)]
end Go.Proofs.Ytbkjcngehhdchaa

/-!   Tokens: the code's. -/
namespace Go.Proofs.Ytbkjcngehhdchaa
open Go.RowKit
set_option linter.unusedVariables false
set_option linter.unusedSimpArgs false

theorem owns_base {w : World} {B C : Nat} {e : TypeId} {v : Value} {n : Nat} {xs : List Value} (h : w.ownsRow B e 4 v n xs) (hC : C ≤ B) : w.ownsRow C e 4 v n xs := by
  obtain ⟨h0, h1 | ⟨g, cap, cur, h1, h2, h3⟩⟩ := h
  · exact ⟨h0, Or.inl h1⟩
  · exact ⟨h0, Or.inr ⟨g, cap, cur, h1, Nat.le_trans hC h2, h3⟩⟩
set_option maxRecDepth 100000 in
set_option maxHeartbeats 2000000 in
theorem tokens_any (s : ByteArray) (w : World) (hs : s.size ≤ 4000) :
    Calls Try.prog 77 #[.string s] w fun e w' => (∃ v, e = .returned (.tuple #[v, .bool true]) ∧ w'.ownsRow w.heap.size 106 4 v (tkL s).length (tkC (tkL s))) ∧ Below w.heap.size w w' := by
  obtain ⟨i0, hi, hz0, hz1, hz2⟩ := info_parts Try.infT
  have hsI : (s.size : Int) ≤ 4000 := by omega
  have HS : Hid (∀ w, Calls Try.prog 94 #[.string s] w fun e w' => (e = .returned (.slice (some ⟨w.heap.size, 0, none⟩) s.size s.size) ∧ w.heap.size < w'.heap.size ∧ ∀ j, j < s.size → w'.cell? ⟨w.heap.size, j, none⟩ = some (.int .i64 (stF (bsOf s) s.size j : Nat))) ∧ Below w.heap.size w w') := fun w => steps_any s w hs
  have HC : Hid (∀ (a : Nat) (w : World) (g : Nat), a < s.size → g < w.heap.size → (∀ j, j < s.size → w.cell? ⟨g, j, none⟩ = some (.int .i64 (stF (bsOf s) s.size j : Nat))) → Calls Try.prog 95 #[.string s, .slice (some ⟨g, 0, none⟩) s.size s.size, .int .i64 (a : Int)] w fun e w' => (∃ d n : Nat, IsB (g3 (lonF s a)) a d n ∧ n ≤ 66 ∧ e = .returned (.tuple #[.int .i64 (d : Int), .int .i64 (n : Int)])) ∧ Below w.heap.size w w') := fun a w g ha hg hc =>
    copy_any s a g s.size (stF (bsOf s) s.size) w ha hs (stF_ok _ _) (fun j hj => by have := stF_le (bsOf s) s.size j; omega) hc hg
  go_enter Try.func77, Try.ntmps77
  go_wp2_with fail
  refine (HS.out _).mono ?_
  rintro e w1 ⟨⟨rfl, hl1, hc1⟩, hb1⟩
  have HB1 : Hid (Below w.heap.size w w1) := hb1
  have HL1 : Hid (w.heap.size < w1.heap.size) := hl1
  have HC1 : Hid (∀ j, j < s.size → w1.cell? ⟨w.heap.size, j, none⟩ = some (.int .i64 (stF (bsOf s) s.size j : Nat))) := hc1
  clear hl1 hc1 hb1 HS
  go_wp2_with fail
  go_loopw [5, 6] (fun v c wr => ∃ (l : List TkN) (a : Nat), c = .int .i64 (a : Int) ∧ Hid (TkS s l a) ∧ wr.ownsRow w1.heap.size 106 4 v l.length (tkC l) ∧ Below w1.heap.size w1 wr) (fun _ c _ => s.size - (lonIntOf c).toNat)
  case atStart => exact ⟨[], 0, rfl, TkS.start s, ⟨rfl, Or.inl ⟨rfl, rfl⟩⟩, Below.refl _ _⟩
  case round =>
    obtain ⟨l, a, rfl, HT, hown, hb⟩ := hrel
    have hlen := HT.out.len
    by_cases ha : a < s.size
    · have haI : (a : Int) < (s.size : Int) := by omega
      have HCC : Hid (Calls Try.prog 95 #[.string s, .slice (some ⟨w.heap.size, 0, none⟩) s.size s.size, .int .i64 (a : Int)] wr fun e w' => (∃ d n : Nat, IsB (g3 (lonF s a)) a d n ∧ n ≤ 66 ∧ e = .returned (.tuple #[.int .i64 (d : Int), .int .i64 (n : Int)])) ∧ Below wr.heap.size wr w') :=
        HC.out a wr w.heap.size ha (Nat.lt_of_lt_of_le HL1.out hb.size) (fun j hj => (hb.cell (p := ⟨w.heap.size, j, none⟩) HL1.out).trans (HC1.out j hj))
      have HTN : Hid (TkS s (l ++ [tokAt s a]) (a + stepAt s a)) := HT.out.step ha
      have HSN0 : Hid _ := tkC_snoc l (tokAt s a)
      have hstep := step_in ha
      have hca := bsOf_at s a ha
      have hcl := bsOf_lt s a
      go_wp2_with fail
      refine HCC.out.mono ?_
      rintro e w3 ⟨⟨d, n, hB, hn66, rfl⟩, hb3⟩
      replace hown := owns_call4 hown hb3
      replace hb3 := bl_trans3 hb hb3 hb.size
      clear hb HCC
      by_cases h0 : n = 0
      · subst h0
        obtain ⟨ht, hst⟩ := tok_byte hB
        have HSTEP : Hid (stepAt s a = 1) := hst
        have HSN : Hid (tkC l ++ [Value.int .i64 0, .int .i64 ((bsOf s a : Nat) : Int), .int .i64 0, .int .i64 0] = tkC (l ++ [tokAt s a])) := by
          have := HSN0.out
          rw [ht] at this ⊢
          exact this
        have hst1 := HSTEP.out
        clear hB HSN0 ht hst
        generalize bsOf s a = c0 at hca hcl HSN
        go_wp2_with (at_builtin; (refine wpList_append_own _ rfl _ _ 102 rfl w1.heap.size 106 i0 _ 4 32 Try.underlying102 hi hz0 hz1 hz2 rfl (by decide) _ _ _ rfl (hown.alloc _) ⟨w3.heap.size, 0, none⟩ 1 1 [_, _, _, _] rfl rfl (cell_four_new _ _ _ _ _ _) ?c2 ?c3 ?c4 ?c5 ?_))
        case c2 => exact four_one _ _ _ _
        case c3 => unfold maxLen; omega
        case c4 => omega
        case c5 => have := hb3.size; simp; omega
        intro v' w4 hown' hgrow _
        have hb4 : Below w1.heap.size w1 w4 := (hb3.alloc hb3.size _).grown hgrow (by have := hb3.size; simp; omega) (fun k hk => (hown.lt k hk).1)
        have H4 : Hid (w4.ownsRow w1.heap.size 106 4 v' (l.length + 1) (tkC (l ++ [tokAt s a])) ∧ Below w1.heap.size w1 w4) := ⟨by have h := hown'; rw [HSN.out] at h; exact h, hb4⟩
        clear hown' hgrow hown hb4 HSN
        go_wp2_with fail
        go_roundw
        case rel => exact ⟨l ++ [tokAt s a], a + stepAt s a, by rw [HSTEP.out]; go_num, HTN.out, by rw [List.length_append]; exact H4.out.1, H4.out.2⟩
        case measure => simp [lonIntOf]; omega
      · have h0I : ¬ (n : Int) = 0 := by omega
        have h0b : ((n : Int) == 0) = false := beq_eq_false_iff_ne.2 h0I
        obtain ⟨ht, hst⟩ := tok_copy hB (by omega)
        have HSTEP : Hid (stepAt s a = n) := hst
        have HSN : Hid (tkC l ++ [Value.int .i64 1, .int .i64 0, .int .i64 (d : Int), .int .i64 (n : Int)] = tkC (l ++ [tokAt s a])) := by
          have := HSN0.out
          rw [ht] at this ⊢
          exact this
        have hst1 := HSTEP.out
        have hwn : IntKind.i64.wrap ((a : Int) + (n : Int)) = ((a + n : Nat) : Int) := by rw [IntKind.wrap_i64]; omega
        clear hB HSN0 ht hst hca hcl
        go_wp2_with (at_builtin; (refine wpList_append_own _ rfl _ _ 102 rfl w1.heap.size 106 i0 _ 4 32 Try.underlying102 hi hz0 hz1 hz2 rfl (by decide) _ _ _ rfl (hown.alloc _) ⟨w3.heap.size, 0, none⟩ 1 1 [_, _, _, _] rfl rfl (cell_four_new _ _ _ _ _ _) ?c2 ?c3 ?c4 ?c5 ?_))
        case c2 => exact four_one _ _ _ _
        case c3 => unfold maxLen; omega
        case c4 => omega
        case c5 => have := hb3.size; simp; omega
        intro v' w4 hown' hgrow _
        have hb4 : Below w1.heap.size w1 w4 := (hb3.alloc hb3.size _).grown hgrow (by have := hb3.size; simp; omega) (fun k hk => (hown.lt k hk).1)
        have H4 : Hid (w4.ownsRow w1.heap.size 106 4 v' (l.length + 1) (tkC (l ++ [tokAt s a])) ∧ Below w1.heap.size w1 w4) := ⟨by have h := hown'; rw [HSN.out] at h; exact h, hb4⟩
        clear hown' hgrow hown hb4 HSN
        go_wp2_with fail
        go_roundw
        case rel => exact ⟨l ++ [tokAt s a], a + stepAt s a, by rw [HSTEP.out]; go_num, HTN.out, by rw [List.length_append]; exact H4.out.1, H4.out.2⟩
        case measure => simp [lonIntOf]; omega
    · have haI : ¬ (a : Int) < (s.size : Int) := by omega
      have hfin := HT.out.fin ha
      subst hfin
      go_wp2_with fail
      go_ret2
      exact ⟨⟨_, rfl, owns_base hown (Nat.le_of_lt HL1.out)⟩, bl_trans3 HB1.out hb HB1.out.size⟩
end Go.Proofs.Ytbkjcngehhdchaa

/-!   Tokens: the specification's. -/
namespace Go.Proofs.Ytbkjcngehhdchaa
open Go.RowKit
set_option linter.unusedVariables false
set_option linter.unusedSimpArgs false

set_option maxRecDepth 100000 in
set_option maxHeartbeats 2000000 in
theorem stokens_any (s : ByteArray) (w : World) (hs : s.size ≤ 4000) :
    Calls Try.prog 71 #[.string s] w fun e w' => (∃ v, e = .returned (.tuple #[v, .bool true]) ∧ w'.ownsRow w.heap.size 106 4 v (tkL s).length (tkC (tkL s))) ∧ Below w.heap.size w w' := by
  obtain ⟨i0, hi, hz0, hz1, hz2⟩ := info_parts Try.infT
  have hsI : (s.size : Int) ≤ 4000 := by omega
  have HL : Hid (∀ (a : Nat) (w : World), a < s.size → Calls Try.prog 93 #[.string s, .int .i64 (a : Int)] w fun e w' => e = .returned (lonV s a) ∧ Below w.heap.size w w') := fun a w ha => sl6_any s a w ha hs
  have HTA : Hid (∀ a, tokAt s a = if 3 ≤ (best (lonF s a) a).2 then ⟨1, 0, (best (lonF s a) a).1, (best (lonF s a) a).2⟩ else ⟨0, bsOf s a, 0, 0⟩) := fun a => rfl
  have HSA : Hid (∀ a, stepAt s a = if 3 ≤ (best (lonF s a) a).2 then (best (lonF s a) a).2 else 1) := fun a => rfl
  go_enter Try.func71, Try.ntmps71
  go_wp2_with fail
  go_loopw [4, 5] (fun v c wr => ∃ (l : List TkN) (a : Nat), c = .int .i64 (a : Int) ∧ Hid (TkS s l a) ∧ wr.ownsRow w.heap.size 106 4 v l.length (tkC l) ∧ Below w.heap.size w wr) (fun _ c _ => s.size - (lonIntOf c).toNat)
  case atStart => exact ⟨[], 0, rfl, TkS.start s, World.ownsRow_made w #[] 0 (Nat.le_refl _) (by unfold maxLen; omega) rfl, (Below.refl _ _).alloc (Nat.le_refl _) _⟩
  case round =>
    obtain ⟨l, a, rfl, HT, hown, hb⟩ := hrel
    have hlen := HT.out.len
    by_cases ha : a < s.size
    · have haI : (a : Int) < (s.size : Int) := by omega
      have HCC : Hid (Calls Try.prog 93 #[.string s, .int .i64 (a : Int)] wr fun e w' => e = .returned (.tuple #[.int .i64 ((best (lonF s a) a).1 : Nat), .int .i64 ((best (lonF s a) a).2 : Nat)]) ∧ Below wr.heap.size wr w') := HL.out a wr ha
      have HTN : Hid (TkS s (l ++ [tokAt s a]) (a + stepAt s a)) := HT.out.step ha
      have HSN0 : Hid _ := tkC_snoc l (tokAt s a)
      have hstep := step_in ha
      have hca := bsOf_at s a ha
      have hcl := bsOf_lt s a
      have hta := HTA.out a
      have hsa := HSA.out a
      generalize (best (lonF s a) a).1 = d at *
      generalize (best (lonF s a) a).2 = n at *
      go_wp2_with fail
      refine HCC.out.mono ?_
      rintro e w3 ⟨rfl, hb3⟩
      replace hown := owns_call4 hown hb3
      replace hb3 := bl_trans3 hb hb3 hb.size
      clear hb HCC
      by_cases h0 : 3 ≤ n
      · have h0I : 3 ≤ (n : Int) := by omega
        rw [if_pos h0] at hta hsa
        have HSTEP : Hid (stepAt s a = n) := hsa
        have HSN : Hid (tkC l ++ [Value.int .i64 1, .int .i64 0, .int .i64 (d : Int), .int .i64 (n : Int)] = tkC (l ++ [tokAt s a])) := by
          have := HSN0.out
          rw [hta] at this ⊢
          exact this
        have hn1 : a + n ≤ s.size := by omega
        have hst1 := HSTEP.out
        clear HSN0 hta hsa hca hcl
        go_wp2_with (at_builtin; (refine wpList_append_own _ rfl _ _ 102 rfl w.heap.size 106 i0 _ 4 32 Try.underlying102 hi hz0 hz1 hz2 rfl (by decide) _ _ _ rfl (hown.alloc _) ⟨w3.heap.size, 0, none⟩ 1 1 [_, _, _, _] rfl rfl (cell_four_new _ _ _ _ _ _) ?c2 ?c3 ?c4 ?c5 ?_))
        case c2 => exact four_one _ _ _ _
        case c3 => unfold maxLen; omega
        case c4 => omega
        case c5 => have := hb3.size; simp; omega
        intro v' w4 hown' hgrow _
        have hb4 : Below w.heap.size w w4 := (hb3.alloc hb3.size _).grown hgrow (by have := hb3.size; simp; omega) (fun k hk => (hown.lt k hk).1)
        have H4 : Hid (w4.ownsRow w.heap.size 106 4 v' (l.length + 1) (tkC (l ++ [tokAt s a])) ∧ Below w.heap.size w w4) := ⟨by have h := hown'; rw [HSN.out] at h; exact h, hb4⟩
        clear hown' hgrow hown hb4 HSN
        go_wp2_with fail
        go_roundw
        case rel => exact ⟨l ++ [tokAt s a], a + stepAt s a, by rw [HSTEP.out]; go_num, HTN.out, by rw [List.length_append]; exact H4.out.1, H4.out.2⟩
        case measure => simp [lonIntOf]; omega
      · have h0I : ¬ 3 ≤ (n : Int) := by omega
        rw [if_neg h0] at hta hsa
        have HSTEP : Hid (stepAt s a = 1) := hsa
        have HSN : Hid (tkC l ++ [Value.int .i64 0, .int .i64 ((bsOf s a : Nat) : Int), .int .i64 0, .int .i64 0] = tkC (l ++ [tokAt s a])) := by
          have := HSN0.out
          rw [hta] at this ⊢
          exact this
        have hst1 := HSTEP.out
        clear HSN0 hta hsa
        generalize bsOf s a = c0 at hca hcl HSN
        go_wp2_with (at_builtin; (refine wpList_append_own _ rfl _ _ 102 rfl w.heap.size 106 i0 _ 4 32 Try.underlying102 hi hz0 hz1 hz2 rfl (by decide) _ _ _ rfl (hown.alloc _) ⟨w3.heap.size, 0, none⟩ 1 1 [_, _, _, _] rfl rfl (cell_four_new _ _ _ _ _ _) ?c2 ?c3 ?c4 ?c5 ?_))
        case c2 => exact four_one _ _ _ _
        case c3 => unfold maxLen; omega
        case c4 => omega
        case c5 => have := hb3.size; simp; omega
        intro v' w4 hown' hgrow _
        have hb4 : Below w.heap.size w w4 := (hb3.alloc hb3.size _).grown hgrow (by have := hb3.size; simp; omega) (fun k hk => (hown.lt k hk).1)
        have H4 : Hid (w4.ownsRow w.heap.size 106 4 v' (l.length + 1) (tkC (l ++ [tokAt s a])) ∧ Below w.heap.size w w4) := ⟨by have h := hown'; rw [HSN.out] at h; exact h, hb4⟩
        clear hown' hgrow hown hb4 HSN
        go_wp2_with fail
        go_roundw
        case rel => exact ⟨l ++ [tokAt s a], a + stepAt s a, by rw [HSTEP.out]; go_num, HTN.out, by rw [List.length_append]; exact H4.out.1, H4.out.2⟩
        case measure => simp [lonIntOf]; omega
    · have haI : ¬ (a : Int) < (s.size : Int) := by omega
      have hfin := HT.out.fin ha
      subst hfin
      go_wp2_with fail
      go_ret2
      exact ⟨⟨_, rfl, hown⟩, hb⟩
set_option maxRecDepth 100000 in
theorem tokens_no (s : ByteArray) (w : World) (hs : ¬ s.size ≤ 4000) :
    Calls Try.prog 77 #[.string s] w fun e w' => e = .returned (.tuple #[.slice none 0 0, .bool false]) ∧ w' = w := by
  have h1 : (4000 : Int) < (s.size : Int) := by omega
  clear hs
  go_enter Try.func77, Try.ntmps77
  go_wp2_with fail
  go_ret2
  exact ⟨rfl, rfl⟩
set_option maxRecDepth 100000 in
theorem stokens_no (s : ByteArray) (w : World) (hs : ¬ s.size ≤ 4000) :
    Calls Try.prog 71 #[.string s] w fun e w' => e = .returned (.tuple #[.slice none 0 0, .bool false]) ∧ w' = w := by
  have h1 : (4000 : Int) < (s.size : Int) := by omega
  clear hs
  go_enter Try.func71, Try.ntmps71
  go_wp2_with fail
  go_ret2
  exact ⟨rfl, rfl⟩
end Go.Proofs.Ytbkjcngehhdchaa
