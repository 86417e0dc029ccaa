/-
  How far ahead of each place its three bytes stood last: the code's, by a map.
-/
import Derived.Test.YtibciflmalfbjaaStepMath
import Derived.Test.YtibciflmalfbjaaLonC
import Derived.Test.YtibciflmalfbjaaLonH
import Derived.Test.YtibciflmalfbjaaConv
import Derived.Laws.Rows
import Derived.Laws.MakeOwn
import Derived.Laws.OwnMore
import Derived.Lib.LazyBuf
import Derived.Lib.SlBuf
import Derived.Maps.OwnOps
namespace Go.Proofs.Ytibciflmalfbjaa
open Go.RowKit
open Go.Maps (Keyed)
set_option linter.unusedVariables false
set_option linter.unusedSimpArgs false

theorem Try.infi : (Try.prog.info? 3).map (fun i => (i.zero, i.size, i.bytes)) = some (some (.int .i64 0), 1, 8) := by kernel_rfl
def zI (m : Nat) : Array Value := madeCells #[Value.int .i64 0] m
theorem zI_at {m j : Nat} (h : j < m) : (zI m)[j]? = some (.int .i64 0) := by
  rw [← Array.getElem?_toList, zI, toList_madeCells_one, List.getElem?_replicate, if_pos h]
theorem zI_made (m : Nat) (hm : m ≤ 4000) (W : World) : (Instr.makeSlice 64 (.int .i64 (m : Int)) (.int .i64 (m : Int))).run Try.prog W = .ok (.slice (some ⟨W.heap.size, 0, none⟩) m m) (W.alloc (.cells (zI m) 3)) := by
  obtain ⟨i0, hi, hz0, hz1, hz2⟩ := info_parts Try.infi
  have h := run_make (P := Try.prog) W 64 3 i0 (.int .i64 0) Try.underlying64 hi hz0 .i64 .i64 (m : Int) (m : Int) (by omega) (by omega) (by rw [hz2]; omega) (by omega)
  have e : madeCells (Value.int .i64 0).cells ((m : Int).toNat * i0.size) = zI m := by rw [hz1, Int.toNat_natCast, Nat.mul_one]; rfl
  rw [e] at h
  simpa using h
theorem arr3_ty : Try.prog.underlying 145 = some (.array (Try.prog.arrayLen 145) (Try.prog.elem 145)) := by kernel_rfl
theorem arr3_len : Try.prog.arrayLen 145 = 3 := by kernel_rfl
theorem arr3_slice (W : World) (b : Nat) :
    (Instr.sliceAt 145 (.pointer (some ⟨b, 0, none⟩)) none none none).run Try.prog W = .ok (.slice (some ⟨b, 0, none⟩) 3 3) W := by
  have hsz : (sizeOf (Try.prog.elem 145)).run Try.prog W = .ok 1 W := by kernel_rfl
  rw [run_sliceAt_array_all W 145 _ arr3_ty, hsz, arr3_len]
  simp [slicedAt, Result.andThen, Addr.add]
theorem arr3_key : WideMaps.ArrKey Try.prog 145 5 3 := ⟨by kernel_rfl, by kernel_rfl, by kernel_rfl, by kernel_rfl⟩
theorem arr3_law : Keyed Try.prog 145 := Keyed.of_law (arr3_key).law
theorem types_some : ∃ m, Try.prog.types.size = m + 1 := ⟨Try.prog.types.size - 1, by kernel_rfl⟩
theorem zeroI (w : World) : (zeroValue 3).run Try.prog w = .ok (.int .i64 0) w := by kernel_rfl
/-- the first three bytes of a longer text -/
theorem copy_three (w : World) (ty : TypeId) (g : Nat) (t : ByteArray) (X : Array Value) (ht : 3 ≤ t.size) (hX : X.size = 3) (hg : w.heap[g]? = some (.cells X 145 (0, 0))) :
    (Builtin.copy_ #[25, 9] ty #[.slice (some ⟨g, 0, none⟩) 3 3, .string t]).run Try.prog w = .ok (goInt 3) (w.setCells g 0 [.int .u8 (bsOf t 0 : Nat), .int .u8 (bsOf t 1 : Nat), .int .u8 (bsOf t 2 : Nat)]) := by
  have hz : (Go.sizeOf 5).run Try.prog w = .ok 1 w := by kernel_rfl
  have hmin : Nat.min t.size 3 = 3 := Nat.min_eq_right ht
  have hcell : ∀ j, j < 3 → w.cell? ⟨g, j, none⟩ = X[j]? := fun j _ => cell_of_row w g j _ _ _ hg
  have htl : List.take 3 (t.data.toList.map fun x => Value.int .u8 (x.toNat : Int)) = [.int .u8 (bsOf t 0 : Nat), .int .u8 (bsOf t 1 : Nat), .int .u8 (bsOf t 2 : Nat)] := by
    have hl : 3 ≤ t.data.toList.length := by rw [← Lib.size_eq]; exact ht
    unfold bsOf
    match h : t.data.toList, hl with
    | a :: b :: c :: r, _ => rfl
  have hst := run_storeCells_cells (P := Try.prog) g 0 [.int .u8 (bsOf t 0 : Nat), .int .u8 (bsOf t 1 : Nat), .int .u8 (bsOf t 2 : Nat)] 0 w (by
    intro j hj
    have hj3 : j < 3 := hj
    rw [show 0 + 0 + j = j by omega, hcell j hj3, Array.getElem?_eq_getElem (by omega)]; rfl) (by
    intro j hj
    have hj3 : j < 3 := hj
    rw [show 0 + 0 + j = j by omega]
    exact frozen_of_row w g j _ _ hg) (by
    intro v hv
    simp only [List.mem_cons, List.not_mem_nil, or_false] at hv
    rcases hv with rfl | rfl | rfl <;> rfl)
  simp [Builtin.copy_, run_underlying Try.underlying25, Builtin.lenOf, Builtin.firstCells, hz, hmin]
  rw [htl, hst]
  rfl
/-- the blocks that the call makes: the steps, the map, three bytes -/
structure BW (s : ByteArray) (n : Nat) (w wr : World) (cur X : Array Value) : Prop where
  below : Below w.heap.size w wr
  st : wr.heap[w.heap.size]? = some (.cells cur 3 (0, 0))
  own : wr.ownsMap Try.prog 145 (plainElem (H := Unit) Try.prog 3) (w.heap.size + 1) n (C3 (bsOf s) n)
  row : wr.heap[w.heap.size + 2]? = some (.cells X 145 (0, 0))
theorem own_other {w w' : World} {b n : Nat} {D : DataW Unit} (h : w.ownsMap Try.prog 145 (plainElem (H := Unit) Try.prog 3) b n D) (he : w'.heap[b]? = w.heap[b]?) : w'.ownsMap Try.prog 145 (plainElem (H := Unit) Try.prog 3) b n D := by
  obtain ⟨es, clock, hb, F, hs, hD⟩ := h
  exact ⟨es, clock, he.trans hb, F, hs, hD⟩
theorem BW.drew {s : ByteArray} {n : Nat} {w wr : World} {cur X : Array Value} (h : BW s n w wr cur X) : BW s n w wr.drew cur X := ⟨h.below.drew, h.st, own_other h.own rfl, h.row⟩
theorem BW.setX {s : ByteArray} {n : Nat} {w wr : World} {cur X : Array Value} (h : BW s n w wr cur X) (t : Nat) (v : Value) : BW s n w (wr.setCell ⟨w.heap.size + 2, t, none⟩ v) cur (X.setIfInBounds t v) :=
  ⟨h.below.setCell (p := ⟨w.heap.size + 2, t, none⟩) (by show _ ≤ w.heap.size + 2; omega) v,
    by rw [heap_setCell_other wr ⟨w.heap.size + 2, t, none⟩ _ v (by show _ ≠ w.heap.size + 2; omega)]; exact h.st,
    own_other h.own (heap_setCell_other wr ⟨w.heap.size + 2, t, none⟩ _ v (by show _ ≠ w.heap.size + 2; omega)),
    heap_setCell_same wr _ t _ _ _ h.row⟩
theorem BW.setC {s : ByteArray} {n : Nat} {w wr : World} {cur X : Array Value} (h : BW s n w wr cur X) (t : Nat) (v : Value) : BW s n w (wr.setCell ⟨w.heap.size, t, none⟩ v) (cur.setIfInBounds t v) X :=
  ⟨h.below.setCell (p := ⟨w.heap.size, t, none⟩) (Nat.le_refl _) v,
    heap_setCell_same wr _ t _ _ _ h.st,
    own_other h.own (heap_setCell_other wr ⟨w.heap.size, t, none⟩ _ v (by show _ ≠ w.heap.size; omega)),
    by rw [heap_setCell_other wr ⟨w.heap.size, t, none⟩ _ v (by show _ ≠ w.heap.size; omega)]; exact h.row⟩
theorem BW.put {s : ByteArray} {n : Nat} {w wr w1 : World} {cur X : Array Value} (h : BW s n w wr cur X) (ho : w1.ownsMap Try.prog 145 (plainElem (H := Unit) Try.prog 3) (w.heap.size + 1) (n + 1) (C3 (bsOf s) (n + 1))) (hg : wr.grownBy w1 (some (w.heap.size + 1))) : BW s (n + 1) w w1 cur X :=
  have l1 := (Array.getElem?_eq_some_iff.1 h.st).1
  have l2 := (Array.getElem?_eq_some_iff.1 h.row).1
  ⟨h.below.grown hg h.below.size (fun j hj => by cases hj; omega), (hg.block _ l1 (by simp)).trans h.st, ho, (hg.block _ l2 (by simp)).trans h.row⟩
theorem three_set {X : Array Value} (hX : X.size = 3) (a b c : Value) : ((X.setIfInBounds 0 a).setIfInBounds 1 b).setIfInBounds 2 c = #[a, b, c] := by
  obtain ⟨l⟩ := X
  match l, hX with
  | [x, y, z], _ => rfl
theorem hold_goal {p : Prop} (h : Hid p) : p := h.out
set_option maxRecDepth 100000 in
set_option maxHeartbeats 2000000 in
theorem steps_any (s : ByteArray) (w : World) (hs : s.size ≤ 4000) :
    Calls Try.prog 79 #[.string s] w fun e w' => (e = .returned (.slice (some ⟨w.heap.size, 0, none⟩) s.size s.size) ∧ w.heap.size < w'.heap.size ∧ ∀ j, j < s.size → w'.cell? ⟨w.heap.size, j, none⟩ = some (.int .i64 (stF (bsOf s) s.size j : Nat))) ∧ Below w.heap.size w w' := by
  have hmk := zI_made s.size hs
  have hmm := @run_makeMap Try.prog
  have hsl := arr3_slice
  have HZ : Hid (∀ j, j < s.size → (zI s.size)[j]? = some (.int .i64 0)) := fun j hj => zI_at hj
  have HZS : Hid ((zI s.size).size = s.size) := by
    show (zI s.size).size = s.size
    rw [← Array.length_toList, zI, toList_madeCells_one, List.length_replicate]
  have hsz : (s.size : Int) ≤ 4000 := by omega
  have hsz0 : 0 ≤ (s.size : Int) := by omega
  have hw1 : IntKind.i64.wrap ((s.size : Int) - 3) = (s.size : Int) - 3 := by rw [IntKind.wrap_i64]; omega
  have hw2 : IntKind.i64.wrap ((s.size : Int) - 3 + 1) = (s.size : Int) - 3 + 1 := by rw [IntKind.wrap_i64]; omega
  have HST : Hid (BW s 0 w (((w.alloc (.cells (zI s.size) 3)).alloc (.map #[] 0)).alloc (.cells #[.int .u8 0, .int .u8 0, .int .u8 0] 145)) (zI s.size) #[.int .u8 0, .int .u8 0, .int .u8 0]) := by
    refine ⟨(((Below.refl _ _).alloc (Nat.le_refl _) _).alloc (by simp) _).alloc (by simp; omega) _, ?_, ?_, ?_⟩
    · rw [Below.heap_alloc _ _ _ (by simp; omega), Below.heap_alloc _ _ _ (by simp)]
      exact heap_alloc_new w _
    · have h := World.ownsMap_made (w.alloc (.cells (zI s.size) 3)) Try.prog 145 (plainElem (H := Unit) Try.prog 3)
      rw [show (w.alloc (.cells (zI s.size) 3)).heap.size = w.heap.size + 1 by simp] at h
      exact own_other h (Below.heap_alloc _ _ _ (by simp))
    · have h := heap_alloc_new ((w.alloc (.cells (zI s.size) 3)).alloc (.map #[] 0)) (.cells #[.int .u8 0, .int .u8 0, .int .u8 0] 145)
      simpa using h
  generalize zI s.size = Z at *
  go_enter Try.func79, Try.ntmps79
  go_wp2_with fail
  clear hmk hmm
  generalize ((w.alloc (.cells Z 3)).alloc (.map #[] 0)).alloc (.cells #[.int .u8 0, .int .u8 0, .int .u8 0] 145) = W2 at HST ⊢
  have info3 : Option.map (·.size) (Try.prog.info? 145) = some 3 := by kernel_rfl
  go_loopw [17] (fun c wr => ∃ (n : Nat) (cur X : Array Value), (n : Int) ≤ (s.size : Int) ∧ (n = 0 ∨ n + 2 ≤ s.size) ∧ c = .int .i64 (n : Int) ∧ cur.size = s.size ∧ X.size = 3 ∧ Hid (BW s n w wr cur X) ∧ Hid (∀ j, j < s.size → cur[j]? = some (.int .i64 ((if j < n then prevP (bsOf s) j j else 0 : Nat) : Int)))) (fun c _ => s.size - (lonIntOf c).toNat)
  case atStart => exact ⟨0, Z, _, by omega, Or.inl rfl, rfl, HZS.out, rfl, HST, fun j hj => by rw [if_neg (by omega)]; exact HZ.out j hj⟩
  case round =>
    obtain ⟨n, cur, X, hnL, hn0, rfl, hcs, hXs, HB, HCUR⟩ := hrel
    clear HST
    by_cases hlt : (n : Int) < (s.size : Int) - 3 + 1
    · have hn3 : n + 3 ≤ s.size := by omega
      have hnI : (n : Int) ≤ (s.size : Int) := by omega
      have hnI2 : (n : Int) < (s.size : Int) := by omega
      have hnN : n ≤ s.size := by omega
      have HKEY : Hid _ := keyOf_three arr3_key Try.underlying5 types_some (bsOf_lt s) n
      have HLOOK : Hid _ := look3 (bsOf_lt s) n
      have HCP : Hid (∀ ty, (Builtin.copy_ #[25, 9] ty #[.slice (some ⟨w.heap.size + 2, 0, none⟩) 3 3, .string (s.extract n s.size)]).run Try.prog wr.drew = .ok (goInt 3) (wr.drew.setCells (w.heap.size + 2) 0 [.int .u8 (bsOf s n : Nat), .int .u8 (bsOf s (n + 1) : Nat), .int .u8 (bsOf s (n + 2) : Nat)])) := fun ty => by
        have h := copy_three wr.drew ty (w.heap.size + 2) (s.extract n s.size) X (by simp; omega) hXs HB.out.drew.row
        rw [bsOf_ext _ _ _ _ (by omega), bsOf_ext _ _ _ _ (by omega), bsOf_ext _ _ _ _ (by omega)] at h
        exact h
      have HB2 : Hid (BW s n w (wr.drew.setCells (w.heap.size + 2) 0 [.int .u8 (bsOf s n : Nat), .int .u8 (bsOf s (n + 1) : Nat), .int .u8 (bsOf s (n + 2) : Nat)]) cur #[.int .u8 (bsOf s n : Nat), .int .u8 (bsOf s (n + 1) : Nat), .int .u8 (bsOf s (n + 2) : Nat)]) := by
        have h := ((HB.out.drew.setX 0 (.int .u8 (bsOf s n : Nat))).setX 1 (.int .u8 (bsOf s (n + 1) : Nat))).setX 2 (.int .u8 (bsOf s (n + 2) : Nat))
        rw [three_set hXs] at h
        exact h
      have HBL : Hid (∀ j, bsOf s j < 256) := bsOf_lt s
      have HP : Hid (∀ j, (if j < n + 1 then prevP (bsOf s) j j else 0) = if j = n then prevP (bsOf s) n n else if j < n then prevP (bsOf s) j j else 0) := fun j => by
        by_cases e : j = n
        · subst e; rw [if_pos (by omega), if_pos rfl]
        · rw [if_neg e]
          by_cases l : j < n
          · rw [if_pos (by omega), if_pos l]
          · rw [if_neg (by omega), if_neg l]
      generalize bsOf s n = c0 at HKEY HCP HB2
      generalize bsOf s (n + 1) = c1 at HKEY HCP HB2
      generalize bsOf s (n + 2) = c2 at HKEY HCP HB2
      obtain ⟨S, hSS⟩ : ∃ S : World → Prop, S = fun _ => True := ⟨_, rfl⟩
      have hS : ∀ w', S w' := fun w' => by rw [hSS]; trivial
      have hSd := hS wr.drew
      clear hSS
      go_wp2_with fail
      refine wp_region_held (S := S) (by kernel_rfl) ?_
      change wpAnyH _ _ _ _ _ _ _ _ (World.drew _)
      refine wpAnyH_take (i := 0) (v := .slice (some ⟨w.heap.size + 2, 0, none⟩) 3 3) rfl (by kernel_rfl) (by kernel_rfl) (by kernel_rfl) (fun _ _ _ h => h) (Or.inl ⟨by rfl, by intro w' hS'; go_simp <;> (first | omega | (rw [IntKind.wrap_i64]; omega) | (rw [IntKind.wrap_u64]; omega) | (rw [IntKind.wrap_u32]; omega) | (rw [Int.tmod_eq_emod_of_nonneg (by omega)]))⟩) hSd ?_
      (try simp only [List.getElem_toArray, List.getElem_cons_succ, List.getElem_cons_zero, Act.put, List.setIfInBounds_toArray, List.set_cons_zero, List.set_cons_succ])
      refine wpAnyH_take (i := 1) (v := .string s) rfl (by kernel_rfl) (by kernel_rfl) (by kernel_rfl) (fun _ _ _ h => h) (Or.inl ⟨by rfl, by intro w' hS'; go_simp <;> (first | omega | (rw [IntKind.wrap_i64]; omega) | (rw [IntKind.wrap_u64]; omega) | (rw [IntKind.wrap_u32]; omega) | (rw [Int.tmod_eq_emod_of_nonneg (by omega)]))⟩) hSd ?_
      (try simp only [List.getElem_toArray, List.getElem_cons_succ, List.getElem_cons_zero, Act.put, List.setIfInBounds_toArray, List.set_cons_zero, List.set_cons_succ])
      refine wpAnyH_take (i := 2) (v := .int .i64 (n : Int)) rfl (by kernel_rfl) (by kernel_rfl) (by kernel_rfl) (fun _ _ _ h => h) (Or.inl ⟨by rfl, by intro w' hS'; go_simp <;> (first | omega | (rw [IntKind.wrap_i64]; omega) | (rw [IntKind.wrap_u64]; omega) | (rw [IntKind.wrap_u32]; omega) | (rw [Int.tmod_eq_emod_of_nonneg (by omega)]))⟩) hSd ?_
      (try simp only [List.getElem_toArray, List.getElem_cons_succ, List.getElem_cons_zero, Act.put, List.setIfInBounds_toArray, List.set_cons_zero, List.set_cons_succ])
      refine wpAnyH_take (i := 3) (v := .string (s.extract n s.size)) rfl (by kernel_rfl) (by kernel_rfl) (by kernel_rfl) (fun _ _ _ h => h) (Or.inl ⟨by rfl, by intro w' hS'; go_simp <;> (first | omega | (rw [IntKind.wrap_i64]; omega) | (rw [IntKind.wrap_u64]; omega) | (rw [IntKind.wrap_u32]; omega) | (rw [Int.tmod_eq_emod_of_nonneg (by omega)]))⟩) hSd ?_
      (try simp only [List.getElem_toArray, List.getElem_cons_succ, List.getElem_cons_zero, Act.put, List.setIfInBounds_toArray, List.set_cons_zero, List.set_cons_succ])
      refine held_step (i := 4) (by kernel_rfl) rfl (by rfl) ?_
      refine Lib.wp_copy_run _ _ _ 25 9 rfl _ _ rfl rfl (HCP.out _) ?_
      refine ⟨hS _, ?_⟩
      (try simp only [List.getElem_toArray, List.getElem_cons_succ, List.getElem_cons_zero, Act.put, List.setIfInBounds_toArray, List.set_cons_zero, List.set_cons_succ])
      refine wpAnyH_done (by kernel_rfl) ?_ _
      generalize wr.drew.setCells (w.heap.size + 2) 0 [.int .u8 (c0 : Nat), .int .u8 (c1 : Nat), .int .u8 (c2 : Nat)] = w2 at HB2 ⊢
      have HR : Hid _ := HB2.out.row
      have HO : Hid _ := HB2.out.own
      go_wp2_with (first
        | (refine wpList_load_row rfl 145 _ rfl (w.heap.size + 2) rfl 145 #[.int .u8 c0, .int .u8 c1, .int .u8 c2] (0, 0) _ HR.out Try.underlying145 rfl info3 ?_)
        | (at_lookup; refine wpList_lookup_own_ok_int _ rfl _ _ 144 rfl 145 3 .i64 arr3_law Try.underlying144 Try.underlying3 (zeroI _) (w.heap.size + 1) n (C3 (bsOf s) n) rfl HO.out _ _ rfl HKEY.out ?_; intro c hat hwc; refine hold_goal ?_))
      rcases HLOOK.out c hat with ⟨hh, hp⟩ | ⟨hh, q, hq, hcq, hp⟩
      · rw [hh]
        have HPP : Hid (prevP (bsOf s) n n = 0) := hp
        have HWF : Hid ((Lit.int .i64 (n : Int)).wf = true) := by
          show (Lit.int .i64 (n : Int)).wf = true
          simp [Lit.wf, IntKind.min, IntKind.max, IntKind.signed, IntKind.bits]; omega
        clear hat hwc hh hp
        refine id ?_
        unfold Hid
        go_wp2_with (first
          | (refine wpList_load_row rfl 145 _ rfl (w.heap.size + 2) rfl 145 #[.int .u8 c0, .int .u8 c1, .int .u8 c2] (0, 0) _ HR.out Try.underlying145 rfl info3 ?_)
          | (at_mapUpdate; refine wpList_mapUpdate_own _ rfl _ _ _ 144 rfl 145 3 arr3_law Try.underlying144 _ (w.heap.size + 1) n _ rfl HO.out (by unfold maxLen; omega) _ _ _ rfl rfl HKEY.out _ [] (plainElem_int Try.underlying3 HWF.out) ?_; intro w1 hown1 hgrow1; refine hold_goal ?_))
        have HB3 : Hid (BW s (n + 1) w w1 cur #[.int .u8 (c0 : Nat), .int .u8 (c1 : Nat), .int .u8 (c2 : Nat)]) := HB2.out.put hown1 hgrow1
        clear hown1 hgrow1
        unfold Hid
        go_wp2_with fail
        go_roundw
        case rel => exact ⟨n + 1, cur, _, by omega, Or.inr (by omega), by go_num, hcs, rfl, HB3, fun j hj => by
          rw [HP.out j, HPP.out]
          by_cases e : j = n
          · subst e; rw [if_pos rfl]; have := HCUR.out j hj; rwa [if_neg (by omega)] at this
          · rw [if_neg e]; exact HCUR.out j hj⟩
        case measure => simp [lonIntOf]; omega
      · rw [hh]
        subst hcq
        have HPP : Hid (prevP (bsOf s) n n = n - q) := hp
        have HWF : Hid ((Lit.int .i64 (n : Int)).wf = true) := by
          show (Lit.int .i64 (n : Int)).wf = true
          simp [Lit.wf, IntKind.min, IntKind.max, IntKind.signed, IntKind.bits]; omega
        have hsub : IntKind.i64.wrap ((n : Int) - (q : Int)) = ((n - q : Nat) : Int) := by rw [IntKind.wrap_i64]; omega
        have hcell : w2.cell? ⟨w.heap.size, n, none⟩ = some (.int .i64 0) := by
          have h1 := HCUR.out n (by omega)
          rw [if_neg (by omega)] at h1
          exact (cell_of_row w2 _ n _ _ _ HB2.out.st).trans h1
        have hfz : w2.frozen? ⟨w.heap.size, n, none⟩ = false := frozen_of_row w2 _ n _ _ HB2.out.st
        clear hat hwc hh hp
        unfold Hid
        have HB3 : Hid (BW s n w (w2.setCell ⟨w.heap.size, n, none⟩ (.int .i64 ((n - q : Nat) : Int))) (cur.setIfInBounds n (.int .i64 ((n - q : Nat) : Int))) #[.int .u8 (c0 : Nat), .int .u8 (c1 : Nat), .int .u8 (c2 : Nat)]) := HB2.out.setC n _
        clear HR HO
        have HR : Hid _ := HB3.out.row
        have HO : Hid _ := HB3.out.own
        go_wp2_with (first
          | (refine wpList_load_row rfl 145 _ rfl (w.heap.size + 2) rfl 145 #[.int .u8 c0, .int .u8 c1, .int .u8 c2] (0, 0) _ HR.out Try.underlying145 rfl info3 ?_)
          | (at_mapUpdate; refine wpList_mapUpdate_own _ rfl _ _ _ 144 rfl 145 3 arr3_law Try.underlying144 _ (w.heap.size + 1) n _ rfl HO.out (by unfold maxLen; omega) _ _ _ rfl rfl HKEY.out _ [] (plainElem_int Try.underlying3 HWF.out) ?_; intro w1 hown1 hgrow1; refine hold_goal ?_))
        have HB4 : Hid (BW s (n + 1) w w1 (cur.setIfInBounds n (.int .i64 ((n - q : Nat) : Int))) #[.int .u8 (c0 : Nat), .int .u8 (c1 : Nat), .int .u8 (c2 : Nat)]) := HB3.out.put hown1 hgrow1
        clear hown1 hgrow1
        unfold Hid
        go_wp2_with fail
        go_roundw
        case rel => exact ⟨n + 1, _, _, by omega, Or.inr (by omega), by go_num, by simpa using hcs, rfl, HB4, fun j hj => by
          rw [HP.out j, HPP.out]
          by_cases e : j = n
          · subst e; rw [if_pos rfl, Array.getElem?_setIfInBounds_self_of_lt (by omega)]
          · rw [if_neg e, Array.getElem?_setIfInBounds_ne (by omega)]; exact HCUR.out j hj⟩
        case measure => simp [lonIntOf]; omega
    · have hend : ¬ (n : Int) < (s.size : Int) - 3 + 1 := hlt
      go_wp2_with fail
      go_ret
      refine ⟨⟨rfl, (Array.getElem?_eq_some_iff.1 HB.out.st).1, fun j hj => ?_⟩, HB.out.below⟩
      rw [cell_of_row wr _ j _ _ _ HB.out.st, HCUR.out j hj]
      congr 3
      unfold stF
      by_cases h3 : j + 3 ≤ s.size
      · rw [if_pos h3, if_pos (by omega)]
      · rw [if_neg h3, if_neg (by omega)]
end Go.Proofs.Ytibciflmalfbjaa
