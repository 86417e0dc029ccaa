/-
  The places of an old text: the code's map of six bytes, and what comes behind each place.
-/
import Derived.Test.YtpeddaljgmkomaaDpM
import Derived.Test.YtpeddaljgmkomaaStepC2
import Derived.Test.YtpeddaljgmkomaaPk03
namespace Go.Proofs.Ytpeddaljgmkomaa
open Go.RowKit
open Go.Maps (Keyed)
set_option linter.unusedVariables false
set_option linter.unusedSimpArgs false
theorem arr6_ty : Try.prog.underlying 129 = some (.array (Try.prog.arrayLen 129) (Try.prog.elem 129)) := by kernel_rfl
theorem arr6_len : Try.prog.arrayLen 129 = 6 := by kernel_rfl
theorem arr6_slice (W : World) (b : Nat) :
    (Instr.sliceAt 129 (.pointer (some ⟨b, 0, none⟩)) none none none).run Try.prog W = .ok (.slice (some ⟨b, 0, none⟩) 6 6) W := by
  have hsz : (sizeOf (Try.prog.elem 129)).run Try.prog W = .ok 1 W := by kernel_rfl
  rw [run_sliceAt_array_all W 129 _ arr6_ty, hsz, arr6_len]
  simp [slicedAt, Result.andThen, Addr.add]
theorem arr6_key : WideMaps.ArrKey Try.prog 129 5 6 := ⟨by kernel_rfl, by kernel_rfl, by kernel_rfl, by kernel_rfl⟩
theorem arr6_law : Keyed Try.prog 129 := Keyed.of_law (arr6_key).law
/-- the first six bytes of a longer text -/
theorem copy_six (w : World) (ty : TypeId) (g : Nat) (t : ByteArray) (X : Array Value) (ht : 6 ≤ t.size) (hX : X.size = 6) (hg : w.heap[g]? = some (.cells X 129 (0, 0))) :
    (Builtin.copy_ #[39, 9] ty #[.slice (some ⟨g, 0, none⟩) 6 6, .string t]).run Try.prog w = .ok (goInt 6) (w.setCells g 0 [.int .u8 (bsOf t 0 : Nat), .int .u8 (bsOf t 1 : Nat), .int .u8 (bsOf t 2 : Nat), .int .u8 (bsOf t 3 : Nat), .int .u8 (bsOf t 4 : Nat), .int .u8 (bsOf t 5 : Nat)]) := by
  have hz : (Go.sizeOf 5).run Try.prog w = .ok 1 w := by kernel_rfl
  have hmin : Nat.min t.size 6 = 6 := Nat.min_eq_right ht
  have hcell : ∀ j, j < 6 → w.cell? ⟨g, j, none⟩ = X[j]? := fun j _ => cell_of_row w g j _ _ _ hg
  have htl : List.take 6 (t.data.toList.map fun x => Value.int .u8 (x.toNat : Int)) = [.int .u8 (bsOf t 0 : Nat), .int .u8 (bsOf t 1 : Nat), .int .u8 (bsOf t 2 : Nat), .int .u8 (bsOf t 3 : Nat), .int .u8 (bsOf t 4 : Nat), .int .u8 (bsOf t 5 : Nat)] := by
    have hl : 6 ≤ t.data.toList.length := by rw [← Lib.size_eq]; exact ht
    unfold bsOf
    match h : t.data.toList, hl with
    | a :: b :: c :: d :: e :: f :: r, _ => rfl
  have hst := run_storeCells_cells (P := Try.prog) g 0 [.int .u8 (bsOf t 0 : Nat), .int .u8 (bsOf t 1 : Nat), .int .u8 (bsOf t 2 : Nat), .int .u8 (bsOf t 3 : Nat), .int .u8 (bsOf t 4 : Nat), .int .u8 (bsOf t 5 : Nat)] 0 w (by
    intro j hj
    have hj3 : j < 6 := hj
    rw [show 0 + 0 + j = j by omega, hcell j hj3, Array.getElem?_eq_getElem (by omega)]; rfl) (by
    intro j hj
    have hj3 : j < 6 := hj
    rw [show 0 + 0 + j = j by omega]
    exact frozen_of_row w g j _ _ hg) (by
    intro v hv
    simp only [List.mem_cons, List.not_mem_nil, or_false] at hv
    rcases hv with rfl | rfl | rfl | rfl | rfl | rfl <;> rfl)
  simp [Builtin.copy_, run_underlying Try.underlying39, Builtin.lenOf, Builtin.firstCells, hz, hmin]
  rw [htl, hst]
  rfl
theorem six_set {X : Array Value} (hX : X.size = 6) (a b c d e f : Value) : (((((X.setIfInBounds 0 a).setIfInBounds 1 b).setIfInBounds 2 c).setIfInBounds 3 d).setIfInBounds 4 e).setIfInBounds 5 f = #[a, b, c, d, e, f] := by
  obtain ⟨l⟩ := X
  match l, hX with
  | [x, y, z, u, v, w], _ => rfl
theorem own_other6 {w w' : World} {b n : Nat} {D : DataW Unit} (h : w.ownsMap Try.prog 129 (plainElem (H := Unit) Try.prog 3) b n D) (he : w'.heap[b]? = w.heap[b]?) : w'.ownsMap Try.prog 129 (plainElem (H := Unit) Try.prog 3) b n D := by
  obtain ⟨es, clock, hb, F, hs, hD⟩ := h
  exact ⟨es, clock, he.trans hb, F, hs, hD⟩
theorem yield_load_row {P : Program} {o : Oper} {ev : Operand → Value} {w : World} (ty : TypeId) (x : Operand) (g : Nat) (cs : Array Value) (ho : o.op = .load ty x) (hx : ev x = .pointer (some ⟨g, 0, none⟩)) (hl : (loadVar ty ⟨g, 0, none⟩).run P w = .ok (.agg cs) w) : (execOp ev o).run P w = .ok (.value (.agg cs)) w := by
  unfold execOp
  simp only [ho, hx, Instr.loadAt, Instr.sureAddr, Sem.run_bind, Sem.run_pure, Result.andThen_ok, hl]
def opV (o : ByteArray) (B : Nat) : Array Value := #[.string o, .map (some (B + 1)), .slice (some ⟨B + 2, 0, none⟩) o.size o.size]
/-- the blocks that the call makes: its result, the map, what comes behind each place, the three of them, six bytes -/
structure BP6 (o : ByteArray) (i : Nat) (w wr : World) (cur X : Array Value) : Prop where
  below : Below w.heap.size w wr
  res : wr.heap[w.heap.size]? = some (.cells #[.string ⟨#[]⟩, .map none, .slice none 0 0] 118 (0, 0))
  own : wr.ownsMap Try.prog 129 (plainElem (H := Unit) Try.prog 3) (w.heap.size + 1) i (C6 (bsOf o) (o.size - 5) i)
  nx : wr.heap[w.heap.size + 2]? = some (.cells cur 3 (0, 0))
  st : wr.heap[w.heap.size + 3]? = some (.cells (opV o w.heap.size) 118 (0, 0))
  row : wr.heap[w.heap.size + 4]? = some (.cells X 129 (0, 0))
theorem BP6.drew {o : ByteArray} {i : Nat} {w wr : World} {cur X : Array Value} (h : BP6 o i w wr cur X) : BP6 o i w wr.drew cur X := ⟨h.below.drew, h.res, own_other6 h.own rfl, h.nx, h.st, h.row⟩
theorem BP6.setX {o : ByteArray} {i : Nat} {w wr : World} {cur X : Array Value} (h : BP6 o i w wr cur X) (t : Nat) (v : Value) : BP6 o i w (wr.setCell ⟨w.heap.size + 4, t, none⟩ v) cur (X.setIfInBounds t v) := by
  have e : ∀ k, k ≠ w.heap.size + 4 → (wr.setCell ⟨w.heap.size + 4, t, none⟩ v).heap[k]? = wr.heap[k]? := fun k hk => heap_setCell_other wr ⟨w.heap.size + 4, t, none⟩ k v hk
  exact ⟨h.below.setCell (p := ⟨w.heap.size + 4, t, none⟩) (by show _ ≤ w.heap.size + 4; omega) v, (e _ (by omega)).trans h.res, own_other6 h.own (e _ (by omega)), (e _ (by omega)).trans h.nx, (e _ (by omega)).trans h.st, heap_setCell_same wr _ t _ _ _ h.row⟩
theorem BP6.setC {o : ByteArray} {i : Nat} {w wr : World} {cur X : Array Value} (h : BP6 o i w wr cur X) (t : Nat) (v : Value) : BP6 o i w (wr.setCell ⟨w.heap.size + 2, t, none⟩ v) (cur.setIfInBounds t v) X := by
  have e : ∀ k, k ≠ w.heap.size + 2 → (wr.setCell ⟨w.heap.size + 2, t, none⟩ v).heap[k]? = wr.heap[k]? := fun k hk => heap_setCell_other wr ⟨w.heap.size + 2, t, none⟩ k v hk
  exact ⟨h.below.setCell (p := ⟨w.heap.size + 2, t, none⟩) (by show _ ≤ w.heap.size + 2; omega) v, (e _ (by omega)).trans h.res, own_other6 h.own (e _ (by omega)), heap_setCell_same wr _ t _ _ _ h.nx, (e _ (by omega)).trans h.st, (e _ (by omega)).trans h.row⟩
theorem BP6.put {o : ByteArray} {i : Nat} {w wr w1 : World} {cur X : Array Value} (h : BP6 o i w wr cur X) (ho : w1.ownsMap Try.prog 129 (plainElem (H := Unit) Try.prog 3) (w.heap.size + 1) (i + 1) (C6 (bsOf o) (o.size - 5) (i + 1))) (hg : wr.grownBy w1 (some (w.heap.size + 1))) : BP6 o (i + 1) w w1 cur X :=
  have l0 := (Array.getElem?_eq_some_iff.1 h.res).1
  have l1 := (Array.getElem?_eq_some_iff.1 h.nx).1
  have l2 := (Array.getElem?_eq_some_iff.1 h.row).1
  have l3 := (Array.getElem?_eq_some_iff.1 h.st).1
  ⟨h.below.grown hg h.below.size (fun j hj => by cases hj; omega), (hg.block _ l0 (by simp)).trans h.res, ho, (hg.block _ l1 (by simp)).trans h.nx, (hg.block _ l3 (by simp)).trans h.st, (hg.block _ l2 (by simp)).trans h.row⟩
/-- what placesOf leaves -/
structure PO6 (o : ByteArray) (B : Nat) (w : World) : Prop where
  lt : B + 3 ≤ w.heap.size
  own : w.ownsMap Try.prog 129 (plainElem (H := Unit) Try.prog 3) (B + 1) (o.size - 5) (C6 (bsOf o) (o.size - 5) (o.size - 5))
  nx : ∀ j, j < o.size - 5 → ∃ v : Nat, w.cell? ⟨B + 2, j, none⟩ = some (.int .i64 (v : Int)) ∧ v ≤ o.size - 5 ∧ NX (bsOf o) (o.size - 5) j v
theorem PO6.below {o : ByteArray} {B C : Nat} {w w' : World} (h : PO6 o B w) (hb : Below C w w') (hC : B + 3 ≤ C) : PO6 o B w' :=
  ⟨Nat.le_trans h.lt hb.size, own_other6 h.own (hb.block _ (by omega)), fun j hj => by
    obtain ⟨v, h1, h2⟩ := h.nx j hj
    exact ⟨v, (hb.cell (p := ⟨B + 2, j, none⟩) (by show B + 2 < C; omega)).trans h1, h2⟩⟩
set_option maxRecDepth 100000 in
set_option maxHeartbeats 4000000 in
theorem places6_any (o : ByteArray) (w : World) (ho : o.size ≤ 4000) :
    Calls Try.prog 98 #[.string o] w fun e w' => (e = .returned (.agg (opV o w.heap.size)) ∧ PO6 o w.heap.size w') ∧ Below w.heap.size w w' := by
  have hmk := zI_made o.size ho
  have hmm := @run_makeMap Try.prog
  have hsl := arr6_slice
  have HZ : Hid (∀ j, j < o.size → (zI o.size)[j]? = some (.int .i64 0)) := fun j hj => zI_at hj
  have HZS : Hid ((zI o.size).size = o.size) := by
    show (zI o.size).size = o.size
    rw [← Array.length_toList, zI, toList_madeCells_one, List.length_replicate]
  have hsz : (o.size : Int) ≤ 4000 := by omega
  have hsz0 : 0 ≤ (o.size : Int) := by omega
  have hw1 : IntKind.i64.wrap ((o.size : Int) - 6) = (o.size : Int) - 6 := by rw [IntKind.wrap_i64]; omega
  generalize zI o.size = Z at *
  obtain ⟨W, hW⟩ : ∃ W, W = ((((w.alloc (.cells #[.string ⟨#[]⟩, .map none, .slice none 0 0] 118)).alloc (.map #[] 0)).alloc (.cells Z 3)).alloc (.cells (opV o w.heap.size) 118)).alloc (.cells #[.int .u8 0, .int .u8 0, .int .u8 0, .int .u8 0, .int .u8 0, .int .u8 0] 129) := ⟨_, rfl⟩
  have HST : Hid (BP6 o 0 w W Z #[.int .u8 0, .int .u8 0, .int .u8 0, .int .u8 0, .int .u8 0, .int .u8 0]) := by
    rw [hW]
    refine ⟨(((((Below.refl _ _).alloc (Nat.le_refl _) _).alloc (by simp) _).alloc (by first | (simp; done) | (simp; omega)) _).alloc (by first | (simp; done) | (simp; omega)) _).alloc (by first | (simp; done) | (simp; omega)) _, ?_, ?_, ?_, ?_, ?_⟩
    · rw [Below.heap_alloc _ _ _ (by first | (simp; done) | (simp; omega)), Below.heap_alloc _ _ _ (by first | (simp; done) | (simp; omega)), Below.heap_alloc _ _ _ (by first | (simp; done) | (simp; omega)), Below.heap_alloc _ _ _ (by simp)]
      exact heap_alloc_new w _
    · have h := World.ownsMap_made (w.alloc (.cells #[.string ⟨#[]⟩, .map none, .slice none 0 0] 118)) Try.prog 129 (plainElem (H := Unit) Try.prog 3)
      rw [show (w.alloc (.cells #[.string ⟨#[]⟩, .map none, .slice none 0 0] 118)).heap.size = w.heap.size + 1 by simp] at h
      refine own_other6 h ?_
      rw [Below.heap_alloc _ _ _ (by first | (simp; done) | (simp; omega)), Below.heap_alloc _ _ _ (by first | (simp; done) | (simp; omega)), Below.heap_alloc _ _ _ (by simp)]
    · rw [Below.heap_alloc _ _ _ (by first | (simp; done) | (simp; omega)), Below.heap_alloc _ _ _ (by simp)]
      have h := heap_alloc_new ((w.alloc (.cells #[.string ⟨#[]⟩, .map none, .slice none 0 0] 118)).alloc (.map #[] 0)) (.cells Z 3)
      simpa using h
    · rw [Below.heap_alloc _ _ _ (by simp)]
      have h := heap_alloc_new (((w.alloc (.cells #[.string ⟨#[]⟩, .map none, .slice none 0 0] 118)).alloc (.map #[] 0)).alloc (.cells Z 3)) (.cells (opV o w.heap.size) 118)
      simpa using h
    · have h := heap_alloc_new ((((w.alloc (.cells #[.string ⟨#[]⟩, .map none, .slice none 0 0] 118)).alloc (.map #[] 0)).alloc (.cells Z 3)).alloc (.cells (opV o w.heap.size) 118)) (.cells #[.int .u8 0, .int .u8 0, .int .u8 0, .int .u8 0, .int .u8 0, .int .u8 0] 129)
      simpa using h
  unfold opV at hW
  go_enter Try.func98, Try.ntmps98
  go_wp2_with fail
  clear hmk hmm
  try rw [← hW]
  clear hW
  have info6 : Option.map (·.size) (Try.prog.info? 129) = some 6 := by kernel_rfl
  go_loopw [5] (fun c wr => ∃ (i : Nat) (cur X : Array Value), i ≤ o.size - 5 ∧ c = .int .i64 ((o.size : Int) - 6 - (i : Int)) ∧ cur.size = o.size ∧ X.size = 6 ∧ Hid (BP6 o i w wr cur X) ∧ Hid (∀ j, o.size - 5 - i ≤ j → j < o.size - 5 → ∃ v : Nat, cur[j]? = some (.int .i64 (v : Int)) ∧ v ≤ o.size - 5 ∧ NX (bsOf o) (o.size - 5) j v)) (fun c _ => (lonIntOf c + 1).toNat)
  case atStart => exact ⟨0, Z, _, by omega, by simp, HZS.out, rfl, HST, fun j h1 h2 => absurd h1 (by omega)⟩
  case round =>
    clear HST
    obtain ⟨i, cur, X, hi, rfl, hcs, hXs, HB, HCUR⟩ := hrel
    by_cases hlt : i < o.size - 5
    · obtain ⟨n, hn⟩ : ∃ n, n = o.size - 5 - 1 - i := ⟨_, rfl⟩
      have hnI : (o.size : Int) - 6 - (i : Int) = (n : Int) := by omega
      rw [hnI]
      have hn6 : n + 6 ≤ o.size := by omega
      have hn0 : (0 : Int) ≤ (n : Int) := by omega
      have hnI1 : (n : Int) ≤ (o.size : Int) := by omega
      have hnI2 : (n : Int) < (o.size : Int) := by omega
      have hnN : n ≤ o.size := by omega
      have hnN2 : n < o.size := by omega
      have HKEY : Hid _ := keyOf_six arr6_key Try.underlying5 types_some (bsOf_lt o) n
      have HLOOK : Hid (∀ c : Int, (C6 (bsOf o) (o.size - 5) i).atKey (kl6 (bsOf o) n) (.lit (.int .i64 0)) = .lit (.int .i64 c) → ∃ v : Nat, c = (v : Int) ∧ v ≤ o.size - 5 ∧ NX (bsOf o) (o.size - 5) n v) := fun c hc => by rw [hn] at hc ⊢; exact look6 hlt c hc
      have HC6 : Hid (C6 (bsOf o) (o.size - 5) (i + 1) = (C6 (bsOf o) (o.size - 5) i).put (kl6 (bsOf o) n) (.lit (.int .i64 (n : Int)))) := by rw [hn]; exact rfl
      have HCP : Hid (∀ ty, (Builtin.copy_ #[39, 9] ty #[.slice (some ⟨w.heap.size + 4, 0, none⟩) 6 6, .string (o.extract n o.size)]).run Try.prog wr.drew = .ok (goInt 6) (wr.drew.setCells (w.heap.size + 4) 0 [.int .u8 (bsOf o n : Nat), .int .u8 (bsOf o (n + 1) : Nat), .int .u8 (bsOf o (n + 2) : Nat), .int .u8 (bsOf o (n + 3) : Nat), .int .u8 (bsOf o (n + 4) : Nat), .int .u8 (bsOf o (n + 5) : Nat)])) := fun ty => by
        have h := copy_six wr.drew ty (w.heap.size + 4) (o.extract n o.size) X (by rw [ByteArray.size_extract]; omega) hXs HB.out.drew.row
        rw [bsOf_ext _ _ _ _ (by omega), bsOf_ext _ _ _ _ (by omega), bsOf_ext _ _ _ _ (by omega), bsOf_ext _ _ _ _ (by omega), bsOf_ext _ _ _ _ (by omega), bsOf_ext _ _ _ _ (by omega)] at h
        exact h
      have HB2 : Hid (BP6 o i w (wr.drew.setCells (w.heap.size + 4) 0 [.int .u8 (bsOf o n : Nat), .int .u8 (bsOf o (n + 1) : Nat), .int .u8 (bsOf o (n + 2) : Nat), .int .u8 (bsOf o (n + 3) : Nat), .int .u8 (bsOf o (n + 4) : Nat), .int .u8 (bsOf o (n + 5) : Nat)]) cur #[.int .u8 (bsOf o n : Nat), .int .u8 (bsOf o (n + 1) : Nat), .int .u8 (bsOf o (n + 2) : Nat), .int .u8 (bsOf o (n + 3) : Nat), .int .u8 (bsOf o (n + 4) : Nat), .int .u8 (bsOf o (n + 5) : Nat)]) := by
        have h := (((((HB.out.drew.setX 0 (.int .u8 (bsOf o n : Nat))).setX 1 (.int .u8 (bsOf o (n + 1) : Nat))).setX 2 (.int .u8 (bsOf o (n + 2) : Nat))).setX 3 (.int .u8 (bsOf o (n + 3) : Nat))).setX 4 (.int .u8 (bsOf o (n + 4) : Nat))).setX 5 (.int .u8 (bsOf o (n + 5) : Nat))
        rw [six_set hXs] at h
        exact h
      generalize bsOf o n = c0 at HKEY HCP HB2
      generalize bsOf o (n + 1) = c1 at HKEY HCP HB2
      generalize bsOf o (n + 2) = c2 at HKEY HCP HB2
      generalize bsOf o (n + 3) = c3 at HKEY HCP HB2
      generalize bsOf o (n + 4) = c4 at HKEY HCP HB2
      generalize bsOf o (n + 5) = c5 at HKEY HCP HB2
      obtain ⟨S, hSS⟩ : ∃ S : World → Prop, S = fun _ => True := ⟨_, rfl⟩
      have hS : ∀ w', S w' := fun w' => by rw [hSS]; trivial
      have hSd := hS wr.drew
      have HN := hid hn
      clear hSS hn HB
      go_wp2_with fail
      refine wp_region_held (S := S) (by kernel_rfl) ?_
      change wpAnyH _ _ _ _ _ _ _ _ (World.drew _)
      refine wpAnyH_take (i := 0) (v := .slice (some ⟨w.heap.size + 4, 0, none⟩) 6 6) rfl (by kernel_rfl) (by kernel_rfl) (by kernel_rfl) (fun _ _ _ h => h) (Or.inl ⟨by rfl, by intro w' hS'; go_simp <;> (first | omega | (rw [IntKind.wrap_i64]; omega) | (rw [IntKind.wrap_u64]; omega) | (rw [IntKind.wrap_u32]; omega) | (rw [Int.tmod_eq_emod_of_nonneg (by omega)]) | rfl)⟩) hSd ?_
      (try simp only [List.getElem_toArray, List.getElem_cons_succ, List.getElem_cons_zero, Act.put, List.setIfInBounds_toArray, List.set_cons_zero, List.set_cons_succ])
      refine wpAnyH_take (i := 1) (v := .string o) rfl (by kernel_rfl) (by kernel_rfl) (by kernel_rfl) (fun _ _ _ h => h) (Or.inl ⟨by rfl, by intro w' hS'; go_simp <;> (first | omega | (rw [IntKind.wrap_i64]; omega) | (rw [IntKind.wrap_u64]; omega) | (rw [IntKind.wrap_u32]; omega) | (rw [Int.tmod_eq_emod_of_nonneg (by omega)]) | rfl)⟩) hSd ?_
      (try simp only [List.getElem_toArray, List.getElem_cons_succ, List.getElem_cons_zero, Act.put, List.setIfInBounds_toArray, List.set_cons_zero, List.set_cons_succ])
      refine wpAnyH_take (i := 2) (v := .int .i64 (n : Int)) rfl (by kernel_rfl) (by kernel_rfl) (by kernel_rfl) (fun _ _ _ h => h) (Or.inl ⟨by rfl, by intro w' hS'; go_simp <;> (first | omega | (rw [IntKind.wrap_i64]; omega) | (rw [IntKind.wrap_u64]; omega) | (rw [IntKind.wrap_u32]; omega) | (rw [Int.tmod_eq_emod_of_nonneg (by omega)]) | rfl)⟩) hSd ?_
      (try simp only [List.getElem_toArray, List.getElem_cons_succ, List.getElem_cons_zero, Act.put, List.setIfInBounds_toArray, List.set_cons_zero, List.set_cons_succ])
      refine wpAnyH_take (i := 3) (v := .string (o.extract n o.size)) rfl (by kernel_rfl) (by kernel_rfl) (by kernel_rfl) (fun _ _ _ h => h) (Or.inl ⟨by rfl, by intro w' hS'; go_simp <;> (first | omega | (rw [IntKind.wrap_i64]; omega) | (rw [IntKind.wrap_u64]; omega) | (rw [IntKind.wrap_u32]; omega) | (rw [Int.tmod_eq_emod_of_nonneg (by omega)]) | rfl)⟩) hSd ?_
      (try simp only [List.getElem_toArray, List.getElem_cons_succ, List.getElem_cons_zero, Act.put, List.setIfInBounds_toArray, List.set_cons_zero, List.set_cons_succ])
      refine held_stepS (i := 4) (by kernel_rfl) rfl (by rfl) ?_
      refine Lib.wp_copy_run _ _ _ 39 9 rfl _ _ rfl rfl (HCP.out _) ?_
      refine ⟨hS _, ?_⟩
      (try simp only [List.getElem_toArray, List.getElem_cons_succ, List.getElem_cons_zero, Act.put, List.setIfInBounds_toArray, List.set_cons_zero, List.set_cons_succ])
      refine wpAnyH_done (by kernel_rfl) ?_ _
      generalize wr.drew.setCells (w.heap.size + 4) 0 [.int .u8 (c0 : Nat), .int .u8 (c1 : Nat), .int .u8 (c2 : Nat), .int .u8 (c3 : Nat), .int .u8 (c4 : Nat), .int .u8 (c5 : Nat)] = w2 at HB2 ⊢
      clear hSd hS HCP
      obtain ⟨S2, hSS2⟩ : ∃ S : World → Prop, S = fun w' => ∀ k, k ≠ w.heap.size + 2 → w'.heap[k]? = w2.heap[k]? := ⟨_, rfl⟩
      have HSS2 : Hid (S2 = fun w' => ∀ k, k ≠ w.heap.size + 2 → w'.heap[k]? = w2.heap[k]?) := hSS2
      have hS2 : S2 w2.drew := by rw [hSS2]; exact fun k hk => rfl
      obtain ⟨v, HV⟩ : ∃ v : Nat, Hid ((C6 (bsOf o) (o.size - 5) i).atKey (kl6 (bsOf o) n) (.lit (.int .i64 0)) = .lit (.int .i64 (v : Int)) ∧ v ≤ o.size - 5 ∧ NX (bsOf o) (o.size - 5) n v) := by
        obtain ⟨c, _, hat, _⟩ := HB2.out.own.lookup_int arr6_law Try.underlying115 Try.underlying3 (zeroI _) HKEY.out
        obtain ⟨v, rfl, h1, h2⟩ := HLOOK.out c hat
        exact ⟨v, hat, h1, h2⟩
      have HX1 : Hid (∀ w', S2 w' → w'.cell? ⟨w.heap.size + 3, 1, none⟩ = some (.map (some (w.heap.size + 1))) ∧ w'.cell? ⟨w.heap.size + 3, 2, none⟩ = some (.slice (some ⟨w.heap.size + 2, 0, none⟩) o.size o.size)) := fun w' h => by
        rw [HSS2.out] at h
        have e := (h (w.heap.size + 3) (by omega)).trans HB2.out.st
        exact ⟨cell_of_row w' _ 1 _ _ _ e, cell_of_row w' _ 2 _ _ _ e⟩
      have HX6 : Hid (∀ w', S2 w' → w'.heap[w.heap.size + 4]? = some (.cells #[.int .u8 (c0 : Nat), .int .u8 (c1 : Nat), .int .u8 (c2 : Nat), .int .u8 (c3 : Nat), .int .u8 (c4 : Nat), .int .u8 (c5 : Nat)] 129 (0, 0))) := fun w' h => by
        rw [HSS2.out] at h
        exact (h _ (by omega)).trans HB2.out.row
      have HXO : Hid (∀ w', S2 w' → w'.ownsMap Try.prog 129 (plainElem (H := Unit) Try.prog 3) (w.heap.size + 1) i (C6 (bsOf o) (o.size - 5) i)) := fun w' h => by
        rw [HSS2.out] at h
        exact own_other6 HB2.out.own (h _ (by omega))
      clear hSS2
      go_wp2_with fail
      refine wp_region_held (S := S2) (by kernel_rfl) ?_
      change wpAnyH _ _ _ _ _ _ _ _ (World.drew _)
      refine wpAnyH_take (i := 0) (v := .pointer (some ⟨w.heap.size + 3, 2, none⟩)) rfl (by kernel_rfl) (by kernel_rfl) (by kernel_rfl) (fun _ _ _ h => h) (Or.inl ⟨by rfl, by intro w' hS'; go_simp <;> (first | omega | (rw [IntKind.wrap_i64]; omega) | (rw [IntKind.wrap_u64]; omega) | (rw [IntKind.wrap_u32]; omega) | (rw [Int.tmod_eq_emod_of_nonneg (by omega)]) | rfl)⟩) hS2 ?_
      (try simp only [List.getElem_toArray, List.getElem_cons_succ, List.getElem_cons_zero, Act.put, List.setIfInBounds_toArray, List.set_cons_zero, List.set_cons_succ])
      refine wpAnyH_take (i := 1) (v := .slice (some ⟨w.heap.size + 2, 0, none⟩) o.size o.size) rfl (by kernel_rfl) (by kernel_rfl) (by kernel_rfl) (fun _ _ _ h => h) (Or.inl ⟨by rfl, by intro w' hS'; have hx1 := (HX1.out w' hS').1; have hx2 := (HX1.out w' hS').2; go_simp <;> (first | omega | (rw [IntKind.wrap_i64]; omega) | (rw [IntKind.wrap_u64]; omega) | (rw [IntKind.wrap_u32]; omega) | (rw [Int.tmod_eq_emod_of_nonneg (by omega)]) | rfl)⟩) hS2 ?_
      (try simp only [List.getElem_toArray, List.getElem_cons_succ, List.getElem_cons_zero, Act.put, List.setIfInBounds_toArray, List.set_cons_zero, List.set_cons_succ])
      refine wpAnyH_take (i := 2) (v := .int .i64 (n : Int)) rfl (by kernel_rfl) (by kernel_rfl) (by kernel_rfl) (fun _ _ _ h => h) (Or.inl ⟨by rfl, by intro w' hS'; go_simp <;> (first | omega | (rw [IntKind.wrap_i64]; omega) | (rw [IntKind.wrap_u64]; omega) | (rw [IntKind.wrap_u32]; omega) | (rw [Int.tmod_eq_emod_of_nonneg (by omega)]) | rfl)⟩) hS2 ?_
      (try simp only [List.getElem_toArray, List.getElem_cons_succ, List.getElem_cons_zero, Act.put, List.setIfInBounds_toArray, List.set_cons_zero, List.set_cons_succ])
      refine wpAnyH_take (i := 3) (v := .pointer (some ⟨w.heap.size + 3, 1, none⟩)) rfl (by kernel_rfl) (by kernel_rfl) (by kernel_rfl) (fun _ _ _ h => h) (Or.inl ⟨by rfl, by intro w' hS'; go_simp <;> (first | omega | (rw [IntKind.wrap_i64]; omega) | (rw [IntKind.wrap_u64]; omega) | (rw [IntKind.wrap_u32]; omega) | (rw [Int.tmod_eq_emod_of_nonneg (by omega)]) | rfl)⟩) hS2 ?_
      (try simp only [List.getElem_toArray, List.getElem_cons_succ, List.getElem_cons_zero, Act.put, List.setIfInBounds_toArray, List.set_cons_zero, List.set_cons_succ])
      refine wpAnyH_take (i := 4) (v := .map (some (w.heap.size + 1))) rfl (by kernel_rfl) (by kernel_rfl) (by kernel_rfl) (fun _ _ _ h => h) (Or.inl ⟨by rfl, by intro w' hS'; have hx1 := (HX1.out w' hS').1; have hx2 := (HX1.out w' hS').2; go_simp <;> (first | omega | (rw [IntKind.wrap_i64]; omega) | (rw [IntKind.wrap_u64]; omega) | (rw [IntKind.wrap_u32]; omega) | (rw [Int.tmod_eq_emod_of_nonneg (by omega)]) | rfl)⟩) hS2 ?_
      (try simp only [List.getElem_toArray, List.getElem_cons_succ, List.getElem_cons_zero, Act.put, List.setIfInBounds_toArray, List.set_cons_zero, List.set_cons_succ])
      refine wpAnyH_take (i := 5) (v := .agg #[.int .u8 (c0 : Nat), .int .u8 (c1 : Nat), .int .u8 (c2 : Nat), .int .u8 (c3 : Nat), .int .u8 (c4 : Nat), .int .u8 (c5 : Nat)]) rfl (by kernel_rfl) (by kernel_rfl) (by kernel_rfl) (fun _ _ _ h => h) (Or.inl ⟨by rfl, by intro w' hS'; exact yield_load_row 129 _ (w.heap.size + 4) #[.int .u8 (c0 : Nat), .int .u8 (c1 : Nat), .int .u8 (c2 : Nat), .int .u8 (c3 : Nat), .int .u8 (c4 : Nat), .int .u8 (c5 : Nat)] rfl rfl (run_loadVar_row (P := Try.prog) w' (w.heap.size + 4) 129 129 #[.int .u8 (c0 : Nat), .int .u8 (c1 : Nat), .int .u8 (c2 : Nat), .int .u8 (c3 : Nat), .int .u8 (c4 : Nat), .int .u8 (c5 : Nat)] (0, 0) _ (HX6.out w' hS') Try.underlying129 rfl info6)⟩) hS2 ?_
      (try simp only [List.getElem_toArray, List.getElem_cons_succ, List.getElem_cons_zero, Act.put, List.setIfInBounds_toArray, List.set_cons_zero, List.set_cons_succ])
      refine wpAnyH_take (i := 6) (v := .int .i64 (v : Int)) rfl (by kernel_rfl) (by kernel_rfl) (by kernel_rfl) (fun _ _ _ h => h) (Or.inl ⟨by rfl, by intro w' hS'; obtain ⟨c', hrun, hat', _⟩ := (HXO.out w' hS').lookup_int arr6_law Try.underlying115 Try.underlying3 (zeroI _) HKEY.out; rw [HV.out.1] at hat'; injection hat' with hat'; injection hat' with _ hat'; subst hat'; (first | (simp [execOp, hrun, Result.andThen]; done) | (go_simp; done))⟩) hS2 ?_
      (try simp only [List.getElem_toArray, List.getElem_cons_succ, List.getElem_cons_zero, Act.put, List.setIfInBounds_toArray, List.set_cons_zero, List.set_cons_succ])
      refine wpAnyH_take (i := 7) (v := .pointer (some ⟨w.heap.size + 2, n, none⟩)) rfl (by kernel_rfl) (by kernel_rfl) (by kernel_rfl) (fun _ _ _ h => h) (Or.inl ⟨by rfl, by intro w' hS'; go_simp <;> (first | omega | (rw [IntKind.wrap_i64]; omega) | (rw [IntKind.wrap_u64]; omega) | (rw [IntKind.wrap_u32]; omega) | (rw [Int.tmod_eq_emod_of_nonneg (by omega)]) | rfl)⟩) hS2 ?_
      (try simp only [List.getElem_toArray, List.getElem_cons_succ, List.getElem_cons_zero, Act.put, List.setIfInBounds_toArray, List.set_cons_zero, List.set_cons_succ])
      have hrw2 : w2.drew.heap[w.heap.size + 2]? = some (.cells cur 3 (0, 0)) := HB2.out.nx
      obtain ⟨u, hu⟩ : ∃ u, cur[n]? = some u := ⟨cur[n]'(by omega), Array.getElem?_eq_getElem _⟩
      have x1 : w2.drew.cell? ⟨w.heap.size + 2, n, none⟩ = some u := (cell_of_row _ _ _ _ _ _ hrw2).trans hu
      have z1 := frozen_of_row w2.drew (w.heap.size + 2) n _ _ hrw2
      have HB3 := hid (HB2.out.drew.setC n (.int .i64 (v : Int)))
      have hS3 : S2 (w2.drew.setCell ⟨w.heap.size + 2, n, none⟩ (.int .i64 (v : Int))) := by
        rw [HSS2.out]
        exact fun k hk => heap_setCell_other w2.drew ⟨w.heap.size + 2, n, none⟩ k _ hk
      refine held_stepS (i := 8) (by kernel_rfl) rfl (by rfl) ?_
      go_simp
      refine ⟨hS3, ?_⟩
      (try simp only [List.getElem_toArray, List.getElem_cons_succ, List.getElem_cons_zero, Act.put, List.setIfInBounds_toArray, List.set_cons_zero, List.set_cons_succ])
      refine wpAnyH_done (by kernel_rfl) ?_ _
      have hWF : (Lit.int .i64 (n : Int)).wf = true := by
        simp [Lit.wf, IntKind.min, IntKind.max, IntKind.signed, IntKind.bits]; omega
      have HWF := hid hWF
      have HCUR2 : Hid (∀ j, o.size - 5 - (i + 1) ≤ j → j < o.size - 5 → ∃ v' : Nat, (cur.setIfInBounds n (.int .i64 (v : Int)))[j]? = some (.int .i64 (v' : Int)) ∧ v' ≤ o.size - 5 ∧ NX (bsOf o) (o.size - 5) j v') := fun j h1 h2 => by
        have hn := HN.out
        by_cases e : j = n
        · subst e
          exact ⟨v, by rw [Array.getElem?_setIfInBounds_self_of_lt (by omega)], HV.out.2.1, HV.out.2.2⟩
        · obtain ⟨v', k1, k2⟩ := HCUR.out j (by omega) h2
          exact ⟨v', by rw [Array.getElem?_setIfInBounds_ne (by omega)]; exact k1, k2⟩
      have hcs2 : (cur.setIfInBounds n (.int .i64 (v : Int))).size = o.size := by simpa using hcs
      have hdr : w2.drew.setCell ⟨w.heap.size + 2, n, none⟩ (.int .i64 (v : Int)) = (w2.setCell ⟨w.heap.size + 2, n, none⟩ (.int .i64 (v : Int))).drew := rfl
      rw [hdr] at HB3
      clear hS2 hS3 HX1 HX6 HXO HSS2 HV HLOOK HCUR HB2 hrw2 hu x1 z1 hWF hdr
      generalize (w2.setCell ⟨w.heap.size + 2, n, none⟩ (.int .i64 (v : Int))).drew = w3 at HB3 ⊢
      have y1 : w3.cell? ⟨w.heap.size + 3, 1, none⟩ = some (.map (some (w.heap.size + 1))) := cell_of_row w3 _ 1 _ _ _ HB3.out.st
      go_wp2_with (first
        | (refine wpList_load_row rfl 129 _ rfl (w.heap.size + 4) rfl 129 #[.int .u8 (c0 : Nat), .int .u8 (c1 : Nat), .int .u8 (c2 : Nat), .int .u8 (c3 : Nat), .int .u8 (c4 : Nat), .int .u8 (c5 : Nat)] (0, 0) _ HB3.out.row Try.underlying129 rfl info6 ?_)
        | (at_mapUpdate; refine wpList_mapUpdate_own _ rfl _ _ _ 115 rfl 129 3 arr6_law Try.underlying115 _ (w.heap.size + 1) i _ rfl HB3.out.own (by unfold maxLen; omega) _ _ _ rfl rfl HKEY.out _ [] (plainElem_int Try.underlying3 HWF.out) ?_; intro w4 hown4 hgrow4; refine hold_goal ?_))
      have HB4 := hid (HB3.out.put (by rw [HC6.out]; exact hown4) hgrow4)
      clear hown4 hgrow4 HB3 y1
      unfold Hid
      go_wp2_with fail
      go_roundw
      case rel => exact ⟨i + 1, _, _, by omega, by have := HN.out; show Value.int .i64 _ = Value.int .i64 _; congr 1; omega, hcs2, rfl, HB4, HCUR2⟩
      case measure => have := HN.out; first | (simp [lonIntOf]; done) | (simp [lonIntOf]; omega)
    · obtain rfl : i = o.size - 5 := by omega
      have hend : ¬ (0 : Int) ≤ (o.size : Int) - 6 - ((o.size - 5 : Nat) : Int) := by omega
      have s0 := cell_of_row wr _ 0 _ _ _ HB.out.st
      have s1 := cell_of_row wr _ 1 _ _ _ HB.out.st
      have s2 := cell_of_row wr _ 2 _ _ _ HB.out.st
      have r0 := cell_of_row wr _ 0 _ _ _ HB.out.res
      have r1 := cell_of_row wr _ 1 _ _ _ HB.out.res
      have r2 := cell_of_row wr _ 2 _ _ _ HB.out.res
      unfold opV at s0 s1 s2
      simp only [List.getElem?_toArray, List.getElem?_cons_zero, List.getElem?_cons_succ] at s0 s1 s2 r0 r1 r2
      have f0 := frozen_of_row wr w.heap.size 0 _ _ HB.out.res
      have f1 := frozen_of_row wr w.heap.size 1 _ _ HB.out.res
      have f2 := frozen_of_row wr w.heap.size 2 _ _ HB.out.res
      have f3 := frozen_of_row wr (w.heap.size + 3) 0 _ _ HB.out.st
      have hinf : Option.map (·.size) (Try.prog.info? 118) = some 3 := by kernel_rfl
      obtain ⟨W3, hW3⟩ : ∃ W3, W3 = ((wr.setCell ⟨w.heap.size, 0, none⟩ (.string o)).setCell ⟨w.heap.size, 1, none⟩ (.map (some (w.heap.size + 1)))).setCell ⟨w.heap.size, 2, none⟩ (.slice (some ⟨w.heap.size + 2, 0, none⟩) o.size o.size) := ⟨_, rfl⟩
      have HO3 : Hid (∀ k, k ≠ w.heap.size → W3.heap[k]? = wr.heap[k]?) := fun k hk => by
        rw [hW3]
        exact (heap_setCell_other _ ⟨w.heap.size, 2, none⟩ k _ hk).trans ((heap_setCell_other _ ⟨w.heap.size, 1, none⟩ k _ hk).trans (heap_setCell_other _ ⟨w.heap.size, 0, none⟩ k _ hk))
      have HR3 : Hid (W3.heap[w.heap.size]? = some (.cells (opV o w.heap.size) 118 (0, 0))) := by
        rw [hW3]
        exact heap_setCell_same _ _ _ _ _ _ (heap_setCell_same _ _ _ _ _ _ (heap_setCell_same _ _ _ _ _ _ HB.out.res))
      have HBL : Hid (Below w.heap.size w W3) := by
        rw [hW3]
        exact ((HB.out.below.setCell (p := ⟨w.heap.size, 0, none⟩) (Nat.le_refl _) _).setCell (p := ⟨w.heap.size, 1, none⟩) (Nat.le_refl _) _).setCell (p := ⟨w.heap.size, 2, none⟩) (Nat.le_refl _) _
      have HSZ : Hid (wr.heap.size = W3.heap.size) := by rw [hW3]; show _ = _; simp [World.setCell]
      go_wp2_with fail
      rw [← hW3]
      refine bodyPost_ret (results_cell_row rfl _ _ w.heap.size 118 (opV o w.heap.size) (0, 0) _ rfl HR3.out Try.underlying118 rfl hinf) rfl ⟨⟨rfl, ?_, ?_, fun j hj => ?_⟩, HBL.out⟩
      · have := (Array.getElem?_eq_some_iff.1 HB.out.row).1
        have := HSZ.out
        omega
      · exact own_other6 HB.out.own (HO3.out _ (by omega))
      · obtain ⟨v, h1, h2, h3⟩ := HCUR.out j (by omega) hj
        exact ⟨v, (cell_of_row W3 _ j _ _ _ ((HO3.out _ (by omega)).trans HB.out.nx)).trans h1, h2, h3⟩
end Go.Proofs.Ytpeddaljgmkomaa
