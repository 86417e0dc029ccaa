/-
  A coder that reads: one choice, at any bytes.
-/
import Derived.Test.YtibciflmalfbjaaDecNx
import Derived.Test.YtibciflmalfbjaaRngN
import Derived.BigRegion
import Derived.Lib.Strings
import Derived.Lib.CutLaws
import Derived.Laws.DeepStrings4
import Derived.Laws.Strings3
namespace Go.Proofs.Ytibciflmalfbjaa
open Go.RowKit
set_option linter.unusedVariables false
set_option linter.unusedSimpArgs false
def bl (R : ByteArray) : List Nat := R.data.toList.map (·.toNat)
theorem bl_lt (R : ByteArray) : ∀ x ∈ bl R, x < 256 := by
  intro x hx
  obtain ⟨c, _, rfl⟩ := List.mem_map.1 hx
  exact UInt8.toNat_lt c
theorem bl_nil {R : ByteArray} (h : R.size = 0) : bl R = [] := by
  have : R.data.toList = [] := by rw [Lib.size_eq] at h; exact List.length_eq_zero_iff.1 h
  unfold bl; rw [this]; rfl
theorem bl_cons {R : ByteArray} (h : 0 < R.size) : bl R = R[0].toNat :: bl (R.extract 1 R.size) := by
  have h2 : 0 < R.data.toList.length := by rw [← Lib.size_eq]; exact h
  unfold bl
  rw [Lib.extract_to_end]
  have e : R.data.toList = R.data.toList[0] :: R.data.toList.drop 1 := by rw [← List.drop_eq_getElem_cons h2]; rfl
  rw [e]; rfl
/-- a coder that reads, at block g -/
structure DEC (w : World) (g wd cd : Nat) (pr : Nat → Nat) (R : ByteArray) (C : Array Value) : Prop where
  row : w.heap[g]? = some (.cells C 129 (0, 0))
  sz : C.size = 515
  c0 : C[0]? = some (.int .i64 (wd : Int))
  cp : ∀ j, j < 512 → C[1 + j]? = some (.int .i64 (pr j : Int))
  cc : C[513]? = some (.int .i64 (cd : Int))
  cr : C[514]? = some (.string R)
theorem DEC.of_row {w w' : World} {g wd cd : Nat} {pr : Nat → Nat} {R : ByteArray} {C : Array Value} (h : DEC w g wd cd pr R C) (e : w'.heap[g]? = w.heap[g]?) : DEC w' g wd cd pr R C := ⟨e.trans h.row, h.sz, h.c0, h.cp, h.cc, h.cr⟩
theorem DEC.lt {w : World} {g wd cd : Nat} {pr : Nat → Nat} {R : ByteArray} {C : Array Value} (h : DEC w g wd cd pr R C) : g < w.heap.size := (Array.getElem?_eq_some_iff.1 h.row).1
theorem DEC.narrow {w w' : World} {g wd cd x wd' p' : Nat} {pr : Nat → Nat} {R : ByteArray} {C : Array Value} (h : DEC w g wd cd pr R C) (hx : x < 512) (hr : w'.heap[g]? = some (.cells (narC C x wd' p') 129 (0, 0))) :
    DEC w' g wd' cd (fun j => if j = x then p' else pr j) R (narC C x wd' p') := by
  refine ⟨hr, by simp [narC, h.sz], ?_, ?_, ?_, ?_⟩
  · unfold narC; rw [Array.getElem?_setIfInBounds_ne (by omega), Array.getElem?_setIfInBounds_self_of_lt (by rw [h.sz]; omega)]
  · intro j hj
    unfold narC
    by_cases e : j = x
    · subst e; rw [if_pos rfl, Array.getElem?_setIfInBounds_self_of_lt (by simp [h.sz]; omega)]
    · rw [if_neg e, Array.getElem?_setIfInBounds_ne (by omega), Array.getElem?_setIfInBounds_ne (by omega)]; exact h.cp j hj
  · unfold narC; rw [Array.getElem?_setIfInBounds_ne (by omega), Array.getElem?_setIfInBounds_ne (by omega)]; exact h.cc
  · unfold narC; rw [Array.getElem?_setIfInBounds_ne (by omega), Array.getElem?_setIfInBounds_ne (by omega)]; exact h.cr
theorem DEC.setw {w : World} {g wd cd : Nat} {pr : Nat → Nat} {R : ByteArray} {C : Array Value} (h : DEC w g wd cd pr R C) (wd' : Nat) : DEC (w.setCell ⟨g, 0, none⟩ (.int .i64 (wd' : Int))) g wd' cd pr R (C.setIfInBounds 0 (.int .i64 (wd' : Int))) :=
  ⟨heap_setCell_same _ _ _ _ _ _ h.row, by simp [h.sz], Array.getElem?_setIfInBounds_self_of_lt (by rw [h.sz]; omega), fun j hj => by rw [Array.getElem?_setIfInBounds_ne (by omega)]; exact h.cp j hj, by rw [Array.getElem?_setIfInBounds_ne (by omega)]; exact h.cc, by rw [Array.getElem?_setIfInBounds_ne (by omega)]; exact h.cr⟩
theorem DEC.setc {w : World} {g wd cd : Nat} {pr : Nat → Nat} {R : ByteArray} {C : Array Value} (h : DEC w g wd cd pr R C) (cd' : Nat) : DEC (w.setCell ⟨g, 513, none⟩ (.int .i64 (cd' : Int))) g wd cd' pr R (C.setIfInBounds 513 (.int .i64 (cd' : Int))) :=
  ⟨heap_setCell_same _ _ _ _ _ _ h.row, by simp [h.sz], by rw [Array.getElem?_setIfInBounds_ne (by omega)]; exact h.c0, fun j hj => by rw [Array.getElem?_setIfInBounds_ne (by omega)]; exact h.cp j hj, Array.getElem?_setIfInBounds_self_of_lt (by rw [h.sz]; omega), by rw [Array.getElem?_setIfInBounds_ne (by omega)]; exact h.cr⟩
theorem DEC.setr {w : World} {g wd cd : Nat} {pr : Nat → Nat} {R : ByteArray} {C : Array Value} (h : DEC w g wd cd pr R C) (R' : ByteArray) : DEC (w.setCell ⟨g, 514, none⟩ (.string R')) g wd cd pr R' (C.setIfInBounds 514 (.string R')) :=
  ⟨heap_setCell_same _ _ _ _ _ _ h.row, by simp [h.sz], by rw [Array.getElem?_setIfInBounds_ne (by omega)]; exact h.c0, fun j hj => by rw [Array.getElem?_setIfInBounds_ne (by omega)]; exact h.cp j hj, by rw [Array.getElem?_setIfInBounds_ne (by omega)]; exact h.cc, Array.getElem?_setIfInBounds_self_of_lt (by rw [h.sz]; omega)⟩
theorem grownBy_drewN (w : World) (n : Nat) (g : Option Nat) : w.grownBy (w.drewN n) g := ⟨rfl, rfl, rfl, Nat.le_refl _, fun _ _ _ => rfl⟩
theorem below_grownBy {w w' : World} (h : Below w.heap.size w w') (g : Option Nat) : w.grownBy w' g := ⟨h.os, h.tape, h.output, h.size, fun k hk _ => h.block k hk⟩
/-- a coder that reads stands at block g, as these numbers say -/
def DecAt (w : World) (g : Nat) (s : DS) : Prop := ∃ R C, DEC w g s.width s.code s.probs R C ∧ bl R = s.rest
def restAt (g : Nat) (w : World) : Nat := match w.cell? ⟨g, 514, none⟩ with | some (.string r) => r.size | _ => 0
theorem restAt_eq {w : World} {g : Nat} {r : ByteArray} (h : w.cell? ⟨g, 514, none⟩ = some (.string r)) : restAt g w = r.size := by unfold restAt; rw [h]
set_option maxRecDepth 100000 in
set_option maxHeartbeats 4000000 in
theorem dnext_any {w : World} {g x : Nat} {s : DS} (hs : s.Fine) (hD : DecAt w g s) (hx : x < 512) :
    Calls Try.prog 52 #[.pointer (some ⟨g, 0, none⟩), .int .i64 (x : Int)] w fun e w' => e = .returned (.tuple #[.int .i64 ((s.tell x : Nat) : Int), .bool (s.ok x)]) ∧ DecAt w' g (s.go x) ∧ w.grownBy w' (some g) := by
  obtain ⟨R, C, hE, hR⟩ := hD
  have hpr := hs.p x
  have hw2 := hs.w
  have hc2 := hs.c
  have hble := DS.bd_le hs x
  obtain ⟨bd, hbd⟩ : ∃ bd, bd = s.bd x := ⟨_, rfl⟩
  rw [← hbd] at hble
  have HBD : Hid (∀ w' : World, w'.heap[g]? = w.heap[g]? → Calls Try.prog 75 #[.pointer (some ⟨g, 0, none⟩), .int .i64 (x : Int)] w' fun e w'' => e = .returned (.int .i64 (bd : Int)) ∧ Below w'.heap.size w' w'') := fun w' e => by
    have h := hE.of_row e
    rw [hbd]
    exact bound_any g s.width x (s.probs x) w' hw2 hx hpr.2 ((cell_of_row w' g 0 _ _ _ h.row).trans h.c0) ((cell_of_row w' g (1 + x) _ _ _ h.row).trans (h.cp x hx))
  obtain ⟨N, hN⟩ : ∃ N, N = s.nx x := ⟨_, rfl⟩
  have HGO : Hid (∀ w' R' C', DEC w' g N.2.1 N.2.2.1 (s.pr x) R' C' → bl R' = N.2.2.2 → w.grownBy w' (some g) → DecAt w' g (s.go x) ∧ w.grownBy w' (some g)) := fun w' R' C' h1 h2 h3 => by
    rw [hN] at h1 h2
    exact ⟨⟨R', C', h1, h2⟩, h3⟩
  have HTN : Hid (N.1 = false → s.tell x = 0 ∧ s.ok x = false) := fun h => by
    have : s.ok x = false := by unfold DS.ok; rw [← hN]; exact h
    exact ⟨by unfold DS.tell; rw [this]; rfl, this⟩
  have HTY : Hid (N.1 = true → s.tell x = s.bit x ∧ s.ok x = true) := fun h => by
    have : s.ok x = true := by unfold DS.ok; rw [← hN]; exact h
    exact ⟨by unfold DS.tell; rw [this]; rfl, this⟩
  have HN0 : Hid (s.code < bd → s.bit x = 0 ∧ nrm bd s.code (bl R) = N ∧ s.pr x = fun j => if j = x then movP (s.probs x) 0 else s.probs j) := fun h => by
    have hb : s.bit x = 0 := by unfold DS.bit; rw [← hbd, if_pos h]
    refine ⟨hb, ?_, ?_⟩
    · rw [hN]; unfold DS.nx DS.w1 DS.c1; rw [← hbd, if_pos h, if_pos h, hR]
    · funext j; unfold DS.pr; rw [hb]
  have HN1 : Hid (¬ s.code < bd → s.bit x = 1 ∧ nrm (s.width - bd) (s.code - bd) (bl R) = N ∧ s.pr x = fun j => if j = x then movP (s.probs x) 1 else s.probs j) := fun h => by
    have hb : s.bit x = 1 := by unfold DS.bit; rw [← hbd, if_neg h]
    refine ⟨hb, ?_, ?_⟩
    · rw [hN]; unfold DS.nx DS.w1 DS.c1; rw [← hbd, if_neg h, if_neg h, hR]
    · funext j; unfold DS.pr; rw [hb]
  have HPX : Hid (1 ≤ s.probs x ∧ s.probs x ≤ 2047) := hpr
  generalize s.tell x = tl at HTN HTY ⊢
  generalize s.ok x = ok at HTN HTY ⊢
  generalize s.bit x = bt at HTY HN0 HN1
  generalize s.pr x = pr' at HGO HN0 HN1
  generalize s.go x = sg at HGO ⊢
  obtain ⟨wd, cd, pr, rs⟩ := s
  simp only at hE hw2 hc2 hble HN0 HN1 HPX
  clear hN hbd hpr hs hR
  obtain ⟨W1, hW1⟩ : ∃ W1, W1 = w.alloc (.cells #[.int .i64 (x : Int), .int .i64 0] 106) := ⟨_, rfl⟩
  have hgl := hE.lt
  have HE1 : Hid (DEC W1 g wd cd pr R C) := hE.of_row (by rw [hW1]; exact Below.heap_alloc _ _ _ hgl)
  have HBOX : Hid (W1.heap[w.heap.size]? = some (.cells #[.int .i64 (x : Int), .int .i64 0] 106 (0, 0))) := by rw [hW1]; exact heap_alloc_new _ _
  have HG1 : Hid (w.grownBy W1 (some g)) := by rw [hW1]; exact World.grownBy_alloc _ _ _
  have HBD2 : Hid (Calls Try.prog 75 #[.pointer (some ⟨g, 0, none⟩), .int .i64 (x : Int)] W1 fun e w'' => e = .returned (.int .i64 (bd : Int)) ∧ Below W1.heap.size W1 w'') := HBD.out W1 (by rw [hW1]; exact Below.heap_alloc _ _ _ hgl)
  have HGL : Hid (g < w.heap.size ∧ x < 512) := ⟨hgl, hx⟩
  clear hE HBD hgl
  go_enter Try.func52, Try.ntmps52
  go_wp2_with fail
  rw [← hW1]
  clear hW1
  refine HBD2.out.mono ?_
  rintro e w3 ⟨rfl, hb3⟩
  have HE3 : Hid (DEC w3 g wd cd pr R C) := HE1.out.of_row (hb3.block _ HE1.out.lt)
  have HBOX3 : Hid (w3.heap[w.heap.size]? = some (.cells #[.int .i64 (x : Int), .int .i64 0] 106 (0, 0))) := (hb3.block _ (Array.getElem?_eq_some_iff.1 HBOX.out).1).trans HBOX.out
  have HG3 : Hid (w.grownBy w3 (some g)) := HG1.out.trans (below_grownBy hb3 _)
  clear HE1 HBOX HG1 hb3 HBD2
  have k513 : w3.cell? ⟨g, 513, none⟩ = some (.int .i64 (cd : Int)) := (cell_of_row w3 g 513 _ _ _ HE3.out.row).trans HE3.out.cc
  have hbx1 : w3.cell? ⟨w.heap.size, 1, none⟩ = some (.int .i64 0) := cell_of_row w3 _ 1 _ _ _ HBOX3.out
  have hbz1 := frozen_of_row w3 w.heap.size 1 _ _ HBOX3.out
  have hz513 := frozen_of_row w3 g 513 _ _ HE3.out.row
  by_cases hlt : cd < bd
  · have hltI : ¬ (bd : Int) ≤ (cd : Int) := by omega
    clear hbx1 hbz1 hz513
    go_wp2_with fail
    clear k513
    obtain ⟨w4, hw4⟩ : ∃ w4, w4 = w3 := ⟨_, rfl⟩
    rw [← hw4] at HE3 HBOX3 HG3 ⊢
    obtain ⟨C4, hC4⟩ : ∃ C4, C4 = C := ⟨_, rfl⟩
    have HE4 : Hid (DEC w4 g wd cd pr R C4) := by rw [hC4]; exact HE3.out
    have HBOX4 : Hid _ := HBOX3.out
    have HG4 : Hid (w.grownBy w4 (some g)) := HG3.out
    clear hw4 hC4 HE3 HBOX3 HG3
    have HNAR : Hid (Calls Try.prog 76 #[.pointer (some ⟨g, 0, none⟩), .agg #[.int .i64 (x : Int), .int .i64 0], .int .i64 (bd : Int)] w4.drew fun e w' => (∃ v, e = .returned v) ∧ w'.heap[g]? = some (.cells (narC C4 x bd (movP (pr x) 0)) 129 (0, 0)) ∧ w4.drew.grownBy w' (some g)) := narrow_zero g wd x (pr x) bd C4 _ w4.drew HGL.out.2 HPX.out HE4.out.row HE4.out.c0 (HE4.out.cp x HGL.out.2)
    obtain ⟨S, hSS⟩ : ∃ S : World → Prop, S = fun w' => w'.cell? ⟨w.heap.size, 0, none⟩ = some (.int .i64 (x : Int)) ∧ w'.cell? ⟨w.heap.size, 1, none⟩ = some (.int .i64 0) := ⟨_, rfl⟩
    have HS : Hid (S = fun w' => w'.cell? ⟨w.heap.size, 0, none⟩ = some (.int .i64 (x : Int)) ∧ w'.cell? ⟨w.heap.size, 1, none⟩ = some (.int .i64 0)) := hSS
    have hSd : S w4.drew := by rw [hSS]; exact ⟨cell_of_row w4 _ 0 _ _ _ HBOX4.out, cell_of_row w4 _ 1 _ _ _ HBOX4.out⟩
    have HX2 : Hid (∀ w', S w' → w'.cell? ⟨w.heap.size, 0, none⟩ = some (.int .i64 (x : Int)) ∧ w'.cell? ⟨w.heap.size, 1, none⟩ = some (.int .i64 0)) := fun w' h => by rw [hSS] at h; exact h
    clear hSS
    refine wp_region_held (S := S) (by kernel_rfl) ?_
    change wpAnyH _ _ _ _ _ _ _ _ (World.drew _)
    refine wpAnyH_take (i := 0) (v := .pointer (some ⟨g, 0, none⟩)) rfl (by kernel_rfl) (by kernel_rfl) (by kernel_rfl) (fun _ _ _ h => h) (Or.inl ⟨by rfl, by intro w' hS'; go_simp <;> (first | omega | (rw [IntKind.wrap_i64]; omega) | (rw [IntKind.wrap_u64]; omega) | (rw [IntKind.wrap_u32]; omega) | (rw [Int.tmod_eq_emod_of_nonneg (by omega)]))⟩) hSd ?_
    (try simp only [List.getElem_toArray, List.getElem_cons_succ, List.getElem_cons_zero, Act.put, List.setIfInBounds_toArray, List.set_cons_zero, List.set_cons_succ])
    refine wpAnyH_take (i := 1) (v := .pointer (some ⟨g, 0, none⟩)) rfl (by kernel_rfl) (by kernel_rfl) (by kernel_rfl) (fun _ _ _ h => h) (Or.inl ⟨by rfl, by intro w' hS'; go_simp <;> (first | omega | (rw [IntKind.wrap_i64]; omega) | (rw [IntKind.wrap_u64]; omega) | (rw [IntKind.wrap_u32]; omega) | (rw [Int.tmod_eq_emod_of_nonneg (by omega)]))⟩) hSd ?_
    (try simp only [List.getElem_toArray, List.getElem_cons_succ, List.getElem_cons_zero, Act.put, List.setIfInBounds_toArray, List.set_cons_zero, List.set_cons_succ])
    refine wpAnyH_take (i := 2) (v := .pointer (some ⟨g, 0, none⟩)) rfl (by kernel_rfl) (by kernel_rfl) (by kernel_rfl) (fun _ _ _ h => h) (Or.inl ⟨by rfl, by intro w' hS'; go_simp <;> (first | omega | (rw [IntKind.wrap_i64]; omega) | (rw [IntKind.wrap_u64]; omega) | (rw [IntKind.wrap_u32]; omega) | (rw [Int.tmod_eq_emod_of_nonneg (by omega)]))⟩) hSd ?_
    (try simp only [List.getElem_toArray, List.getElem_cons_succ, List.getElem_cons_zero, Act.put, List.setIfInBounds_toArray, List.set_cons_zero, List.set_cons_succ])
    refine wpAnyH_take (i := 3) (v := .agg #[.int .i64 (x : Int), .int .i64 0]) rfl (by kernel_rfl) (by kernel_rfl) (by kernel_rfl) (fun _ _ _ h => h) (Or.inl ⟨by rfl, by intro w' hS'; have hx0 := (HX2.out w' hS').1; have hx1 := (HX2.out w' hS').2; go_simp <;> (first | omega | (rw [IntKind.wrap_i64]; omega) | (rw [IntKind.wrap_u64]; omega) | (rw [IntKind.wrap_u32]; omega) | (rw [Int.tmod_eq_emod_of_nonneg (by omega)]))⟩) hSd ?_
    (try simp only [List.getElem_toArray, List.getElem_cons_succ, List.getElem_cons_zero, Act.put, List.setIfInBounds_toArray, List.set_cons_zero, List.set_cons_succ])
    refine wpAnyH_take (i := 4) (v := .int .i64 (bd : Int)) rfl (by kernel_rfl) (by kernel_rfl) (by kernel_rfl) (fun _ _ _ h => h) (Or.inl ⟨by rfl, by intro w' hS'; go_simp <;> (first | omega | (rw [IntKind.wrap_i64]; omega) | (rw [IntKind.wrap_u64]; omega) | (rw [IntKind.wrap_u32]; omega) | (rw [Int.tmod_eq_emod_of_nonneg (by omega)]))⟩) hSd ?_
    (try simp only [List.getElem_toArray, List.getElem_cons_succ, List.getElem_cons_zero, Act.put, List.setIfInBounds_toArray, List.set_cons_zero, List.set_cons_succ])
    refine held_stepS (i := 5) (by kernel_rfl) rfl (by rfl) ?_
    go_simp
    refine (HNAR.out).mono ?_
    rintro e w5 ⟨⟨ve, rfl⟩, hr5, hg5⟩
    have hbx5 : w5.heap[w.heap.size]? = some (.cells #[.int .i64 (x : Int), .int .i64 0] 106 (0, 0)) := (hg5.block _ (Array.getElem?_eq_some_iff.1 HBOX4.out).1 (by intro c; have := Option.some.inj c; have := HGL.out.1; omega)).trans HBOX4.out
    refine ⟨by rw [HS.out]; exact ⟨cell_of_row w5 _ 0 _ _ _ hbx5, cell_of_row w5 _ 1 _ _ _ hbx5⟩, ?_⟩
    (try simp only [List.getElem_toArray, List.getElem_cons_succ, List.getElem_cons_zero, Act.put, List.setIfInBounds_toArray, List.set_cons_zero, List.set_cons_succ])
    refine wpAnyH_done (by kernel_rfl) ?_ _
    have hg6 : w4.grownBy w5 (some g) := ⟨hg5.os, hg5.tape, hg5.output, hg5.size, hg5.block⟩
    obtain ⟨hbt, hnr, hpr⟩ := HN0.out (by first | exact hlt | omega)
    have HE5 : Hid (DEC w5 g bd (cd) pr' R (narC C4 x bd (movP (pr x) 0))) := by rw [hpr]; exact HE4.out.narrow HGL.out.2 hr5
    have HG5 : Hid (w.grownBy w5 (some g)) := HG4.out.trans hg6
    have HBX5 : Hid (w5.heap[w.heap.size]? = some (.cells #[.int .i64 (x : Int), .int .i64 0] 106 (0, 0))) := hbx5
    have HNR : Hid (nrm bd (cd) (bl R) = N) := hnr
    have HBT : Hid (bt = 0) := hbt
    clear hr5 hg5 hg6 hbx5 hSd HX2 HS HNAR HE4 HBOX4 HG4 HN0 HN1 hbt hnr hpr
    go_wp2_with fail
    go_loopw [] (fun wr => ∃ (wd1 cd1 : Nat) (R1 : ByteArray) (C1 : Array Value), Hid (DEC wr g wd1 cd1 pr' R1 C1) ∧ wd1 < 4294967296 ∧ cd1 < 4294967296 ∧ Hid (nrm wd1 cd1 (bl R1) = N) ∧ Hid (wr.heap[w.heap.size]? = some (.cells #[.int .i64 (x : Int), .int .i64 0] 106 (0, 0))) ∧ Hid (w.grownBy wr (some g))) (fun wr => restAt g wr)
    case atStart => exact ⟨bd, cd, R, _, HE5, by omega, by omega, HNR, HBX5, HG5⟩
    case round =>
      clear HE5 HG5 HBX5 HNR
      obtain ⟨wd1, cd1, R1, C1, HE, hw1, hc1, HNR, HBX, HG⟩ := hrel
      have x0 : wr.cell? ⟨g, 0, none⟩ = some (.int .i64 (wd1 : Int)) := (cell_of_row wr g 0 _ _ _ HE.out.row).trans HE.out.c0
      have x514 : wr.cell? ⟨g, 514, none⟩ = some (.string R1) := (cell_of_row wr g 514 _ _ _ HE.out.row).trans HE.out.cr
      have HMW : Hid (restAt g wr = R1.size) := restAt_eq x514
      by_cases hwl : wd1 < 16777216
      · have hwlI : (wd1 : Int) < 16777216 := by omega
        by_cases hr0 : R1.size = 0
        · have hte : R1.toList.isEmpty = true := by rw [Lib.toList_data]; have h := Lib.size_eq R1; rw [hr0] at h; rw [List.length_eq_zero_iff.1 h.symm]; rfl
          have hn := HNR.out
          rw [bl_nil hr0, nrm_end hwl] at hn
          obtain ⟨rfl, rfl⟩ := HTN.out (by rw [← hn])
          have HFIN : Hid (DecAt wr g sg ∧ w.grownBy wr (some g)) := HGO.out wr R1 C1 (by rw [← hn]; exact HE.out) (by rw [← hn, bl_nil hr0]) HG.out
          clear hn HGO HNR HE HBX HG HTN HTY HBT hr0
          go_wp2_with fail
          go_ret2
          exact ⟨rfl, HFIN.out⟩
        · have hr1 : 0 < R1.size := by omega
          have hr1I : (0 : Int) < (R1.size : Int) := by omega
          have hr2I : (1 : Int) ≤ (R1.size : Int) := by omega
          have hte : R1.toList.isEmpty = false := by
            rw [Lib.toList_data]
            cases h : R1.data.toList with
            | nil =>
              have h2 : R1.size = 0 := by rw [Lib.size_eq, h]; rfl
              omega
            | cons _ _ => rfl
          obtain ⟨b1, hb1⟩ : ∃ b1 : Nat, b1 = R1[0].toNat := ⟨_, rfl⟩
          have hb256 : b1 < 256 := by rw [hb1]; exact UInt8.toNat_lt _
          have hb1I : ((R1[0].toNat : Nat) : Int) = (b1 : Int) := by rw [hb1]
          obtain ⟨wd2, hwd2⟩ : ∃ wd2, wd2 = wd1 * 256 := ⟨_, rfl⟩
          obtain ⟨c2, hc2e⟩ : ∃ c2, c2 = cd1 * 256 := ⟨_, rfl⟩
          obtain ⟨c3, hc3e⟩ : ∃ c3, c3 = min (cd1 * 256 + b1) (wd1 * 256) := ⟨_, rfl⟩
          have hn := HNR.out
          rw [bl_cons hr1, nrm_step hwl, ← hb1, ← hc3e, ← hwd2] at hn
          have HNR2 : Hid (nrm wd2 c3 (bl (R1.extract 1 R1.size)) = N) := hn
          have f1 : IntKind.i64.wrap ((wd1 : Int) * 256) = (wd2 : Int) := by rw [IntKind.wrap_i64]; omega
          have f1b : (wd1 : Int) * 256 = (wd2 : Int) := by omega
          have f2 : IntKind.i64.wrap ((cd1 : Int) * 256) = (c2 : Int) := by rw [IntKind.wrap_i64]; omega
          have f2b : (cd1 : Int) * 256 = (c2 : Int) := by omega
          have f3 : IntKind.i64.wrap ((c2 : Int) + (b1 : Int)) = (c2 : Int) + (b1 : Int) := by rw [IntKind.wrap_i64]; omega
          have f4 : min ((c2 : Int) + (b1 : Int)) (wd2 : Int) = (c3 : Int) := by omega
          have f5 : IntKind.i64.wrap (b1 : Int) = (b1 : Int) := by rw [IntKind.wrap_i64]; omega
          have hw2b : wd2 < 4294967296 := by omega
          have hc3b : c3 < 4294967296 := by omega
          have z0 := frozen_of_row wr g 0 _ _ HE.out.row
          obtain ⟨W2, hW2⟩ : ∃ W2, W2 = wr.setCell ⟨g, 0, none⟩ (.int .i64 (wd2 : Int)) := ⟨_, rfl⟩
          have HE2 : Hid (DEC W2 g wd2 cd1 pr' R1 (C1.setIfInBounds 0 (.int .i64 (wd2 : Int)))) := by rw [hW2]; exact HE.out.setw wd2
          have HG2 : Hid (w.grownBy W2 (some g)) := by rw [hW2]; exact HG.out.trans (grownBy_setC _ g 0 _)
          have HB2 : Hid (W2.heap[w.heap.size]? = some (.cells #[.int .i64 (x : Int), .int .i64 0] 106 (0, 0))) := by rw [hW2]; exact (heap_setCell_other _ _ _ _ (by show w.heap.size ≠ g; have := HGL.out.1; omega)).trans HBX.out
          clear hn HNR HE HBX HG hwd2 hc2e hc3e hb1 hr0 hwl
          go_wp2_with fail
          rw [← hW2]
          clear hW2 x0 x514 z0
          have y0 : W2.cell? ⟨g, 0, none⟩ = some (.int .i64 (wd2 : Int)) := (cell_of_row W2 g 0 _ _ _ HE2.out.row).trans HE2.out.c0
          have y513 : W2.cell? ⟨g, 513, none⟩ = some (.int .i64 (cd1 : Int)) := (cell_of_row W2 g 513 _ _ _ HE2.out.row).trans HE2.out.cc
          have y514 : W2.cell? ⟨g, 514, none⟩ = some (.string R1) := (cell_of_row W2 g 514 _ _ _ HE2.out.row).trans HE2.out.cr
          have w513 := frozen_of_row W2 g 513 _ _ HE2.out.row
          go_region
          rw [show (if (wd2 : Int) < (c2 : Int) + (b1 : Int) then (wd2 : Int) else (c2 : Int) + (b1 : Int)) = (c3 : Int) from by split <;> omega]
          obtain ⟨W3, hW3⟩ : ∃ W3, W3 = (W2.setCell ⟨g, 513, none⟩ (.int .i64 (c3 : Int))).drew := ⟨_, rfl⟩
          have HE3 : Hid (DEC W3 g wd2 c3 pr' R1 ((C1.setIfInBounds 0 (.int .i64 (wd2 : Int))).setIfInBounds 513 (.int .i64 (c3 : Int)))) := by rw [hW3]; exact (HE2.out.setc c3).of_row rfl
          have HG3 : Hid (w.grownBy W3 (some g)) := by rw [hW3]; exact (HG2.out.trans (grownBy_setC _ g 513 _)).trans (grownBy_drewN _ 1 _)
          have HB3 : Hid (W3.heap[w.heap.size]? = some (.cells #[.int .i64 (x : Int), .int .i64 0] 106 (0, 0))) := by rw [hW3]; exact (heap_setCell_other _ _ _ _ (by show w.heap.size ≠ g; have := HGL.out.1; omega)).trans HB2.out
          rw [← hW3]
          clear hW3 HE2 HG2 HB2 y0 y513 y514 w513 f1 f1b f2 f2b f3 f4 f5 hte hb1I
          have v514 : W3.cell? ⟨g, 514, none⟩ = some (.string R1) := (cell_of_row W3 g 514 _ _ _ HE3.out.row).trans HE3.out.cr
          have q514 := frozen_of_row W3 g 514 _ _ HE3.out.row
          have HME : Hid (restAt g wr = R1.size) := HMW
          go_wp2_with fail
          go_roundw
          case rel => exact ⟨wd2, c3, R1.extract 1 R1.size, _, HE3.out.setr (R1.extract 1 R1.size), hw2b, hc3b, HNR2, (heap_setCell_other _ _ _ _ (by show w.heap.size ≠ g; have := HGL.out.1; omega)).trans HB3.out, HG3.out.trans (grownBy_setC _ g 514 _)⟩
          case measure =>
            rw [HME.out]
            have h2 := HE3.out.setr (R1.extract 1 R1.size)
            have h3 := restAt_eq ((cell_of_row _ g 514 _ _ _ h2.row).trans h2.cr)
            rw [h3, ByteArray.size_extract]
            omega
      · have hn := HNR.out
        rw [nrm_done (by omega)] at hn
        obtain ⟨rfl, rfl⟩ := HTY.out (by rw [← hn])
        obtain rfl := HBT.out
        have HFIN : Hid (DecAt wr g sg ∧ w.grownBy wr (some g)) := HGO.out wr R1 C1 (by rw [← hn]; exact HE.out) (by rw [← hn]) HG.out
        have hwlI : ¬ (wd1 : Int) < 16777216 := by omega
        have bx1 : wr.cell? ⟨w.heap.size, 1, none⟩ = some (.int .i64 0) := cell_of_row wr _ 1 _ _ _ HBX.out
        clear hn HGO HNR HE HBX HG HTN HTY
        go_wp2_with fail
        go_ret2
        exact ⟨rfl, HFIN.out⟩
  · have hltI : (bd : Int) ≤ (cd : Int) := by omega
    obtain ⟨cd2, hcd2⟩ : ∃ cd2, cd2 = cd - bd := ⟨_, rfl⟩
    have hsub : IntKind.i64.wrap ((cd : Int) - (bd : Int)) = (cd2 : Int) := by rw [IntKind.wrap_i64]; omega
    have hsub2 : (cd : Int) - (bd : Int) = (cd2 : Int) := by omega
    obtain ⟨w4, hw4⟩ : ∃ w4, w4 = (w3.setCell ⟨w.heap.size, 1, none⟩ (.int .i64 1)).setCell ⟨g, 513, none⟩ (.int .i64 (cd2 : Int)) := ⟨_, rfl⟩
    have hne : w.heap.size ≠ g := by have := HGL.out.1; omega
    have hgne : ¬ g = w.heap.size := fun e => hne e.symm
    have HE4 : Hid (DEC w4 g wd (cd - bd) pr R (C.setIfInBounds 513 (.int .i64 (cd2 : Int)))) := by rw [hw4, ← hcd2]; exact (HE3.out.of_row (heap_setCell_other _ _ _ _ hgne)).setc cd2
    have HBOX4 : Hid (w4.heap[w.heap.size]? = some (.cells #[.int .i64 (x : Int), .int .i64 1] 106 (0, 0))) := by rw [hw4]; exact (heap_setCell_other _ _ _ _ hne).trans (heap_setCell_same _ _ _ _ _ _ HBOX3.out)
    have HG4 : Hid (w.grownBy w4 (some g)) := by rw [hw4]; exact ⟨HG3.out.os, HG3.out.tape, HG3.out.output, by simpa using HG3.out.size, fun k hk hne2 => (heap_setCell_other _ _ _ _ (fun e => hne2 (by rw [e]))).trans ((heap_setCell_other _ _ _ _ (by show k ≠ w.heap.size; omega)).trans (HG3.out.block k hk hne2))⟩
    clear HE3 HBOX3 HG3 hcd2
    go_wp2_with fail
    rw [← hw4]
    clear hw4 k513 hbx1 hbz1 hz513 hsub hsub2
    generalize C.setIfInBounds 513 (.int .i64 (cd2 : Int)) = C4 at HE4
    have HNAR : Hid (Calls Try.prog 76 #[.pointer (some ⟨g, 0, none⟩), .agg #[.int .i64 (x : Int), .int .i64 1], .int .i64 (bd : Int)] w4.drew fun e w' => (∃ v, e = .returned v) ∧ w'.heap[g]? = some (.cells (narC C4 x (wd - bd) (movP (pr x) 1)) 129 (0, 0)) ∧ w4.drew.grownBy w' (some g)) := narrow_one g wd x (pr x) bd C4 _ w4.drew hw2 hble HGL.out.2 HPX.out HE4.out.row HE4.out.c0 (HE4.out.cp x HGL.out.2)
    obtain ⟨S, hSS⟩ : ∃ S : World → Prop, S = fun w' => w'.cell? ⟨w.heap.size, 0, none⟩ = some (.int .i64 (x : Int)) ∧ w'.cell? ⟨w.heap.size, 1, none⟩ = some (.int .i64 1) := ⟨_, rfl⟩
    have HS : Hid (S = fun w' => w'.cell? ⟨w.heap.size, 0, none⟩ = some (.int .i64 (x : Int)) ∧ w'.cell? ⟨w.heap.size, 1, none⟩ = some (.int .i64 1)) := hSS
    have hSd : S w4.drew := by rw [hSS]; exact ⟨cell_of_row w4 _ 0 _ _ _ HBOX4.out, cell_of_row w4 _ 1 _ _ _ HBOX4.out⟩
    have HX2 : Hid (∀ w', S w' → w'.cell? ⟨w.heap.size, 0, none⟩ = some (.int .i64 (x : Int)) ∧ w'.cell? ⟨w.heap.size, 1, none⟩ = some (.int .i64 1)) := fun w' h => by rw [hSS] at h; exact h
    clear hSS
    refine wp_region_held (S := S) (by kernel_rfl) ?_
    change wpAnyH _ _ _ _ _ _ _ _ (World.drew _)
    refine wpAnyH_take (i := 0) (v := .pointer (some ⟨g, 0, none⟩)) rfl (by kernel_rfl) (by kernel_rfl) (by kernel_rfl) (fun _ _ _ h => h) (Or.inl ⟨by rfl, by intro w' hS'; go_simp <;> (first | omega | (rw [IntKind.wrap_i64]; omega) | (rw [IntKind.wrap_u64]; omega) | (rw [IntKind.wrap_u32]; omega) | (rw [Int.tmod_eq_emod_of_nonneg (by omega)]))⟩) hSd ?_
    (try simp only [List.getElem_toArray, List.getElem_cons_succ, List.getElem_cons_zero, Act.put, List.setIfInBounds_toArray, List.set_cons_zero, List.set_cons_succ])
    refine wpAnyH_take (i := 1) (v := .pointer (some ⟨g, 0, none⟩)) rfl (by kernel_rfl) (by kernel_rfl) (by kernel_rfl) (fun _ _ _ h => h) (Or.inl ⟨by rfl, by intro w' hS'; go_simp <;> (first | omega | (rw [IntKind.wrap_i64]; omega) | (rw [IntKind.wrap_u64]; omega) | (rw [IntKind.wrap_u32]; omega) | (rw [Int.tmod_eq_emod_of_nonneg (by omega)]))⟩) hSd ?_
    (try simp only [List.getElem_toArray, List.getElem_cons_succ, List.getElem_cons_zero, Act.put, List.setIfInBounds_toArray, List.set_cons_zero, List.set_cons_succ])
    refine wpAnyH_take (i := 2) (v := .pointer (some ⟨g, 0, none⟩)) rfl (by kernel_rfl) (by kernel_rfl) (by kernel_rfl) (fun _ _ _ h => h) (Or.inl ⟨by rfl, by intro w' hS'; go_simp <;> (first | omega | (rw [IntKind.wrap_i64]; omega) | (rw [IntKind.wrap_u64]; omega) | (rw [IntKind.wrap_u32]; omega) | (rw [Int.tmod_eq_emod_of_nonneg (by omega)]))⟩) hSd ?_
    (try simp only [List.getElem_toArray, List.getElem_cons_succ, List.getElem_cons_zero, Act.put, List.setIfInBounds_toArray, List.set_cons_zero, List.set_cons_succ])
    refine wpAnyH_take (i := 3) (v := .agg #[.int .i64 (x : Int), .int .i64 1]) rfl (by kernel_rfl) (by kernel_rfl) (by kernel_rfl) (fun _ _ _ h => h) (Or.inl ⟨by rfl, by intro w' hS'; have hx0 := (HX2.out w' hS').1; have hx1 := (HX2.out w' hS').2; go_simp <;> (first | omega | (rw [IntKind.wrap_i64]; omega) | (rw [IntKind.wrap_u64]; omega) | (rw [IntKind.wrap_u32]; omega) | (rw [Int.tmod_eq_emod_of_nonneg (by omega)]))⟩) hSd ?_
    (try simp only [List.getElem_toArray, List.getElem_cons_succ, List.getElem_cons_zero, Act.put, List.setIfInBounds_toArray, List.set_cons_zero, List.set_cons_succ])
    refine wpAnyH_take (i := 4) (v := .int .i64 (bd : Int)) rfl (by kernel_rfl) (by kernel_rfl) (by kernel_rfl) (fun _ _ _ h => h) (Or.inl ⟨by rfl, by intro w' hS'; go_simp <;> (first | omega | (rw [IntKind.wrap_i64]; omega) | (rw [IntKind.wrap_u64]; omega) | (rw [IntKind.wrap_u32]; omega) | (rw [Int.tmod_eq_emod_of_nonneg (by omega)]))⟩) hSd ?_
    (try simp only [List.getElem_toArray, List.getElem_cons_succ, List.getElem_cons_zero, Act.put, List.setIfInBounds_toArray, List.set_cons_zero, List.set_cons_succ])
    refine held_stepS (i := 5) (by kernel_rfl) rfl (by rfl) ?_
    go_simp
    refine (HNAR.out).mono ?_
    rintro e w5 ⟨⟨ve, rfl⟩, hr5, hg5⟩
    have hbx5 : w5.heap[w.heap.size]? = some (.cells #[.int .i64 (x : Int), .int .i64 1] 106 (0, 0)) := (hg5.block _ (Array.getElem?_eq_some_iff.1 HBOX4.out).1 (by intro c; have := Option.some.inj c; have := HGL.out.1; omega)).trans HBOX4.out
    refine ⟨by rw [HS.out]; exact ⟨cell_of_row w5 _ 0 _ _ _ hbx5, cell_of_row w5 _ 1 _ _ _ hbx5⟩, ?_⟩
    (try simp only [List.getElem_toArray, List.getElem_cons_succ, List.getElem_cons_zero, Act.put, List.setIfInBounds_toArray, List.set_cons_zero, List.set_cons_succ])
    refine wpAnyH_done (by kernel_rfl) ?_ _
    have hg6 : w4.grownBy w5 (some g) := ⟨hg5.os, hg5.tape, hg5.output, hg5.size, hg5.block⟩
    obtain ⟨hbt, hnr, hpr⟩ := HN1.out (by first | exact hlt | omega)
    have HE5 : Hid (DEC w5 g (wd - bd) (cd - bd) pr' R (narC C4 x (wd - bd) (movP (pr x) 1))) := by rw [hpr]; exact HE4.out.narrow HGL.out.2 hr5
    have HG5 : Hid (w.grownBy w5 (some g)) := HG4.out.trans hg6
    have HBX5 : Hid (w5.heap[w.heap.size]? = some (.cells #[.int .i64 (x : Int), .int .i64 1] 106 (0, 0))) := hbx5
    have HNR : Hid (nrm (wd - bd) (cd - bd) (bl R) = N) := hnr
    have HBT : Hid (bt = 1) := hbt
    clear hr5 hg5 hg6 hbx5 hSd HX2 HS HNAR HE4 HBOX4 HG4 HN0 HN1 hbt hnr hpr
    go_wp2_with fail
    go_loopw [] (fun wr => ∃ (wd1 cd1 : Nat) (R1 : ByteArray) (C1 : Array Value), Hid (DEC wr g wd1 cd1 pr' R1 C1) ∧ wd1 < 4294967296 ∧ cd1 < 4294967296 ∧ Hid (nrm wd1 cd1 (bl R1) = N) ∧ Hid (wr.heap[w.heap.size]? = some (.cells #[.int .i64 (x : Int), .int .i64 1] 106 (0, 0))) ∧ Hid (w.grownBy wr (some g))) (fun wr => restAt g wr)
    case atStart => exact ⟨(wd - bd), cd - bd, R, _, HE5, by omega, by omega, HNR, HBX5, HG5⟩
    case round =>
      clear HE5 HG5 HBX5 HNR
      obtain ⟨wd1, cd1, R1, C1, HE, hw1, hc1, HNR, HBX, HG⟩ := hrel
      have x0 : wr.cell? ⟨g, 0, none⟩ = some (.int .i64 (wd1 : Int)) := (cell_of_row wr g 0 _ _ _ HE.out.row).trans HE.out.c0
      have x514 : wr.cell? ⟨g, 514, none⟩ = some (.string R1) := (cell_of_row wr g 514 _ _ _ HE.out.row).trans HE.out.cr
      have HMW : Hid (restAt g wr = R1.size) := restAt_eq x514
      by_cases hwl : wd1 < 16777216
      · have hwlI : (wd1 : Int) < 16777216 := by omega
        by_cases hr0 : R1.size = 0
        · have hte : R1.toList.isEmpty = true := by rw [Lib.toList_data]; have h := Lib.size_eq R1; rw [hr0] at h; rw [List.length_eq_zero_iff.1 h.symm]; rfl
          have hn := HNR.out
          rw [bl_nil hr0, nrm_end hwl] at hn
          obtain ⟨rfl, rfl⟩ := HTN.out (by rw [← hn])
          have HFIN : Hid (DecAt wr g sg ∧ w.grownBy wr (some g)) := HGO.out wr R1 C1 (by rw [← hn]; exact HE.out) (by rw [← hn, bl_nil hr0]) HG.out
          clear hn HGO HNR HE HBX HG HTN HTY HBT hr0
          go_wp2_with fail
          go_ret2
          exact ⟨rfl, HFIN.out⟩
        · have hr1 : 0 < R1.size := by omega
          have hr1I : (0 : Int) < (R1.size : Int) := by omega
          have hr2I : (1 : Int) ≤ (R1.size : Int) := by omega
          have hte : R1.toList.isEmpty = false := by
            rw [Lib.toList_data]
            cases h : R1.data.toList with
            | nil =>
              have h2 : R1.size = 0 := by rw [Lib.size_eq, h]; rfl
              omega
            | cons _ _ => rfl
          obtain ⟨b1, hb1⟩ : ∃ b1 : Nat, b1 = R1[0].toNat := ⟨_, rfl⟩
          have hb256 : b1 < 256 := by rw [hb1]; exact UInt8.toNat_lt _
          have hb1I : ((R1[0].toNat : Nat) : Int) = (b1 : Int) := by rw [hb1]
          obtain ⟨wd2, hwd2⟩ : ∃ wd2, wd2 = wd1 * 256 := ⟨_, rfl⟩
          obtain ⟨c2, hc2e⟩ : ∃ c2, c2 = cd1 * 256 := ⟨_, rfl⟩
          obtain ⟨c3, hc3e⟩ : ∃ c3, c3 = min (cd1 * 256 + b1) (wd1 * 256) := ⟨_, rfl⟩
          have hn := HNR.out
          rw [bl_cons hr1, nrm_step hwl, ← hb1, ← hc3e, ← hwd2] at hn
          have HNR2 : Hid (nrm wd2 c3 (bl (R1.extract 1 R1.size)) = N) := hn
          have f1 : IntKind.i64.wrap ((wd1 : Int) * 256) = (wd2 : Int) := by rw [IntKind.wrap_i64]; omega
          have f1b : (wd1 : Int) * 256 = (wd2 : Int) := by omega
          have f2 : IntKind.i64.wrap ((cd1 : Int) * 256) = (c2 : Int) := by rw [IntKind.wrap_i64]; omega
          have f2b : (cd1 : Int) * 256 = (c2 : Int) := by omega
          have f3 : IntKind.i64.wrap ((c2 : Int) + (b1 : Int)) = (c2 : Int) + (b1 : Int) := by rw [IntKind.wrap_i64]; omega
          have f4 : min ((c2 : Int) + (b1 : Int)) (wd2 : Int) = (c3 : Int) := by omega
          have f5 : IntKind.i64.wrap (b1 : Int) = (b1 : Int) := by rw [IntKind.wrap_i64]; omega
          have hw2b : wd2 < 4294967296 := by omega
          have hc3b : c3 < 4294967296 := by omega
          have z0 := frozen_of_row wr g 0 _ _ HE.out.row
          obtain ⟨W2, hW2⟩ : ∃ W2, W2 = wr.setCell ⟨g, 0, none⟩ (.int .i64 (wd2 : Int)) := ⟨_, rfl⟩
          have HE2 : Hid (DEC W2 g wd2 cd1 pr' R1 (C1.setIfInBounds 0 (.int .i64 (wd2 : Int)))) := by rw [hW2]; exact HE.out.setw wd2
          have HG2 : Hid (w.grownBy W2 (some g)) := by rw [hW2]; exact HG.out.trans (grownBy_setC _ g 0 _)
          have HB2 : Hid (W2.heap[w.heap.size]? = some (.cells #[.int .i64 (x : Int), .int .i64 1] 106 (0, 0))) := by rw [hW2]; exact (heap_setCell_other _ _ _ _ (by show w.heap.size ≠ g; have := HGL.out.1; omega)).trans HBX.out
          clear hn HNR HE HBX HG hwd2 hc2e hc3e hb1 hr0 hwl
          go_wp2_with fail
          rw [← hW2]
          clear hW2 x0 x514 z0
          have y0 : W2.cell? ⟨g, 0, none⟩ = some (.int .i64 (wd2 : Int)) := (cell_of_row W2 g 0 _ _ _ HE2.out.row).trans HE2.out.c0
          have y513 : W2.cell? ⟨g, 513, none⟩ = some (.int .i64 (cd1 : Int)) := (cell_of_row W2 g 513 _ _ _ HE2.out.row).trans HE2.out.cc
          have y514 : W2.cell? ⟨g, 514, none⟩ = some (.string R1) := (cell_of_row W2 g 514 _ _ _ HE2.out.row).trans HE2.out.cr
          have w513 := frozen_of_row W2 g 513 _ _ HE2.out.row
          go_region
          rw [show (if (wd2 : Int) < (c2 : Int) + (b1 : Int) then (wd2 : Int) else (c2 : Int) + (b1 : Int)) = (c3 : Int) from by split <;> omega]
          obtain ⟨W3, hW3⟩ : ∃ W3, W3 = (W2.setCell ⟨g, 513, none⟩ (.int .i64 (c3 : Int))).drew := ⟨_, rfl⟩
          have HE3 : Hid (DEC W3 g wd2 c3 pr' R1 ((C1.setIfInBounds 0 (.int .i64 (wd2 : Int))).setIfInBounds 513 (.int .i64 (c3 : Int)))) := by rw [hW3]; exact (HE2.out.setc c3).of_row rfl
          have HG3 : Hid (w.grownBy W3 (some g)) := by rw [hW3]; exact (HG2.out.trans (grownBy_setC _ g 513 _)).trans (grownBy_drewN _ 1 _)
          have HB3 : Hid (W3.heap[w.heap.size]? = some (.cells #[.int .i64 (x : Int), .int .i64 1] 106 (0, 0))) := by rw [hW3]; exact (heap_setCell_other _ _ _ _ (by show w.heap.size ≠ g; have := HGL.out.1; omega)).trans HB2.out
          rw [← hW3]
          clear hW3 HE2 HG2 HB2 y0 y513 y514 w513 f1 f1b f2 f2b f3 f4 f5 hte hb1I
          have v514 : W3.cell? ⟨g, 514, none⟩ = some (.string R1) := (cell_of_row W3 g 514 _ _ _ HE3.out.row).trans HE3.out.cr
          have q514 := frozen_of_row W3 g 514 _ _ HE3.out.row
          have HME : Hid (restAt g wr = R1.size) := HMW
          go_wp2_with fail
          go_roundw
          case rel => exact ⟨wd2, c3, R1.extract 1 R1.size, _, HE3.out.setr (R1.extract 1 R1.size), hw2b, hc3b, HNR2, (heap_setCell_other _ _ _ _ (by show w.heap.size ≠ g; have := HGL.out.1; omega)).trans HB3.out, HG3.out.trans (grownBy_setC _ g 514 _)⟩
          case measure =>
            rw [HME.out]
            have h2 := HE3.out.setr (R1.extract 1 R1.size)
            have h3 := restAt_eq ((cell_of_row _ g 514 _ _ _ h2.row).trans h2.cr)
            rw [h3, ByteArray.size_extract]
            omega
      · have hn := HNR.out
        rw [nrm_done (by omega)] at hn
        obtain ⟨rfl, rfl⟩ := HTY.out (by rw [← hn])
        obtain rfl := HBT.out
        have HFIN : Hid (DecAt wr g sg ∧ w.grownBy wr (some g)) := HGO.out wr R1 C1 (by rw [← hn]; exact HE.out) (by rw [← hn]) HG.out
        have hwlI : ¬ (wd1 : Int) < 16777216 := by omega
        have bx1 : wr.cell? ⟨w.heap.size, 1, none⟩ = some (.int .i64 1) := cell_of_row wr _ 1 _ _ _ HBX.out
        clear hn HGO HNR HE HBX HG HTN HTY
        go_wp2_with fail
        go_ret2
        exact ⟨rfl, HFIN.out⟩
end Go.Proofs.Ytibciflmalfbjaa
