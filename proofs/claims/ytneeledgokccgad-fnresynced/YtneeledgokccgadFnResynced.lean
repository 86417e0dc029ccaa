/-
  Behind each cut the chunks are those of what stands behind it.
-/
import Derived.Test.YtneeledgokccgadRows
import Derived.Test.YtneeledgokccgadChkS
import Derived.Test.YtneeledgokccgadSameT
import Derived.Test.YtneeledgokccgadChkB
import Derived.Test.YtneeledgokccgadDrwShp2
import Derived.BigQuiet
import Derived.WalkKit
import Derived.ProofKit
import Derived.OpenShut
import Derived.ShutString
import Derived.ChangeOld
import Derived.Below
namespace Go.Proofs.Ytneeledgokccgad.fnResynced
open Go.ChangeShapes Go.WideShapes Go.ChangeAt Go.RowKit
open Go.ChangeMaps (open_string shut_string)
set_option linter.unusedVariables false

theorem own : ownKnob Try.prog.godebug = none := by kernel_rfl
theorem laidOut : laidOutB Try.prog = true := by kernel_rfl

/-- WHAT THE WALK IS TOLD OF A SLICE OF INTEGERS THAT CAME IN: it is nil; or it leads to a row of 'cap' cells, the numbers 'zs' (the first 'len' are its elements, the rest its spare room), each fitting its kind. -/
def IsRow (k : IntKind) (w : World) (a : Option Addr) (len cap : Nat) (zs : List Int) : Prop :=
  (a = none ∧ len = 0 ∧ cap = 0 ∧ zs = []) ∨
  ∃ x, a = some x ∧ len ≤ cap ∧ cap ≤ maxLen ∧ zs.length = cap ∧ (∀ i, i < zs.length → w.cell? (x.add i) = some (.int k (zs.getD i 0))) ∧ ∀ n ∈ zs, (Lit.int k n).wf = true

set_option linter.unusedSimpArgs false
set_option linter.unusedVariables false
theorem bl_t {B C : Nat} {a b c : World} (h : Below B a b) (k : Below C b c) (hBC : B ≤ C) : Below B a c :=
  ⟨k.os.trans h.os, k.tape.trans h.tape, k.output.trans h.output, Nat.le_trans h.size k.size, fun i hi => (k.block i (Nat.lt_of_lt_of_le hi hBC)).trans (h.block i hi)⟩
theorem shpN {l b m : Int} (h : shpP l b m) : ∃ L B M : Nat, l = (L : Int) ∧ b = (B : Int) ∧ m = (M : Int) ∧ (1 ≤ L ∧ L ≤ 1000) ∧ (1 ≤ B ∧ B ≤ 12) ∧ (L ≤ M ∧ M ≤ 4000) := by
  obtain ⟨⟨h1, h2⟩, ⟨h3, h4⟩, h5, h6⟩ := h
  exact ⟨l.toNat, b.toNat, m.toNat, by omega, by omega, by omega, by omega, by omega, by omega⟩
def rowB (l b m : Int) : Obj := .cells #[.int .i64 l, .int .i64 b, .int .i64 m] 34 (0, 0)
structure StB (k : Nat) (l b m : Int) (w a : World) : Prop where
  row : a.heap[k]? = some (rowB l b m)
  below : Below w.heap.size w a
theorem StB.call {k : Nat} {l b m : Int} {w a c : World} (h : StB k l b m w a) (hb : Below a.heap.size a c) : StB k l b m w c := ⟨(hb.block _ (row_ltS h.row)).trans h.row, bl_t h.below hb h.below.size⟩
theorem StB.q0 {k : Nat} {l b m : Int} {w a : World} (h : StB k l b m w a) : a.cell? ⟨k, 0, none⟩ = some (.int .i64 l) := cell_of_row a k 0 _ _ _ h.row
theorem StB.q1 {k : Nat} {l b m : Int} {w a : World} (h : StB k l b m w a) : a.cell? ⟨k, 1, none⟩ = some (.int .i64 b) := cell_of_row a k 1 _ _ _ h.row
theorem StB.q2 {k : Nat} {l b m : Int} {w a : World} (h : StB k l b m w a) : a.cell? ⟨k, 2, none⟩ = some (.int .i64 m) := cell_of_row a k 2 _ _ _ h.row
theorem lt_of_cell {w : World} {g j : Nat} {v : Value} (h : w.cell? ⟨g, j, none⟩ = some v) : g < w.heap.size := block_lt_of_cell h

set_option maxRecDepth 100000 in
set_option maxHeartbeats 1000000 in
theorem walk (a0 : Option Addr) (len0 cap0 : Nat) (z0 : List Int) (w : World) (w0 : IsRow .u8 w a0 len0 cap0 z0) :
    Calls Try.prog 6 #[.slice a0 len0 cap0] w fun e w' => e = .returned (.bool true) ∧ Below w.heap.size w w' := by
  by_cases hbig : 1048576 < len0
  · go_enter Try.func6, Try.ntmps6
    go_wp2_with fail
    refine (big_yes a0 len0 cap0 _ hbig).mono ?_
    rintro e w1 ⟨rfl, rfl⟩
    go_wp2_with fail
    go_ret
    exact ⟨rfl, Below.refl _ _⟩
  · have hS := src_of w0 (by omega)
    clear w0
    go_enter Try.func6, Try.ntmps6
    go_wp2_with fail
    refine (big_no a0 len0 cap0 _ hbig).mono ?_
    rintro e w1 ⟨rfl, hw1⟩
    subst w1
    go_wp2_with fail
    refine (drawCuts hS (Below.refl _ _)).mono ?_
    rintro e w2 ⟨⟨s, l, b, m, hs, rfl⟩, hb2⟩
    clear hS hbig
    unfold shpV
    have HS2 : Hid (StB w2.heap.size l b m w (w2.alloc (.cells #[.int .i64 l, .int .i64 b, .int .i64 m] 34))) := ⟨heap_alloc_new _ _, hb2.alloc hb2.size _⟩
    have q0 := HS2.out.q0
    have q1 := HS2.out.q1
    have q2 := HS2.out.q2
    clear hb2
    go_wp2_with fail
    generalize w2.alloc (.cells #[.int .i64 l, .int .i64 b, .int .i64 m] 34) = W2 at HS2 ⊢
    generalize w2.heap.size = kb at HS2 ⊢
    clear q0 q1 q2
    have hss : s.size < 140737488351232 := by omega
    by_cases hp : shpP l b m ∧ s.size ≤ 4000
    · obtain ⟨L, B, M, rfl, rfl, rfl, h1, h2, h3⟩ := shpN hp.1
      have HA : Hid (∀ (s : ByteArray) w, s.size ≤ 4000 → Calls Try.prog 18 #[.string s, shpV L B M] w fun e w' => (∃ v, e = .returned (.tuple #[v, .bool true]) ∧ w'.ownsRow w.heap.size 9 1 v (cutL L B M 0 0 0 (lst s)).length (chkC (chkL s 0 (cutL L B M 0 0 0 (lst s))))) ∧ Below w.heap.size w w') := fun s w hs => chunks_any L B M s hs h1 h2 h3 w
      have HB : Hid (∀ w, Calls Try.prog 20 #[.string s, shpV L B M] w fun e w' => (∃ v, e = .returned (.tuple #[v, .bool true]) ∧ w'.ownsRow w.heap.size 2 1 v (cutL L B M 0 0 0 (lst s)).length (cutC (cutL L B M 0 0 0 (lst s)))) ∧ Below w.heap.size w w') := fun w => cuts_any L B M s hp.2 h1 h2 h3 w
      have HC : Hid (∀ w, Calls Try.prog 23 #[.string s, shpV L B M] w fun e w' => (∃ v, e = .returned (.tuple #[v, .bool true]) ∧ w'.ownsRow w.heap.size 2 1 v (cutL L B M 0 0 0 (lst s)).length (cutC (cutL L B M 0 0 0 (lst s)))) ∧ Below w.heap.size w w') := fun w => scuts_any L B M s hp.2 h1 h2 h3 w
      have HLN : Hid ((cutL L B M 0 0 0 (lst s)).length ≤ 4000) := by
        show _ ≤ _
        have := cutL_len (L := L) (B := B) (M := M) 0 0 0 (lst s)
        rw [lst_len] at this; omega
      have HRS : Hid (∀ k, (hk : k < (cutL L B M 0 0 0 (lst s)).length) → (cutL L B M 0 0 0 (lst s))[k] ≤ s.size ∧ (cutL L B M 0 0 0 (lst (s.extract (cutL L B M 0 0 0 (lst s))[k] s.size))).length = (cutL L B M 0 0 0 (lst s)).length - (k + 1) ∧
          chkL (s.extract (cutL L B M 0 0 0 (lst s))[k] s.size) 0 (cutL L B M 0 0 0 (lst (s.extract (cutL L B M 0 0 0 (lst s))[k] s.size))) = (chkL s 0 (cutL L B M 0 0 0 (lst s))).drop (k + 1)) := fun k hk => resync s k hk
      have H4 : Hid (s.size ≤ 4000) := hp.2
      have hA := HA.out s
      generalize htot : cutL L B M 0 0 0 (lst s) = tot at hA HB HC HLN HRS
      have HA0 : Hid _ := hA
      clear hA htot
      obtain ⟨n, hn⟩ : ∃ n, tot.length = n := ⟨_, rfl⟩
      have HNT : Hid (tot.length = n) := hn
      rw [hn] at HA0 HB HC HLN
      unfold shpV at HA HA0 HB HC
      clear hp hn
      refine (HA0.out _ H4.out).mono ?_
      rintro e w3 ⟨⟨v1, rfl, ho1⟩, hb3⟩
      have HS3 : Hid (StB kb L B M w w3) := HS2.out.call hb3
      have HO1 : Hid (w3.ownsRow w.heap.size 9 1 v1 n (chkC (chkL s 0 tot))) := owns_baseJ ho1 HS2.out.below.size
      clear ho1 hb3 HS2 HA0
      have q0 := HS3.out.q0
      have q1 := HS3.out.q1
      have q2 := HS3.out.q2
      go_wp2_with fail
      refine (HB.out _).mono ?_
      rintro e w4 ⟨⟨v2, rfl, ho2⟩, hb4⟩
      have HS4 : Hid (StB kb L B M w w4) := HS3.out.call hb4
      have HO2 : Hid (w4.ownsRow w.heap.size 9 1 v1 n (chkC (chkL s 0 tot)) ∧ w4.ownsRow w.heap.size 2 1 v2 n (cutC tot)) := ⟨owns_callJ HO1.out hb4, owns_baseJ ho2 HS3.out.below.size⟩
      clear ho2 hb4 HS3 HB HO1 q0 q1 q2
      have q0 := HS4.out.q0
      have q1 := HS4.out.q1
      have q2 := HS4.out.q2
      go_wp2_with fail
      refine (HC.out _).mono ?_
      rintro e w5 ⟨⟨v3, rfl, ho3⟩, hb5⟩
      have HS5 : Hid (StB kb L B M w w5) := HS4.out.call hb5
      have HO3 : Hid (w5.ownsRow w.heap.size 9 1 v1 n (chkC (chkL s 0 tot)) ∧ w5.ownsRow w.heap.size 2 1 v2 n (cutC tot) ∧ w5.ownsRow w.heap.size 2 1 v3 n (cutC tot)) := ⟨owns_callJ HO2.out.1 hb5, owns_callJ HO2.out.2 hb5, owns_baseJ ho3 HS4.out.below.size⟩
      clear ho3 hb5 HS4 HC HO2 q0 q1 q2
      by_cases hn0 : n = 0
      · subst hn0
        obtain ⟨a1, c1, rfl⟩ := own_zeroJ HO3.out.1
        obtain ⟨a2, c2, rfl⟩ := own_zeroJ HO3.out.2.1
        obtain ⟨a3, c3, rfl⟩ := own_zeroJ HO3.out.2.2
        clear HRS HO3 HA
        go_wp2_with fail
        refine (sameI_zero _ _ _ _ _).mono ?_
        rintro e w6 ⟨rfl, hb6⟩
        have HS6 : Hid (StB kb L B M w w6) := HS5.out.call hb6
        clear hb6
        go_wp2_with fail
        refine (sameI_zero _ _ _ _ _).mono ?_
        rintro e w7 ⟨rfl, hb7⟩
        have HS7 : Hid (StB kb L B M w w7) := HS6.out.call hb7
        clear hb7
        go_wp2_with fail
        go_ret
        exact ⟨rfl, HS7.out.below⟩
      · have hn1 : 0 < n := by omega
        obtain ⟨g1, c1, u1, rfl, _, r1, z1, x1⟩ := own_formJ HO3.out.1 hn1
        obtain ⟨g2, c2, u2, rfl, _, r2, _, x2⟩ := own_formJ HO3.out.2.1 hn1
        obtain ⟨g3, c3, u3, rfl, _, r3, _, x3⟩ := own_formJ HO3.out.2.2 hn1
        have HT : Hid (Calls Try.prog 24 #[.slice (some ⟨g2, 0, none⟩) n c2, .slice (some ⟨g3, 0, none⟩) n c3] w5 fun e w' => e = .returned (.bool true) ∧ Below w5.heap.size w5 w') :=
          sameI_any g2 g3 c2 c3 n tot w5 (by have := HLN.out; omega) HNT.out (fun j v hj => (cell_of_row w5 _ j _ _ _ r2).trans (x2 j v hj)) (fun j v hj => (cell_of_row w5 _ j _ _ _ r3).trans (x3 j v hj))
        obtain ⟨k, hk⟩ : ∃ k, k = len0 % n := ⟨_, rfl⟩
        have hkn : k < n := by rw [hk]; exact Nat.mod_lt _ hn1
        have hkt : k < tot.length := by have := HNT.out; omega
        have HX : Hid (∀ (w6 : World), Below w5.heap.size w5 w6 → w6.cell? ⟨g2, k, none⟩ = some (.int .i64 ((tot[k] : Nat) : Int)) ∧ ∀ j v, (chkC (chkL s 0 tot))[j]? = some v → w6.cell? ⟨g1, j, none⟩ = some v) := fun w6 hb => by
          refine ⟨(hb.cell (p := ⟨g2, k, none⟩) (row_ltS r2)).trans ((cell_of_row w5 _ k _ _ _ r2).trans (x2 k _ ?_)), fun j v hj => (hb.cell (p := ⟨g1, j, none⟩) (row_ltS r1)).trans ((cell_of_row w5 _ j _ _ _ r1).trans (x1 j v hj))⟩
          simp [cutC, hkt]
        have hcap : n ≤ c1 := own_cap HO3.out.1
        clear r1 r2 r3 x1 x2 x3 HO3 z1
        go_wp2_with fail
        refine HT.out.mono ?_
        rintro e w6 ⟨rfl, hb6⟩
        have HS6 : Hid (StB kb L B M w w6) := HS5.out.call hb6
        have HB6 : Hid (Below w5.heap.size w5 w6) := hb6
        clear hb6 HT HS5
        have hmod2 : (len0 : Int) % (n : Int) = (k : Int) := by rw [hk]; simp
        have hnz : ¬ ((n : Int) = 0) := by omega
        have hn4 := HLN.out
        clear hk
        obtain ⟨xk, xt⟩ := HX.out w6 HB6.out
        have q0 := HS6.out.q0
        have q1 := HS6.out.q1
        have q2 := HS6.out.q2
        obtain ⟨c4, c5, c6⟩ := HRS.out k hkt
        have HXT : Hid _ := xt
        generalize tot[k] = c at *
        have hcI : (c : Int) ≤ (s.size : Int) := by omega
        have HC5 : Hid ((cutL L B M 0 0 0 (lst (s.extract c s.size))).length = n - (k + 1) ∧ chkL (s.extract c s.size) 0 (cutL L B M 0 0 0 (lst (s.extract c s.size))) = (chkL s 0 tot).drop (k + 1)) := by rw [← HNT.out]; exact ⟨c5, c6⟩
        clear c5 c6 xt HX
        have HES : Hid ((s.extract c s.size).size ≤ 4000) := by show _ ≤ _; rw [ByteArray.size_extract]; have := H4.out; omega
        obtain ⟨S, hSS⟩ : ∃ S : World → Prop, S = fun w' => Below w6.heap.size w6 w' := ⟨_, rfl⟩
        have hSd : S w6.drew := by rw [hSS]; exact (Below.refl _ w6).drew
        have HS : Hid (S = fun w' => Below w6.heap.size w6 w') := hSS
        have HK2 : Hid (∀ w', S w' → w'.cell? ⟨g2, k, none⟩ = some (.int .i64 ((c : Nat) : Int))) := fun w' h => by rw [hSS] at h; exact (h.cell (p := ⟨g2, k, none⟩) (lt_of_cell xk)).trans xk
        have HQ : Hid (∀ w', S w' → StB kb L B M w w') := fun w' h => by rw [hSS] at h; exact HS6.out.call h
        clear hSS q0 q1 q2 xk
        go_wp2_with fail
        refine wp_region_held (S := S) (by kernel_rfl) ?_
        change wpAnyH _ _ _ _ _ _ _ _ (World.drew _)
        refine wpAnyH_take (i := 0) (v := .string s) rfl (by kernel_rfl) (by kernel_rfl) (by kernel_rfl) (fun _ _ _ h => h) (Or.inl ⟨by rfl, by intro w' hS'; go_simp <;> (first | omega | (rw [IntKind.wrap_i64]; omega) | (rw [IntKind.wrap_u64]; omega) | (rw [IntKind.wrap_u32]; omega) | (rw [Int.tmod_eq_emod_of_nonneg (by omega)]))⟩) hSd ?_
        (try simp only [List.getElem_toArray, List.getElem_cons_succ, List.getElem_cons_zero, Act.put, List.setIfInBounds_toArray, List.set_cons_zero, List.set_cons_succ])
        refine wpAnyH_take (i := 1) (v := .slice (some ⟨g2, 0, none⟩) n c2) rfl (by kernel_rfl) (by kernel_rfl) (by kernel_rfl) (fun _ _ _ h => h) (Or.inl ⟨by rfl, by intro w' hS'; go_simp <;> (first | omega | (rw [IntKind.wrap_i64]; omega) | (rw [IntKind.wrap_u64]; omega) | (rw [IntKind.wrap_u32]; omega) | (rw [Int.tmod_eq_emod_of_nonneg (by omega)]))⟩) hSd ?_
        (try simp only [List.getElem_toArray, List.getElem_cons_succ, List.getElem_cons_zero, Act.put, List.setIfInBounds_toArray, List.set_cons_zero, List.set_cons_succ])
        refine wpAnyH_take (i := 2) (v := .int .i64 (k : Int)) rfl (by kernel_rfl) (by kernel_rfl) (by kernel_rfl) (fun _ _ _ h => h) (Or.inl ⟨by rfl, by intro w' hS'; go_simp <;> (first | omega | (rw [IntKind.wrap_i64]; omega) | (rw [IntKind.wrap_u64]; omega) | (rw [IntKind.wrap_u32]; omega) | (rw [Int.tmod_eq_emod_of_nonneg (by omega)]))⟩) hSd ?_
        (try simp only [List.getElem_toArray, List.getElem_cons_succ, List.getElem_cons_zero, Act.put, List.setIfInBounds_toArray, List.set_cons_zero, List.set_cons_succ])
        refine wpAnyH_take (i := 3) (v := .pointer (some ⟨g2, k, none⟩)) rfl (by kernel_rfl) (by kernel_rfl) (by kernel_rfl) (fun _ _ _ h => h) (Or.inl ⟨by rfl, by intro w' hS'; go_simp <;> (first | omega | (rw [IntKind.wrap_i64]; omega) | (rw [IntKind.wrap_u64]; omega) | (rw [IntKind.wrap_u32]; omega) | (rw [Int.tmod_eq_emod_of_nonneg (by omega)]))⟩) hSd ?_
        (try simp only [List.getElem_toArray, List.getElem_cons_succ, List.getElem_cons_zero, Act.put, List.setIfInBounds_toArray, List.set_cons_zero, List.set_cons_succ])
        refine wpAnyH_take (i := 4) (v := .int .i64 (c : Int)) rfl (by kernel_rfl) (by kernel_rfl) (by kernel_rfl) (fun _ _ _ h => h) (Or.inl ⟨by rfl, by intro w' hS'; have hxx := HK2.out w' hS'; go_simp <;> (first | omega | (rw [IntKind.wrap_i64]; omega) | (rw [IntKind.wrap_u64]; omega) | (rw [IntKind.wrap_u32]; omega) | (rw [Int.tmod_eq_emod_of_nonneg (by omega)]))⟩) hSd ?_
        (try simp only [List.getElem_toArray, List.getElem_cons_succ, List.getElem_cons_zero, Act.put, List.setIfInBounds_toArray, List.set_cons_zero, List.set_cons_succ])
        refine wpAnyH_take (i := 5) (v := .string (s.extract c s.size)) rfl (by kernel_rfl) (by kernel_rfl) (by kernel_rfl) (fun _ _ _ h => h) (Or.inl ⟨by rfl, by intro w' hS'; go_simp <;> (first | omega | (rw [IntKind.wrap_i64]; omega) | (rw [IntKind.wrap_u64]; omega) | (rw [IntKind.wrap_u32]; omega) | (rw [Int.tmod_eq_emod_of_nonneg (by omega)]))⟩) hSd ?_
        (try simp only [List.getElem_toArray, List.getElem_cons_succ, List.getElem_cons_zero, Act.put, List.setIfInBounds_toArray, List.set_cons_zero, List.set_cons_succ])
        refine wpAnyH_take (i := 6) (v := .agg #[.int .i64 L, .int .i64 B, .int .i64 M]) rfl (by kernel_rfl) (by kernel_rfl) (by kernel_rfl) (fun _ _ _ h => h) (Or.inl ⟨by rfl, by intro w' hS'; have hq0 := (HQ.out w' hS').q0; have hq1 := (HQ.out w' hS').q1; have hq2 := (HQ.out w' hS').q2; go_simp <;> (first | omega | (rw [IntKind.wrap_i64]; omega) | (rw [IntKind.wrap_u64]; omega) | (rw [IntKind.wrap_u32]; omega) | (rw [Int.tmod_eq_emod_of_nonneg (by omega)]))⟩) hSd ?_
        (try simp only [List.getElem_toArray, List.getElem_cons_succ, List.getElem_cons_zero, Act.put, List.setIfInBounds_toArray, List.set_cons_zero, List.set_cons_succ])
        refine held_stepS (i := 7) (by kernel_rfl) rfl (by rfl) ?_
        go_simp
        refine (HA.out (s.extract c s.size) _ HES.out).mono ?_
        rintro e w7 ⟨⟨v4, rfl, ho4⟩, hb7⟩
        have hb8 : Below w6.heap.size w6 w7 := ((Below.refl _ w6).drew).trans hb7
        have hS7 : S w7 := by rw [HS.out]; exact hb8
        rw [HC5.out.1, HC5.out.2] at ho4
        refine ⟨hS7, ?_⟩
        (try simp only [List.getElem_toArray, List.getElem_cons_succ, List.getElem_cons_zero, Act.put, List.setIfInBounds_toArray, List.set_cons_zero, List.set_cons_succ])
        refine wpAnyH_take (i := 8) (v := .tuple #[v4, .bool true]) rfl (by kernel_rfl) (by kernel_rfl) (by kernel_rfl) (fun _ _ _ h => h) (Or.inl ⟨by rfl, by intro w' hS'; go_simp <;> (first | omega | (rw [IntKind.wrap_i64]; omega) | (rw [IntKind.wrap_u64]; omega) | (rw [IntKind.wrap_u32]; omega) | (rw [Int.tmod_eq_emod_of_nonneg (by omega)]))⟩) hS7 ?_
        (try simp only [List.getElem_toArray, List.getElem_cons_succ, List.getElem_cons_zero, Act.put, List.setIfInBounds_toArray, List.set_cons_zero, List.set_cons_succ])
        refine wpAnyH_take (i := 9) (v := v4) rfl (by kernel_rfl) (by kernel_rfl) (by kernel_rfl) (fun _ _ _ h => h) (Or.inl ⟨by rfl, by intro w' hS'; go_simp <;> (first | omega | (rw [IntKind.wrap_i64]; omega) | (rw [IntKind.wrap_u64]; omega) | (rw [IntKind.wrap_u32]; omega) | (rw [Int.tmod_eq_emod_of_nonneg (by omega)]))⟩) hS7 ?_
        (try simp only [List.getElem_toArray, List.getElem_cons_succ, List.getElem_cons_zero, Act.put, List.setIfInBounds_toArray, List.set_cons_zero, List.set_cons_succ])
        refine wpAnyH_take (i := 10) (v := .bool true) rfl (by kernel_rfl) (by kernel_rfl) (by kernel_rfl) (fun _ _ _ h => h) (Or.inl ⟨by rfl, by intro w' hS'; go_simp <;> (first | omega | (rw [IntKind.wrap_i64]; omega) | (rw [IntKind.wrap_u64]; omega) | (rw [IntKind.wrap_u32]; omega) | (rw [Int.tmod_eq_emod_of_nonneg (by omega)]))⟩) hS7 ?_
        (try simp only [List.getElem_toArray, List.getElem_cons_succ, List.getElem_cons_zero, Act.put, List.setIfInBounds_toArray, List.set_cons_zero, List.set_cons_succ])
        refine wpAnyH_take (i := 11) (v := v4) rfl (by kernel_rfl) (by kernel_rfl) (by kernel_rfl) (fun _ _ _ h => h) (Or.inl ⟨by rfl, by intro w' hS'; go_simp <;> (first | omega | (rw [IntKind.wrap_i64]; omega) | (rw [IntKind.wrap_u64]; omega) | (rw [IntKind.wrap_u32]; omega) | (rw [Int.tmod_eq_emod_of_nonneg (by omega)]))⟩) hS7 ?_
        (try simp only [List.getElem_toArray, List.getElem_cons_succ, List.getElem_cons_zero, Act.put, List.setIfInBounds_toArray, List.set_cons_zero, List.set_cons_succ])
        refine wpAnyH_take (i := 12) (v := .bool true) rfl (by kernel_rfl) (by kernel_rfl) (by kernel_rfl) (fun _ _ _ h => h) (Or.inl ⟨by rfl, by intro w' hS'; go_simp <;> (first | omega | (rw [IntKind.wrap_i64]; omega) | (rw [IntKind.wrap_u64]; omega) | (rw [IntKind.wrap_u32]; omega) | (rw [Int.tmod_eq_emod_of_nonneg (by omega)]))⟩) hS7 ?_
        (try simp only [List.getElem_toArray, List.getElem_cons_succ, List.getElem_cons_zero, Act.put, List.setIfInBounds_toArray, List.set_cons_zero, List.set_cons_succ])
        refine wpAnyH_done (by kernel_rfl) ?_ _
        have HS7 : Hid (StB kb L B M w w7) := HS6.out.call hb8
        have HXT7 : Hid (∀ j v, (chkC (chkL s 0 tot))[j]? = some v → w7.cell? ⟨g1, j, none⟩ = some v) := fun j v hj => (hb8.cell (p := ⟨g1, j, none⟩) (lt_of_cell (HXT.out j v hj))).trans (HXT.out j v hj)
        have hcap2 : (n : Int) ≤ (c1 : Int) := by omega
        by_cases hkl : n - (k + 1) = 0
        · rw [hkl] at ho4
          obtain ⟨a4, d4, rfl⟩ := own_zeroJ ho4
          have hk1 : (k : Int) + 1 = (n : Int) := by omega
          have hk2 : k + 1 = n := by omega
          have hkn2 : n - (k + 1) = 0 := hkl
          clear ho4 hb8 hb7 hS7 hSd hkl hkn2 hk2
          go_wp2_with fail
          all_goals refine (sameT_zero _ _ _ _ _).mono ?_
          all_goals (rintro e w8 ⟨rfl, hb9⟩; have HS8 : Hid (StB kb L B M w w8) := HS7.out.call hb9; clear hb9; go_wp2_with fail; go_ret; exact ⟨rfl, HS8.out.below⟩)
        · obtain ⟨g4, d4, u4, rfl, _, r4, _, x4⟩ := own_formJ ho4 (by omega)
          have HT : Hid (Calls Try.prog 21 #[.slice (some ⟨g4, 0, none⟩) (n - (k + 1)) d4, .slice (some ⟨g1, k + 1, none⟩) (n - (k + 1)) (c1 - (k + 1))] w7 fun e w' => e = .returned (.bool true) ∧ Below w7.heap.size w7 w') :=
            sameT_any g4 g1 (k + 1) d4 (c1 - (k + 1)) (n - (k + 1)) ((chkL s 0 tot).drop (k + 1)) w7 (by omega) (by omega) (by rw [List.length_drop, chkL_len, HNT.out]) (fun j v hj => (cell_of_row w7 _ j _ _ _ r4).trans (x4 j v hj)) (fun j v hj => HXT7.out (k + 1 + j) v (by unfold chkC at hj ⊢; rw [List.map_drop, List.getElem?_drop] at hj; exact hj))
          have hk1 : (k : Int) + 1 < (n : Int) := by omega
          clear hb8 hb7 hS7 hSd hkl
          go_wp2_with fail
          refine HT.out.mono ?_
          rintro e w8 ⟨rfl, hb9⟩
          have HS8 : Hid (StB kb L B M w w8) := HS7.out.call hb9
          clear hb9
          go_wp2_with fail
          go_ret
          exact ⟨rfl, HS8.out.below⟩
    · have q0 := HS2.out.q0
      have q1 := HS2.out.q1
      have q2 := HS2.out.q2
      have HA : Hid (∀ w, Calls Try.prog 18 #[.string s, shpV l b m] w fun e w' => e = .returned (.tuple #[.slice none 0 0, .bool false]) ∧ Below w.heap.size w w') := fun w => chunks_no l b m s hss hp w
      have HB : Hid (∀ w, Calls Try.prog 20 #[.string s, shpV l b m] w fun e w' => e = .returned (.tuple #[.slice none 0 0, .bool false]) ∧ Below w.heap.size w w') := fun w => cuts_no l b m s hss hp w
      have HC : Hid (∀ w, Calls Try.prog 23 #[.string s, shpV l b m] w fun e w' => e = .returned (.tuple #[.slice none 0 0, .bool false]) ∧ Below w.heap.size w w') := fun w => scuts_no l b m s hss hp w
      unfold shpV at HA HB HC
      clear hp
      refine (HA.out _).mono ?_
      rintro e w3 ⟨rfl, hb3⟩
      have HS3 : Hid (StB kb l b m w w3) := HS2.out.call hb3
      clear hb3 HS2 q0 q1 q2
      have q0 := HS3.out.q0
      have q1 := HS3.out.q1
      have q2 := HS3.out.q2
      go_wp2_with fail
      refine (HB.out _).mono ?_
      rintro e w4 ⟨rfl, hb4⟩
      have HS4 : Hid (StB kb l b m w w4) := HS3.out.call hb4
      clear hb4 HS3 q0 q1 q2
      have q0 := HS4.out.q0
      have q1 := HS4.out.q1
      have q2 := HS4.out.q2
      go_wp2_with fail
      refine (HC.out _).mono ?_
      rintro e w5 ⟨rfl, hb5⟩
      have HS5 : Hid (StB kb l b m w w5) := HS4.out.call hb5
      clear hb5 HS4 q0 q1 q2
      go_wp2_with fail
      refine (sameI_zero _ _ _ _ _).mono ?_
      rintro e w6 ⟨rfl, hb6⟩
      have HS6 : Hid (StB kb l b m w w6) := HS5.out.call hb6
      clear hb6
      go_wp2_with fail
      refine (sameI_zero _ _ _ _ _).mono ?_
      rintro e w7 ⟨rfl, hb7⟩
      have HS7 : Hid (StB kb l b m w w7) := HS6.out.call hb7
      clear hb7
      go_wp2_with fail
      go_ret
      exact ⟨rfl, HS7.out.below⟩

set_option maxRecDepth 100000 in
theorem lifted (os : Os) (started : os.Started) (H : Type) (enc : TypeId × Value → H) :
    ReturnsInHanded {} Try.checked os 6 .any (Rows.fnResyncedSpec.pre6 enc Try.prog Try.f6 Rows.fnResyncedRow.domain false) (Rows.fnResyncedSpec.post enc Try.prog Try.f6 false true false false) := by
  refine returnsInHanded_of_change (C := Try.checked) own started (by kernel_rfl) Try.func6
    (ChangeSpec.witness6 (enc := enc) (C := Try.checked) false ⟨#[], #[.slice none 0 0], []⟩ 8 (by kernel_rfl) (by kernel_rfl) (by kernel_rfl) (by kernel_rfl)) ?_
  intro W base args ds gs before hval0 hW hcnd _
  have hval : ∀ (j : Nat) t v, Try.f6.params[j]? = some t → args[j]? = some v → Value.okWide Try.prog W .any base t v := hval0
  have hW' := hW
  obtain ⟨p, q, hA0, hV, rfl, hfz, hnd⟩ := hW
  have hA : DataW.TrodAll enc Try.prog W 0 (fun _ => true) true Try.f6.params.toList args.toList ds p := hA0
  rw [Try.params6] at hA hval
  obtain ⟨v0, vs0, d0, ds0, p0, q0, hargs, rfl, rfl, h0, r0⟩ := trodAll_cons hA
  obtain ⟨rfl, rfl, rfl⟩ := trodAll_nil r0
  obtain rfl : args = #[v0] := by cases args; simp_all
  obtain ⟨rfl, rfl⟩ := trodVars_none hV
  obtain ⟨a0, len0, cap0, rfl⟩ := okWide_slice Try.underlying22 (hval 0 22 v0 rfl rfl)
  have k0 := h0
  have lt0 : ∀ x ∈ p0, x.block < W.heap.size := by obtain ⟨m, hm⟩ := k0; exact DataW.trod_lt m _ _ _ hm
  obtain ⟨z0, w0⟩ : ∃ zs, IsRow .u8 W a0 len0 cap0 zs := by
    obtain ⟨fuel, hf⟩ := h0
    rcases open_ints Try.underlying22 Try.underlying5 (by kernel_rfl) hf with ⟨hcs, _⟩ | ⟨x, l, c, zs, hcs, _, hl, hm, hz, _, hcell, hwz⟩
    · simp [Value.cells] at hcs
      obtain ⟨rfl, rfl, rfl⟩ := hcs
      exact ⟨[], .inl ⟨rfl, rfl, rfl, rfl⟩⟩
    · simp [Value.cells] at hcs
      obtain ⟨rfl, rfl, rfl⟩ := hcs
      exact ⟨zs, .inr ⟨_, rfl, hl, hm, by simpa using hz, hcell, hwz⟩⟩
  clear hA0 hval0
  refine (walk a0 len0 cap0 z0 W w0).mono fun e W' ⟨he, bel⟩ => ?_
  subst he
  exact ⟨_, rfl, _, _, _, [], _, [], hW', trodAll_mk1 (shut_bool Try.underlying4 _), (trodAll_cons_mk (Below.trod laidOut (by kernel_rfl) (of_decide_eq_true (by kernel_rfl)) k0 bel lt0) trodAll_mk0), rfl, bel.frame _, fun h => by cases h⟩

theorem over : Rows.fnResyncedRow.holds Try.pinned (OpenSpec.ofChange Rows.fnResyncedSpec) :=
  OpenClaim.holds_of_wide 6 Try.f6 rfl rfl rfl rfl rfl rfl rfl ⟨rfl, rfl, rfl, rfl, rfl⟩ rfl rfl rfl rfl rfl (by kernel_rfl) Try.func6 (by kernel_rfl)
    (of_decide_eq_true (by kernel_rfl)) (by unfold Func.isWrapper; first | (rw [if_pos (by decide +kernel)]; kernel_rfl) | (rw [if_neg (by decide +kernel)]; exact ⟨rfl, rfl⟩))
    (fun os started H enc _ => lifted os started H enc)

theorem proved : Rows.FnResyncedSaid := over
#print axioms proved
end Go.Proofs.Ytneeledgokccgad.fnResynced
