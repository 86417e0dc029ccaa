/-
  Several texts of this seat as one: RngA, RngP, RngE.
-/
import Derived.Test.YtbkjcngehhdchaaPk04
import Derived.Maps.AppendAt
import Derived.Laws.Tables
import Derived.Deep.WholeRow

/-!   The coder of ranges: what is carried. -/
namespace Go.Proofs.Ytbkjcngehhdchaa
open Go.RowKit
set_option linter.unusedVariables false
set_option linter.unusedSimpArgs false
def byC (l : List Nat) : List Value := l.map fun (b : Nat) => Value.int .u8 (b : Int)
theorem byC_len (l : List Nat) : (byC l).length = l.length := by simp [byC]
theorem i64_and32 (n : Int) (h : 0 ≤ n) : bits .and .i64 n 4294967295 = n % 4294967296 := by
  have h32 : (BitVec.ofInt 64 4294967295).toNat = 2 ^ 32 - 1 := by decide
  have key : (BitVec.ofInt 64 n &&& BitVec.ofInt 64 4294967295).toNat = (n % ((2 ^ 64 : Nat) : Int)).toNat % 2 ^ 32 := by
    rw [BitVec.toNat_and, BitVec.toNat_ofInt, h32, Nat.and_two_pow_sub_one_eq_mod]
  show IntKind.i64.wrap ((BitVec.ofInt 64 n &&& BitVec.ofInt 64 4294967295).toNat : Nat) = n % 4294967296
  rw [key, IntKind.wrap_i64]
  omega
/-- a coder that writes, at block g: its bytes in a row of their own -/
structure EA (w : World) (B g : Nat) (wd lo : Nat) (pr : Nat → Nat) (out : List Nat) (C : Array Value) (v : Value) : Prop where
  row : w.heap[g]? = some (.cells C 126 (0, 0))
  sz : C.size = 515
  c0 : C[0]? = some (.int .i64 (wd : Int))
  cp : ∀ j, j < 512 → C[1 + j]? = some (.int .i64 (pr j : Int))
  cl : C[513]? = some (.int .i64 (lo : Int))
  cs : C[514]? = some v
  own : w.ownsRow B 5 1 v out.length (byC out)
  gB : B ≤ g
theorem owns_set {w : World} {B n gr cap j : Nat} {e : TypeId} {xs : List Value} (h : w.ownsRow B e 1 (.slice (some ⟨gr, 0, none⟩) n cap) n xs) (hj : j < n) (x : Value) :
    (w.setCell ⟨gr, j, none⟩ x).ownsRow B e 1 (.slice (some ⟨gr, 0, none⟩) n cap) n (xs.set j x) := by
  obtain ⟨h0, ⟨h1, _⟩ | ⟨g, c, cur, h1, h2, h3, h4, h5, h6, h7⟩⟩ := h
  · cases h1
  · cases h1
    refine ⟨by simpa using h0, Or.inr ⟨gr, cap, cur.setIfInBounds j x, rfl, h2, heap_setCell_same _ _ _ _ _ _ h3, h4, h5, by simpa using h6, ?_⟩⟩
    rw [← h7, Array.toList_setIfInBounds, List.take_set]
theorem row_apartE {w : World} {B n g0 : Nat} {e t : TypeId} {z : Nat} {v : Value} {xs : List Value} {cs : Array Value} {m : Nat × Nat} (hte : t ≠ e) (h : w.ownsRow B e z v n xs) (hb : w.heap[g0]? = some (.cells cs t m)) : some g0 ≠ v.ownBlock := by
  obtain ⟨hl, ⟨h0, hn⟩ | ⟨g, cap, cur, h1, h2, h3, _⟩⟩ := h
  · subst h0; intro c; cases c
  · subst h1
    intro c
    have c : g0 = g := Option.some.inj c
    subst c
    rw [h3] at hb
    cases hb
    exact hte rfl
set_option maxRecDepth 100000 in
set_option maxHeartbeats 1000000 in
theorem add_small {w : World} {B g wd lo bd : Nat} {pr : Nat → Nat} {out : List Nat} {C : Array Value} {v : Value} (h : EA w B g wd lo pr out C v) (hl : lo + bd < 4294967296) :
    Calls Try.prog 98 #[.pointer (some ⟨g, 0, none⟩), .int .i64 (bd : Int)] w fun e w' => (∃ v, e = .returned v) ∧ w' = w.setCell ⟨g, 513, none⟩ (.int .i64 ((lo + bd : Nat) : Int)) := by
  have c513 : w.cell? ⟨g, 513, none⟩ = some (.int .i64 (lo : Int)) := (cell_of_row w g 513 _ _ _ h.row).trans h.cl
  have z513 := frozen_of_row w g 513 _ _ h.row
  have hw : IntKind.i64.wrap ((lo : Int) + (bd : Int)) = ((lo + bd : Nat) : Int) := by rw [IntKind.wrap_i64]; omega
  obtain ⟨m, hm⟩ : ∃ m, m = lo + bd := ⟨_, rfl⟩
  have hmI : (lo : Int) + (bd : Int) = (m : Int) := by omega
  have hd : (m : Int) / 4294967296 = 0 := by omega
  have hm2 : m < 4294967296 := by omega
  rw [← hm] at hw ⊢
  clear h hm hl
  go_enter Try.func98, Try.ntmps98
  go_wp2_with fail
  exact bodyPost_ret (results_none rfl _ _ _) rfl ⟨⟨_, rfl⟩, rfl⟩
def natOfI : Value → Nat
  | .int _ i => i.toNat
  | _ => 0
theorem owns_cell {w : World} {B n gr cap j : Nat} {e : TypeId} {xs : List Value} {u : Value} (h : w.ownsRow B e 1 (.slice (some ⟨gr, 0, none⟩) n cap) n xs) (hj : xs[j]? = some u) : w.cell? ⟨gr, j, none⟩ = some u ∧ w.frozen? ⟨gr, j, none⟩ = false := by
  obtain ⟨h0, ⟨h1, _⟩ | ⟨g, c, cur, h1, h2, h3, h4, h5, h6, h7⟩⟩ := h
  · cases h1
  · cases h1
    refine ⟨(cell_of_row w gr j _ _ _ h3).trans ?_, frozen_of_row w gr j _ _ h3⟩
    rw [← h7, List.getElem?_take] at hj
    split at hj
    · simpa using hj
    · cases hj
theorem owns_at {w : World} {B n : Nat} {e : TypeId} {v : Value} {xs : List Value} (h : w.ownsRow B e 1 v n xs) (h0 : 0 < n) : ∃ gr cap, v = .slice (some ⟨gr, 0, none⟩) n cap ∧ B ≤ gr := by
  obtain ⟨_, ⟨_, h1⟩ | ⟨g, c, cur, h1, h2, _⟩⟩ := h
  · omega
  · exact ⟨g, c, h1, h2⟩
theorem byC_set (l : List Nat) (j y : Nat) : (byC l).set j (.int .u8 (y : Int)) = byC (l.set j y) := by simp [byC, List.map_set]
theorem set_mid (a b : List Nat) (x y : Nat) : (a ++ x :: b).set a.length y = a ++ y :: b := by simp [List.set_append]
theorem at_mid (a b : List Nat) (x : Nat) : (byC (a ++ x :: b))[a.length]? = some (.int .u8 (x : Int)) := by simp [byC]
theorem mid_form (pre R : List Nat) (h k : Nat) : pre ++ h :: (List.replicate (k + 1) 255 ++ R) = (pre ++ h :: List.replicate k 255) ++ 255 :: R := by
  rw [List.replicate_succ']; simp
set_option maxRecDepth 100000 in
set_option maxHeartbeats 2000000 in
theorem add_carry {w : World} {B g wd lo bd h m : Nat} {pr : Nat → Nat} {pre : List Nat} {C : Array Value} {v : Value} (hE : EA w B g wd lo pr (pre ++ h :: List.replicate m 255) C v) (hh : h < 255) (hN : pre.length + 1 + m ≤ 1000000) (h1 : lo < 4294967296) (h2 : bd < 4294967296) (hl : 4294967296 ≤ lo + bd) :
    Calls Try.prog 98 #[.pointer (some ⟨g, 0, none⟩), .int .i64 (bd : Int)] w fun e w' => ((∃ v, e = .returned v) ∧ ∃ C', EA w' B g wd (lo + bd - 4294967296) pr (pre ++ (h + 1) :: List.replicate m 0) C' v) ∧ Below B w w' ∧ w'.heap.size = w.heap.size ∧ ∀ k, k ≠ g → some k ≠ v.ownBlock → w'.heap[k]? = w.heap[k]? := by
  have c513 : w.cell? ⟨g, 513, none⟩ = some (.int .i64 (lo : Int)) := (cell_of_row w g 513 _ _ _ hE.row).trans hE.cl
  have z513 := frozen_of_row w g 513 _ _ hE.row
  obtain ⟨s, hs⟩ : ∃ s, s = lo + bd := ⟨_, rfl⟩
  obtain ⟨d, hd⟩ : ∃ d, d = lo + bd - 4294967296 := ⟨_, rfl⟩
  have hw : IntKind.i64.wrap ((lo : Int) + (bd : Int)) = (s : Int) := by rw [IntKind.wrap_i64]; omega
  have hsI : (lo : Int) + (bd : Int) = (s : Int) := by omega
  have hq : (s : Int) / 4294967296 = 1 := by omega
  have hand : bits .and .i64 (s : Int) 4294967295 = (d : Int) := by rw [i64_and32 _ (by omega)]; omega
  have hs2 : s < 8589934592 := by omega
  have hd2 : d < 4294967296 := by omega
  rw [← hd]
  obtain ⟨N, hNN⟩ : ∃ N, N = (pre ++ h :: List.replicate m 255).length := ⟨_, rfl⟩
  have hN2 : N = pre.length + 1 + m := by rw [hNN]; simp; omega
  have hown0 := hE.own
  rw [← hNN] at hown0
  obtain ⟨gr, cap, rfl, hgB⟩ := owns_at hown0 (by omega)
  have hgg : gr ≠ g := fun e => row_apartE (by decide) hown0 hE.row (by rw [e]; rfl)
  obtain ⟨W2, hW2⟩ : ∃ W2, W2 = (w.setCell ⟨g, 513, none⟩ (.int .i64 (s : Int))).setCell ⟨g, 513, none⟩ (.int .i64 (d : Int)) := ⟨_, rfl⟩
  have hrow2 : W2.heap[g]? = some (.cells ((C.setIfInBounds 513 (.int .i64 (s : Int))).setIfInBounds 513 (.int .i64 (d : Int))) 126 (0, 0)) := by rw [hW2]; exact heap_setCell_same _ _ _ _ _ _ (heap_setCell_same _ _ _ _ _ _ hE.row)
  have hown2 : W2.ownsRow B 5 1 (.slice (some ⟨gr, 0, none⟩) N cap) N (byC (pre ++ h :: List.replicate m 255)) := by
    rw [hW2]
    exact (hown0.kept (grownBy_setC _ g 513 _) (Or.inr (fun e => hgg (Option.some.inj e)))).kept (grownBy_setC _ g 513 _) (Or.inr (fun e => hgg (Option.some.inj e)))
  have hb2 : Below B w W2 := by rw [hW2]; exact ((Below.refl B w).setCell (p := ⟨g, 513, none⟩) hE.gB _).setCell (p := ⟨g, 513, none⟩) hE.gB _
  have hsz2 : W2.heap.size = w.heap.size ∧ ∀ k, k ≠ g → some k ≠ (Value.slice (some ⟨gr, 0, none⟩) N cap).ownBlock → W2.heap[k]? = w.heap[k]? := ⟨by rw [hW2]; simp, fun k hk _ => by rw [hW2]; exact (heap_setCell_other _ _ _ _ hk).trans (heap_setCell_other _ _ _ _ hk)⟩
  have hC514 : ((C.setIfInBounds 513 (.int .i64 (s : Int))).setIfInBounds 513 (.int .i64 (d : Int)))[514]? = some (.slice (some ⟨gr, 0, none⟩) N cap) := by
    rw [Array.getElem?_setIfInBounds_ne (by omega), Array.getElem?_setIfInBounds_ne (by omega)]; exact hE.cs
  have HE : Hid (EA w B g wd lo pr (pre ++ h :: List.replicate m 255) C (.slice (some ⟨gr, 0, none⟩) N cap)) := hE
  have c514 : W2.cell? ⟨g, 514, none⟩ = some (.slice (some ⟨gr, 0, none⟩) N cap) := (cell_of_row W2 g 514 _ _ _ hrow2).trans hC514
  have HC514 : Hid _ := hC514
  have HR : Hid (W2.heap[g]? = some (.cells ((C.setIfInBounds 513 (.int .i64 (s : Int))).setIfInBounds 513 (.int .i64 (d : Int))) 126 (0, 0)) ∧ W2.ownsRow B 5 1 (.slice (some ⟨gr, 0, none⟩) N cap) N (byC (pre ++ h :: List.replicate m 255)) ∧ Below B w W2 ∧ W2.heap.size = w.heap.size ∧ (∀ k, k ≠ g → some k ≠ (Value.slice (some ⟨gr, 0, none⟩) N cap).ownBlock → W2.heap[k]? = w.heap[k]?)) := ⟨hrow2, hown2, hb2, hsz2⟩
  have hN6 : N ≤ 1000000 := by omega
  have HGG : Hid (gr ≠ g ∧ B ≤ gr) := ⟨hgg, hgB⟩
  have HN2 : Hid (N = pre.length + 1 + m) := hN2
  have HD : Hid (d = lo + bd - 4294967296) := hd
  rw [hW2] at c514
  have HW2 : Hid _ := hW2
  clear hE hs hd hown0 hgg hgB hrow2 hown2 hb2 hsz2 hC514 hNN hW2 hN h1 h2 hl hN2
  go_enter Try.func98, Try.ntmps98
  go_wp2_with fail
  rw [← HW2.out]
  clear c514 c513 z513
  have HFE : Hid (∀ (w' : World) (out : List Nat), w'.heap[g]? = some (.cells ((C.setIfInBounds 513 (.int .i64 (s : Int))).setIfInBounds 513 (.int .i64 (d : Int))) 126 (0, 0)) → w'.ownsRow B 5 1 (.slice (some ⟨gr, 0, none⟩) N cap) out.length (byC out) → EA w' B g wd d pr out ((C.setIfInBounds 513 (.int .i64 (s : Int))).setIfInBounds 513 (.int .i64 (d : Int))) (.slice (some ⟨gr, 0, none⟩) N cap)) := fun w' out hr ho => by
    have h0 := HE.out
    exact ⟨hr, by simp [h0.sz], by rw [Array.getElem?_setIfInBounds_ne (by omega), Array.getElem?_setIfInBounds_ne (by omega)]; exact h0.c0,
      fun j hj => by rw [Array.getElem?_setIfInBounds_ne (by omega), Array.getElem?_setIfInBounds_ne (by omega)]; exact h0.cp j hj,
      by rw [Array.getElem?_setIfInBounds_self_of_lt (by simp [h0.sz])], HC514.out, ho, h0.gB⟩
  generalize (C.setIfInBounds 513 (.int .i64 (s : Int))).setIfInBounds 513 (.int .i64 (d : Int)) = C1 at HC514 HR HFE
  go_loopw [4] (fun t wr => ∃ i : Nat, i ≤ m ∧ t = .int .i64 ((N : Int) - 1 - (i : Int)) ∧ Hid (wr.heap[g]? = some (.cells C1 126 (0, 0)) ∧ wr.ownsRow B 5 1 (.slice (some ⟨gr, 0, none⟩) N cap) N (byC (pre ++ h :: (List.replicate (m - i) 255 ++ List.replicate i 0))) ∧ Below B w wr ∧ wr.heap.size = w.heap.size ∧ (∀ k, k ≠ g → some k ≠ (Value.slice (some ⟨gr, 0, none⟩) N cap).ownBlock → wr.heap[k]? = w.heap[k]?))) (fun t _ => natOfI t)
  case atStart => exact ⟨0, by omega, by first | rfl | simp, HR.out.1, by simpa using HR.out.2.1, HR.out.2.2⟩
  case round =>
    obtain ⟨i, hi, rfl, HS⟩ := hrel
    have hN2 := HN2.out
    have c514 : wr.cell? ⟨g, 514, none⟩ = some (.slice (some ⟨gr, 0, none⟩) N cap) := (cell_of_row wr g 514 _ _ _ HS.out.1).trans HC514.out
    by_cases hlt : i < m
    · obtain ⟨k, hk⟩ : ∃ k, m - i = k + 1 := ⟨m - i - 1, by omega⟩
      obtain ⟨j, hj⟩ : ∃ j, j = pre.length + 1 + k := ⟨_, rfl⟩
      have hjN : j < N := by omega
      have hix : (N : Int) - 1 - (i : Int) = (j : Int) := by omega
      have hown := HS.out.2.1
      rw [hk, mid_form] at hown
      have hlen : (pre ++ h :: List.replicate k 255).length = j := by simp; omega
      have hcell := owns_cell (j := j) hown (by rw [← hlen]; exact at_mid _ _ _)
      have x0 := hcell.1
      have z0 := hcell.2
      have HN : Hid ((wr.setCell ⟨gr, j, none⟩ (.int .u8 0)).heap[g]? = some (.cells C1 126 (0, 0)) ∧ (wr.setCell ⟨gr, j, none⟩ (.int .u8 0)).ownsRow B 5 1 (.slice (some ⟨gr, 0, none⟩) N cap) N (byC (pre ++ h :: (List.replicate (m - (i + 1)) 255 ++ List.replicate (i + 1) 0))) ∧ Below B w (wr.setCell ⟨gr, j, none⟩ (.int .u8 0)) ∧ (wr.setCell ⟨gr, j, none⟩ (.int .u8 0)).heap.size = w.heap.size ∧ (∀ k, k ≠ g → some k ≠ (Value.slice (some ⟨gr, 0, none⟩) N cap).ownBlock → (wr.setCell ⟨gr, j, none⟩ (.int .u8 0)).heap[k]? = w.heap[k]?)) := by
        refine ⟨(heap_setCell_other _ _ _ _ (fun e => HGG.out.1 e.symm)).trans HS.out.1, ?_, HS.out.2.2.1.setCell (p := ⟨gr, j, none⟩) HGG.out.2 _, by simpa using HS.out.2.2.2.1, fun k hk hne => (heap_setCell_other _ _ _ _ (by intro e; apply hne; rw [e]; rfl)).trans (HS.out.2.2.2.2 k hk hne)⟩
        have h3 := owns_set hown hjN (.int .u8 ((0 : Nat) : Int))
        rw [byC_set, ← hlen, set_mid] at h3
        rw [hlen] at h3
        have e1 : m - (i + 1) = k := by omega
        have e2 : pre ++ h :: (List.replicate k 255 ++ List.replicate (i + 1) 0) = (pre ++ h :: List.replicate k 255) ++ 0 :: List.replicate i 0 := by rw [List.replicate_succ]; simp
        rw [e1, e2]; exact h3
      rw [hix]
      have HIX : Hid ((N : Int) - 1 - ((i + 1 : Nat) : Int) = (j : Int) - 1 ∧ 1 ≤ j) := ⟨by omega, by omega⟩
      have hj1 : 1 ≤ j := by omega
      clear hown hcell hlen hk hj hix hN2
      go_wp2_with fail
      go_roundw
      case rel => exact ⟨i + 1, by omega, by rw [HIX.out.1], HN⟩
      case measure => simp [natOfI]; omega
    · obtain rfl : i = m := by omega
      obtain ⟨j, hj⟩ : ∃ j, j = pre.length := ⟨_, rfl⟩
      have hjN : j < N := by omega
      have hix : (N : Int) - 1 - (i : Int) = (j : Int) := by omega
      have hown := HS.out.2.1
      rw [Nat.sub_self] at hown
      have e0 : pre ++ h :: (List.replicate 0 255 ++ List.replicate i 0) = pre ++ h :: List.replicate i 0 := rfl
      rw [e0] at hown
      have hcell := owns_cell (j := j) hown (by rw [hj]; exact at_mid _ _ _)
      have x0 := hcell.1
      have z0 := hcell.2
      have hne : ((h : Int) == 255) = false := beq_eq_false_iff_ne.2 (by omega)
      have hwr : IntKind.u8.wrap ((h : Int) + 1) = ((h + 1 : Nat) : Int) := by rw [IntKind.wrap_u8]; omega
      have HF : Hid (((∃ C', EA (wr.setCell ⟨gr, j, none⟩ (.int .u8 ((h + 1 : Nat) : Int))) B g wd d pr (pre ++ (h + 1) :: List.replicate i 0) C' (.slice (some ⟨gr, 0, none⟩) N cap))) ∧ Below B w (wr.setCell ⟨gr, j, none⟩ (.int .u8 ((h + 1 : Nat) : Int))) ∧ (wr.setCell ⟨gr, j, none⟩ (.int .u8 ((h + 1 : Nat) : Int))).heap.size = w.heap.size ∧ (∀ k, k ≠ g → some k ≠ (Value.slice (some ⟨gr, 0, none⟩) N cap).ownBlock → (wr.setCell ⟨gr, j, none⟩ (.int .u8 ((h + 1 : Nat) : Int))).heap[k]? = w.heap[k]?)) := by
        refine ⟨⟨C1, ?_⟩, HS.out.2.2.1.setCell (p := ⟨gr, j, none⟩) HGG.out.2 _, by simpa using HS.out.2.2.2.1, fun k hk hne => (heap_setCell_other _ _ _ _ (by intro e; apply hne; rw [e]; rfl)).trans (HS.out.2.2.2.2 k hk hne)⟩
        have h3 := owns_set hown hjN (.int .u8 ((h + 1 : Nat) : Int))
        rw [byC_set, hj, set_mid] at h3
        have hl2 : (pre ++ (h + 1) :: List.replicate i 0).length = N := by simp; omega
        refine HFE.out _ _ ((heap_setCell_other _ _ _ _ (fun e => HGG.out.1 e.symm)).trans HS.out.1) (by rw [hl2]; rw [hj]; exact h3)
      rw [hix]
      clear hown hcell e0 hj hix hN2
      go_wp2_with fail
      go_end0
      exact ⟨⟨⟨_, rfl⟩, HF.out.1⟩, HF.out.2⟩
end Go.Proofs.Ytbkjcngehhdchaa

/-!   The coder of ranges: one choice. -/
namespace Go.Proofs.Ytbkjcngehhdchaa
open Go.RowKit
set_option linter.unusedVariables false
set_option linter.unusedSimpArgs false
/-- the coder that stands at a state -/
def ES (w : World) (B g : Nat) (s : RS) : Prop := ∃ C v, EA w B g s.width (s.low % 4294967296) s.probs s.out C v
theorem EA.below {w w' : World} {B g wd lo : Nat} {pr : Nat → Nat} {out : List Nat} {C : Array Value} {v : Value} (h : EA w B g wd lo pr out C v) (hb : Below w.heap.size w w') : EA w' B g wd lo pr out C v :=
  ⟨(hb.block _ (Array.getElem?_eq_some_iff.1 h.row).1).trans h.row, h.sz, h.c0, h.cp, h.cl, h.cs, h.own.kept (row := none) ⟨hb.os, hb.tape, hb.output, hb.size, fun k hk _ => hb.block k hk⟩ (by
    cases e : v.ownBlock with
    | none => exact Or.inl rfl
    | some q => exact Or.inr (by simp)), h.gB⟩
theorem EA.narrow {w w' : World} {B g wd lo x wd' p' : Nat} {pr : Nat → Nat} {out : List Nat} {C : Array Value} {v : Value} (h : EA w B g wd lo pr out C v) (hx : x < 512) (hr : w'.heap[g]? = some (.cells (narC C x wd' p') 126 (0, 0))) (hg : w.grownBy w' (some g)) :
    EA w' B g wd' lo (fun j => if j = x then p' else pr j) out (narC C x wd' p') v := by
  refine ⟨hr, by simp [narC, h.sz], ?_, ?_, ?_, ?_, h.own.kept hg (Or.inr (fun e => row_apartE (by decide) h.own h.row e.symm)), h.gB⟩
  · unfold narC; rw [Array.getElem?_setIfInBounds_ne (by omega), Array.getElem?_setIfInBounds_self_of_lt (by rw [h.sz]; omega)]
  · intro j hj
    unfold narC
    by_cases e : j = x
    · subst e; rw [if_pos rfl, Array.getElem?_setIfInBounds_self_of_lt (by simp [h.sz]; omega)]
    · rw [if_neg e, Array.getElem?_setIfInBounds_ne (by omega), Array.getElem?_setIfInBounds_ne (by omega)]; exact h.cp j hj
  · unfold narC; rw [Array.getElem?_setIfInBounds_ne (by omega), Array.getElem?_setIfInBounds_ne (by omega)]; exact h.cl
  · unfold narC; rw [Array.getElem?_setIfInBounds_ne (by omega), Array.getElem?_setIfInBounds_ne (by omega)]; exact h.cs
/-- the number that low is, and the bytes, behind what is added -/
theorem add_state {s : RS} (h : s.Fine) (hw : 16777216 ≤ s.width) (x : Nat) :
    (s.low % 4294967296 + s.bound x < 4294967296 ∧ (s.pre x 1).low % 4294967296 = s.low % 4294967296 + s.bound x ∧ (s.pre x 1).out = s.out) ∨
    (4294967296 ≤ s.low % 4294967296 + s.bound x ∧ (s.pre x 1).low % 4294967296 = s.low % 4294967296 + s.bound x - 4294967296 ∧ s.held < 255 ∧ s.out = s.os ++ s.held :: List.replicate (s.many - 1) 255 ∧ (s.pre x 1).out = s.os ++ (s.held + 1) :: List.replicate (s.many - 1) 0) := by
  have hb := h.bnd hw x
  have hbd := h.bd
  have hw2 := h.w2
  have hh := h.held
  have hm := h.many
  have hl := h.low
  have e1 : (s.pre x 1).low = s.low + s.bound x := rfl
  have e2 : (s.pre x 1).out = s.os ++ dg s.held s.many ((s.low + s.bound x) / 4294967296) := rfl
  by_cases c : s.low % 4294967296 + s.bound x < 4294967296
  · refine Or.inl ⟨c, by rw [e1]; omega, ?_⟩
    rw [e2]
    have : (s.low + s.bound x) / 4294967296 = s.low / 4294967296 := by omega
    rw [this]; rfl
  · have hl2 : s.low < 4294967296 := by omega
    have h255 : s.held < 255 := by
      by_cases q : s.held = 255
      · have := h.cy q; omega
      · omega
    refine Or.inr ⟨by omega, by rw [e1]; omega, h255, ?_, ?_⟩
    · show s.os ++ dg s.held s.many (s.low / 4294967296) = _
      have : s.low / 4294967296 = 0 := by omega
      rw [this]
      unfold dg
      have e3 : (s.held + 0) % 256 = s.held := by omega
      rw [e3]
    · rw [e2]
      have : (s.low + s.bound x) / 4294967296 = 1 := by omega
      rw [this]
      unfold dg
      have e3 : (s.held + 1) % 256 = s.held + 1 := by omega
      rw [e3]
theorem norm_idem {t : RS} (hw : 16777216 ≤ t.width) : t.norm1 = t := by unfold RS.norm1; rw [if_neg (by omega)]
theorem norm_step {t : RS} (h : t.Fine) (hw : t.width < 16777216) : t.shw.norm = t.norm := by
  have e : t.norm1 = t.shw := by unfold RS.norm1; rw [if_pos hw]
  have h2 : 16777216 ≤ t.shw.norm1.width := by
    have h3 := h.norm.2
    unfold RS.norm at h3
    rw [e] at h3
    exact h3
  unfold RS.norm
  rw [e, norm_idem h2]
theorem norm_done {t : RS} (hw : 16777216 ≤ t.width) : t.norm = t := by unfold RS.norm; rw [norm_idem hw, norm_idem hw]
/-- what the loop of put is measured by -/
def widthAt (g : Nat) (w : World) : Nat := match w.cell? ⟨g, 0, none⟩ with
  | some (.int _ i) => 16777216 - i.toNat
  | _ => 0
theorem widthAt_eq {w : World} {g wd : Nat} (h : w.cell? ⟨g, 0, none⟩ = some (.int .i64 (wd : Int))) : widthAt g w = 16777216 - wd := by unfold widthAt; rw [h]; simp
theorem Try.infU8 : (Try.prog.info? 5).map (fun i => (i.zero, i.size, i.bytes)) = some (some (.int .u8 0), 1, 1) := by kernel_rfl
theorem EA.setlow {w : World} {B g wd lo : Nat} {pr : Nat → Nat} {out : List Nat} {C : Array Value} {v : Value} (h : EA w B g wd lo pr out C v) (lo' : Nat) : EA (w.setCell ⟨g, 513, none⟩ (.int .i64 (lo' : Int))) B g wd lo' pr out (C.setIfInBounds 513 (.int .i64 (lo' : Int))) v := by
  refine ⟨heap_setCell_same _ _ _ _ _ _ h.row, by simp [h.sz], ?_, ?_, ?_, ?_, h.own.kept (grownBy_setC _ g 513 _) (Or.inr (fun e => row_apartE (by decide) h.own h.row e.symm)), h.gB⟩
  · rw [Array.getElem?_setIfInBounds_ne (by omega)]; exact h.c0
  · intro j hj; rw [Array.getElem?_setIfInBounds_ne (by omega)]; exact h.cp j hj
  · rw [Array.getElem?_setIfInBounds_self_of_lt (by rw [h.sz]; omega)]
  · rw [Array.getElem?_setIfInBounds_ne (by omega)]; exact h.cs
/-- the coder behind one shift -/
theorem EA.shift {w7 : World} {B g wd' l1 l2 y : Nat} {pr : Nat → Nat} {out : List Nat} {C : Array Value} {v' : Value} (sz : C.size = 515) (cp : ∀ j, j < 512 → C[1 + j]? = some (.int .i64 (pr j : Int))) (gB : B ≤ g)
    (hr : w7.heap[g]? = some (.cells ((C.setIfInBounds 0 (.int .i64 (wd' : Int))).setIfInBounds 513 (.int .i64 (l1 : Int))) 126 (0, 0)))
    (ho : w7.ownsRow B 5 1 v' (out.length + 1) (byC out ++ [.int .u8 (y : Int)])) :
    EA ((w7.setCell ⟨g, 514, none⟩ v').setCell ⟨g, 513, none⟩ (.int .i64 (l2 : Int))) B g wd' l2 pr (out ++ [y]) ((((C.setIfInBounds 0 (.int .i64 (wd' : Int))).setIfInBounds 513 (.int .i64 (l1 : Int))).setIfInBounds 514 v').setIfInBounds 513 (.int .i64 (l2 : Int))) v' := by
  have hap : some g ≠ v'.ownBlock := row_apartE (by decide) ho hr
  refine ⟨heap_setCell_same _ _ _ _ _ _ (heap_setCell_same _ _ _ _ _ _ hr), by simp [sz], ?_, ?_, ?_, ?_, ?_, gB⟩
  · rw [Array.getElem?_setIfInBounds_ne (by omega), Array.getElem?_setIfInBounds_ne (by omega), Array.getElem?_setIfInBounds_ne (by omega), Array.getElem?_setIfInBounds_self_of_lt (by omega)]
  · intro j hj
    rw [Array.getElem?_setIfInBounds_ne (by omega), Array.getElem?_setIfInBounds_ne (by omega), Array.getElem?_setIfInBounds_ne (by omega), Array.getElem?_setIfInBounds_ne (by omega)]; exact cp j hj
  · rw [Array.getElem?_setIfInBounds_self_of_lt (by simp [sz])]
  · rw [Array.getElem?_setIfInBounds_ne (by omega), Array.getElem?_setIfInBounds_self_of_lt (by simp [sz])]
  · have e : byC (out ++ [y]) = byC out ++ [.int .u8 (y : Int)] := by simp [byC]
    rw [e, List.length_append]
    exact (ho.kept (grownBy_setC _ g 514 _) (Or.inr (fun e => hap e.symm))).kept (grownBy_setC _ g 513 _) (Or.inr (fun e => hap e.symm))
theorem out_preL (s : RS) (x b : Nat) : (s.pre x b).out.length = s.out.length := by
  unfold RS.pre; split
  · rfl
  · simp [RS.out, dg]
set_option maxRecDepth 100000 in
set_option maxHeartbeats 2000000 in
theorem put_any {w : World} {B g x b : Nat} {s : RS} (hs : s.Fine) (hw : 16777216 ≤ s.width) (hE : ES w B g s) (hB : B ≤ w.heap.size) (hx : x < 512) (hbb : b = 0 ∨ b = 1) (hN : s.out.length ≤ 900000) :
    Calls Try.prog 82 #[.pointer (some ⟨g, 0, none⟩), .agg #[.int .i64 (x : Int), .int .i64 (b : Int)]] w fun e w' => (∃ v, e = .returned v) ∧ ES w' B g (s.put x b) ∧ Below B w w' := by
  obtain ⟨C, v, hE⟩ := hE
  obtain ⟨W1, hW1⟩ : ∃ W1, W1 = w.alloc (.cells #[.int .i64 (x : Int), .int .i64 (b : Int)] 108) := ⟨_, rfl⟩
  have HE1 : Hid (EA W1 B g s.width (s.low % 4294967296) s.probs s.out C v) := by rw [hW1]; exact hE.below ((Below.refl _ w).alloc (Nat.le_refl _) _)
  have HBOX : Hid (W1.heap[w.heap.size]? = some (.cells #[.int .i64 (x : Int), .int .i64 (b : Int)] 108 (0, 0))) := by rw [hW1]; exact heap_alloc_new _ _
  have HB1 : Hid (Below B w W1) := by rw [hW1]; exact (Below.refl B w).alloc hB _
  have HSZ : Hid (w.heap.size < W1.heap.size) := by rw [hW1]; show _ < _; simp
  have HGW : Hid (g < w.heap.size) := (Array.getElem?_eq_some_iff.1 hE.row).1
  have hpr := hs.pr x
  have hbn := hs.bnd hw x
  obtain ⟨bd, hbd⟩ : ∃ bd, bd = s.bound x := ⟨_, rfl⟩
  have hw2 := hs.w2
  have hbd2 : bd < 4294967296 := by omega
  have HBD : Hid (∀ w', Below W1.heap.size W1 w' → Calls Try.prog 97 #[.pointer (some ⟨g, 0, none⟩), .int .i64 (x : Int)] w' fun e w'' => e = .returned (.int .i64 (bd : Int)) ∧ Below w'.heap.size w' w'') := fun w' hb => by
    have h := HE1.out.below hb
    rw [hbd]
    exact bound_any g s.width x (s.probs x) w' hw2 hx hpr.2 ((cell_of_row w' g 0 _ _ _ h.row).trans h.c0) ((cell_of_row w' g (1 + x) _ _ _ h.row).trans (h.cp x hx))
  have HBDE : Hid (bd = s.bound x) := hbd
  have HF : Hid (s.Fine ∧ 16777216 ≤ s.width) := ⟨hs, hw⟩
  have hxI : (x : Int) < 512 := by omega
  clear hbd hs hw hE hpr hbn hw2
  go_enter Try.func82, Try.ntmps82
  go_wp2_with fail
  rw [← hW1]
  clear hW1
  obtain ⟨S, hSS⟩ : ∃ S : World → Prop, S = fun w' => Below W1.heap.size W1 w' := ⟨_, rfl⟩
  have hSd : S W1.drew := by rw [hSS]; exact (Below.refl _ W1).drew
  have HS : Hid (S = fun w' => Below W1.heap.size W1 w') := hSS
  have HXX : Hid (∀ w', S w' → w'.cell? ⟨w.heap.size, 0, none⟩ = some (.int .i64 (x : Int))) := fun w' h => by rw [hSS] at h; exact (h.cell (p := ⟨w.heap.size, 0, none⟩) (Array.getElem?_eq_some_iff.1 HBOX.out).1).trans (cell_of_row W1 _ 0 _ _ _ HBOX.out)
  clear hSS
  refine wp_region_held (S := S) (by kernel_rfl) ?_
  change wpAnyH _ _ _ _ _ _ _ _ (World.drew _)
  refine wpAnyH_take (i := 0) (v := .pointer (some ⟨g, 0, none⟩)) rfl (by kernel_rfl) (by kernel_rfl) (by kernel_rfl) (fun _ _ _ h => h) (Or.inl ⟨by rfl, by intro w' hS'; go_simp <;> (first | omega | (rw [IntKind.wrap_i64]; omega) | (rw [IntKind.wrap_u64]; omega) | (rw [IntKind.wrap_u32]; omega) | (rw [Int.tmod_eq_emod_of_nonneg (by omega)]))⟩) hSd ?_
  (try simp only [List.getElem_toArray, List.getElem_cons_succ, List.getElem_cons_zero, Act.put, List.setIfInBounds_toArray, List.set_cons_zero, List.set_cons_succ])
  refine wpAnyH_take (i := 1) (v := .pointer (some ⟨g, 0, none⟩)) rfl (by kernel_rfl) (by kernel_rfl) (by kernel_rfl) (fun _ _ _ h => h) (Or.inl ⟨by rfl, by intro w' hS'; go_simp <;> (first | omega | (rw [IntKind.wrap_i64]; omega) | (rw [IntKind.wrap_u64]; omega) | (rw [IntKind.wrap_u32]; omega) | (rw [Int.tmod_eq_emod_of_nonneg (by omega)]))⟩) hSd ?_
  (try simp only [List.getElem_toArray, List.getElem_cons_succ, List.getElem_cons_zero, Act.put, List.setIfInBounds_toArray, List.set_cons_zero, List.set_cons_succ])
  refine wpAnyH_take (i := 2) (v := .pointer (some ⟨g, 0, none⟩)) rfl (by kernel_rfl) (by kernel_rfl) (by kernel_rfl) (fun _ _ _ h => h) (Or.inl ⟨by rfl, by intro w' hS'; go_simp <;> (first | omega | (rw [IntKind.wrap_i64]; omega) | (rw [IntKind.wrap_u64]; omega) | (rw [IntKind.wrap_u32]; omega) | (rw [Int.tmod_eq_emod_of_nonneg (by omega)]))⟩) hSd ?_
  (try simp only [List.getElem_toArray, List.getElem_cons_succ, List.getElem_cons_zero, Act.put, List.setIfInBounds_toArray, List.set_cons_zero, List.set_cons_succ])
  refine wpAnyH_take (i := 3) (v := .pointer (some ⟨w.heap.size, 0, none⟩)) rfl (by kernel_rfl) (by kernel_rfl) (by kernel_rfl) (fun _ _ _ h => h) (Or.inl ⟨by rfl, by intro w' hS'; go_simp <;> (first | omega | (rw [IntKind.wrap_i64]; omega) | (rw [IntKind.wrap_u64]; omega) | (rw [IntKind.wrap_u32]; omega) | (rw [Int.tmod_eq_emod_of_nonneg (by omega)]))⟩) hSd ?_
  (try simp only [List.getElem_toArray, List.getElem_cons_succ, List.getElem_cons_zero, Act.put, List.setIfInBounds_toArray, List.set_cons_zero, List.set_cons_succ])
  refine wpAnyH_take (i := 4) (v := .int .i64 (x : Int)) rfl (by kernel_rfl) (by kernel_rfl) (by kernel_rfl) (fun _ _ _ h => h) (Or.inl ⟨by rfl, by intro w' hS'; have hxx := HXX.out w' hS'; go_simp <;> (first | omega | (rw [IntKind.wrap_i64]; omega) | (rw [IntKind.wrap_u64]; omega) | (rw [IntKind.wrap_u32]; omega) | (rw [Int.tmod_eq_emod_of_nonneg (by omega)]))⟩) hSd ?_
  (try simp only [List.getElem_toArray, List.getElem_cons_succ, List.getElem_cons_zero, Act.put, List.setIfInBounds_toArray, List.set_cons_zero, List.set_cons_succ])
  refine held_stepS (i := 5) (by kernel_rfl) rfl (by rfl) ?_
  go_simp
  refine (HBD.out _ (Below.refl _ W1).drew).mono ?_
  rintro e w3 ⟨rfl, hb3⟩
  have hb4 : Below W1.heap.size W1 w3 := ((Below.refl _ W1).drew).trans hb3
  have hS3 : S w3 := by rw [HS.out]; exact hb4
  refine ⟨hS3, ?_⟩
  (try simp only [List.getElem_toArray, List.getElem_cons_succ, List.getElem_cons_zero, Act.put, List.setIfInBounds_toArray, List.set_cons_zero, List.set_cons_succ])
  refine wpAnyH_take (i := 6) (v := .int .i64 (bd : Int)) rfl (by kernel_rfl) (by kernel_rfl) (by kernel_rfl) (fun _ _ _ h => h) (Or.inl ⟨by rfl, by intro w' hS'; go_simp <;> (first | omega | (rw [IntKind.wrap_i64]; omega) | (rw [IntKind.wrap_u64]; omega) | (rw [IntKind.wrap_u32]; omega) | (rw [Int.tmod_eq_emod_of_nonneg (by omega)]))⟩) hS3 ?_
  (try simp only [List.getElem_toArray, List.getElem_cons_succ, List.getElem_cons_zero, Act.put, List.setIfInBounds_toArray, List.set_cons_zero, List.set_cons_succ])
  refine wpAnyH_done (by kernel_rfl) ?_ _
  have HE3 : Hid (EA w3 B g s.width (s.low % 4294967296) s.probs s.out C v) := HE1.out.below hb4
  have HBOX3 : Hid (w3.heap[w.heap.size]? = some (.cells #[.int .i64 (x : Int), .int .i64 (b : Int)] 108 (0, 0))) := (hb4.block _ (Array.getElem?_eq_some_iff.1 HBOX.out).1).trans HBOX.out
  have HB3 : Hid (Below B w w3) := HB1.out.trans (hb4.mono (by have := HB1.out.size; have := HE1.out.gB; have := HSZ.out; omega))
  have HSZ3 : Hid (w.heap.size < w3.heap.size) := Nat.lt_of_lt_of_le HSZ.out hb4.size
  clear hb3 hb4 hS3 hSd HXX HS HE1 HBOX HB1 HSZ HBD
  have HN : Hid (s.out.length ≤ 900000) := hN
  clear hN
  rcases hbb with rfl | rfl
  · have e0 : ((0 : Nat) : Int) = 0 := rfl
    rw [e0] at HBOX3 ⊢
    have hb1 : w3.cell? ⟨w.heap.size, 1, none⟩ = some (.int .i64 0) := cell_of_row w3 _ 1 _ _ _ HBOX3.out
    go_wp2_with fail
    clear hb1
    obtain ⟨w4, hw4⟩ : ∃ w4, w4 = w3 := ⟨_, rfl⟩
    rw [← hw4] at HE3 HBOX3 HB3 HSZ3 ⊢
    have HE4 : Hid _ := HE3.out
    have HBOX4 : Hid _ := HBOX3.out
    have HB4 : Hid (Below B w w4) := HB3.out
    clear hw4 HE3 HBOX3 HB3 HSZ3
    have HNAR : Hid (Calls Try.prog 99 #[.pointer (some ⟨g, 0, none⟩), .agg #[.int .i64 (x : Int), .int .i64 0], .int .i64 (bd : Int)] w4.drew fun e w' => (∃ v, e = .returned v) ∧ w'.heap[g]? = some (.cells (narC C x bd (movP (s.probs x) 0)) 126 (0, 0)) ∧ w4.drew.grownBy w' (some g)) := narrow_zero g s.width x (s.probs x) bd C _ w4.drew hx (HF.out.1.pr x) HE4.out.row HE4.out.c0 (HE4.out.cp x hx)
    obtain ⟨S, hSS⟩ : ∃ S : World → Prop, S = fun w' => w'.cell? ⟨w.heap.size, 0, none⟩ = some (.int .i64 (x : Int)) ∧ w'.cell? ⟨w.heap.size, 1, none⟩ = some (.int .i64 0) := ⟨_, rfl⟩
    have HS : Hid (S = fun w' => w'.cell? ⟨w.heap.size, 0, none⟩ = some (.int .i64 (x : Int)) ∧ w'.cell? ⟨w.heap.size, 1, none⟩ = some (.int .i64 0)) := hSS
    have hSd : S w4.drew := by rw [hSS]; exact ⟨cell_of_row w4 _ 0 _ _ _ HBOX4.out, cell_of_row w4 _ 1 _ _ _ HBOX4.out⟩
    have HX2 : Hid (∀ w', S w' → w'.cell? ⟨w.heap.size, 0, none⟩ = some (.int .i64 (x : Int)) ∧ w'.cell? ⟨w.heap.size, 1, none⟩ = some (.int .i64 0)) := fun w' h => by rw [hSS] at h; exact h
    clear hSS
    refine wp_region_held (S := S) (by kernel_rfl) ?_
    change wpAnyH _ _ _ _ _ _ _ _ (World.drew _)
    refine wpAnyH_take (i := 0) (v := .pointer (some ⟨g, 0, none⟩)) rfl (by kernel_rfl) (by kernel_rfl) (by kernel_rfl) (fun _ _ _ h => h) (Or.inl ⟨by rfl, by intro w' hS'; go_simp <;> (first | omega | (rw [IntKind.wrap_i64]; omega) | (rw [IntKind.wrap_u64]; omega) | (rw [IntKind.wrap_u32]; omega) | (rw [Int.tmod_eq_emod_of_nonneg (by omega)]))⟩) hSd ?_
    (try simp only [List.getElem_toArray, List.getElem_cons_succ, List.getElem_cons_zero, Act.put, List.setIfInBounds_toArray, List.set_cons_zero, List.set_cons_succ])
    refine wpAnyH_take (i := 1) (v := .pointer (some ⟨g, 0, none⟩)) rfl (by kernel_rfl) (by kernel_rfl) (by kernel_rfl) (fun _ _ _ h => h) (Or.inl ⟨by rfl, by intro w' hS'; go_simp <;> (first | omega | (rw [IntKind.wrap_i64]; omega) | (rw [IntKind.wrap_u64]; omega) | (rw [IntKind.wrap_u32]; omega) | (rw [Int.tmod_eq_emod_of_nonneg (by omega)]))⟩) hSd ?_
    (try simp only [List.getElem_toArray, List.getElem_cons_succ, List.getElem_cons_zero, Act.put, List.setIfInBounds_toArray, List.set_cons_zero, List.set_cons_succ])
    refine wpAnyH_take (i := 2) (v := .pointer (some ⟨g, 0, none⟩)) rfl (by kernel_rfl) (by kernel_rfl) (by kernel_rfl) (fun _ _ _ h => h) (Or.inl ⟨by rfl, by intro w' hS'; go_simp <;> (first | omega | (rw [IntKind.wrap_i64]; omega) | (rw [IntKind.wrap_u64]; omega) | (rw [IntKind.wrap_u32]; omega) | (rw [Int.tmod_eq_emod_of_nonneg (by omega)]))⟩) hSd ?_
    (try simp only [List.getElem_toArray, List.getElem_cons_succ, List.getElem_cons_zero, Act.put, List.setIfInBounds_toArray, List.set_cons_zero, List.set_cons_succ])
    refine wpAnyH_take (i := 3) (v := .agg #[.int .i64 (x : Int), .int .i64 0]) rfl (by kernel_rfl) (by kernel_rfl) (by kernel_rfl) (fun _ _ _ h => h) (Or.inl ⟨by rfl, by intro w' hS'; have hx0 := (HX2.out w' hS').1; have hx1 := (HX2.out w' hS').2; go_simp <;> (first | omega | (rw [IntKind.wrap_i64]; omega) | (rw [IntKind.wrap_u64]; omega) | (rw [IntKind.wrap_u32]; omega) | (rw [Int.tmod_eq_emod_of_nonneg (by omega)]))⟩) hSd ?_
    (try simp only [List.getElem_toArray, List.getElem_cons_succ, List.getElem_cons_zero, Act.put, List.setIfInBounds_toArray, List.set_cons_zero, List.set_cons_succ])
    refine wpAnyH_take (i := 4) (v := .int .i64 (bd : Int)) rfl (by kernel_rfl) (by kernel_rfl) (by kernel_rfl) (fun _ _ _ h => h) (Or.inl ⟨by rfl, by intro w' hS'; go_simp <;> (first | omega | (rw [IntKind.wrap_i64]; omega) | (rw [IntKind.wrap_u64]; omega) | (rw [IntKind.wrap_u32]; omega) | (rw [Int.tmod_eq_emod_of_nonneg (by omega)]))⟩) hSd ?_
    (try simp only [List.getElem_toArray, List.getElem_cons_succ, List.getElem_cons_zero, Act.put, List.setIfInBounds_toArray, List.set_cons_zero, List.set_cons_succ])
    refine held_stepS (i := 5) (by kernel_rfl) rfl (by rfl) ?_
    go_simp
    refine (HNAR.out).mono ?_
    rintro e w5 ⟨⟨ve, rfl⟩, hr5, hg5⟩
    have hbx5 : w5.heap[w.heap.size]? = some (.cells #[.int .i64 (x : Int), .int .i64 0] 108 (0, 0)) := (hg5.block _ (Array.getElem?_eq_some_iff.1 HBOX4.out).1 (by intro c; have := Option.some.inj c; have := HGW.out; omega)).trans HBOX4.out
    refine ⟨by rw [HS.out]; exact ⟨cell_of_row w5 _ 0 _ _ _ hbx5, cell_of_row w5 _ 1 _ _ _ hbx5⟩, ?_⟩
    (try simp only [List.getElem_toArray, List.getElem_cons_succ, List.getElem_cons_zero, Act.put, List.setIfInBounds_toArray, List.set_cons_zero, List.set_cons_succ])
    refine wpAnyH_done (by kernel_rfl) ?_ _
    have hg6 : w4.grownBy w5 (some g) := ⟨hg5.os, hg5.tape, hg5.output, hg5.size, hg5.block⟩
    have HE5 : Hid (ES w5 B g (s.pre x 0)) := ⟨_, v, by have h := HE4.out.narrow (w' := w5) hx hr5 hg6; rw [HBDE.out] at h; exact h⟩
    have HB5 : Hid (Below B w w5) := HB4.out.grown hg6 (by have := HB4.out.size; omega) (fun k e => by have e2 : g = k := Option.some.inj e; have := HE4.out.gB; omega)
    clear hr5 hg5 hg6 hbx5 hSd HX2 HS HNAR HE4 HBOX4 HB4
    obtain ⟨t0, ht0⟩ : ∃ t0, t0 = s.pre x 0 := ⟨_, rfl⟩
    obtain ⟨s', hs'⟩ : ∃ s', s' = s.put x 0 := ⟨_, rfl⟩
    have HT0 : Hid (t0.Fine ∧ t0.norm = s' ∧ 16777216 ≤ s'.width ∧ t0.out.length ≤ 900000) := by
      have h1 := HF.out.1.pre HF.out.2 x 0
      have h2 := HF.out.1.put HF.out.2 x 0
      refine ⟨by rw [ht0]; exact h1, by rw [ht0, hs']; rfl, by rw [hs']; exact h2.2, ?_⟩
      have e : (s.pre x 0).out.length = s.out.length := out_preL s x 0
      rw [ht0, e]; exact HN.out
    rw [← ht0] at HE5
    have HS' : Hid (s' = s.put x 0) := hs'
    clear ht0 hs'
    go_wp2_with fail
    go_loopw [] (fun wr => ∃ t : RS, ES wr B g t ∧ t.Fine ∧ t.norm = s' ∧ Below B w wr ∧ (t.out.length ≤ 900000 ∨ (t.out.length ≤ 900001 ∧ 2097152 ≤ t.width) ∨ (t.out.length ≤ 900002 ∧ 16777216 ≤ t.width))) (fun wr => widthAt g wr)
    case atStart => exact ⟨t0, HE5.out, HT0.out.1, HT0.out.2.1, HB5.out, Or.inl HT0.out.2.2.2⟩
    case round =>
      obtain ⟨t, ⟨C, v, hE⟩, hF, hN, hB, hL⟩ := hrel
      have c0 : wr.cell? ⟨g, 0, none⟩ = some (.int .i64 (t.width : Int)) := (cell_of_row wr g 0 _ _ _ hE.row).trans hE.c0
      have hw1 := hF.w1
      have hw2 := hF.w2
      by_cases hlt : t.width < 16777216
      · have hltI : (t.width : Int) < 16777216 := by omega
        have c513 : wr.cell? ⟨g, 513, none⟩ = some (.int .i64 ((t.low % 4294967296 : Nat) : Int)) := (cell_of_row wr g 513 _ _ _ hE.row).trans hE.cl
        have z0 := frozen_of_row wr g 0 _ _ hE.row
        have z513 := frozen_of_row wr g 513 _ _ hE.row
        have z514 := frozen_of_row wr g 514 _ _ hE.row
        have c514 : wr.cell? ⟨g, 514, none⟩ = some v := (cell_of_row wr g 514 _ _ _ hE.row).trans hE.cs
        obtain ⟨so1, so2⟩ := sh_out hF.many
        have HSH : Hid (t.shw.width = t.width * 256 ∧ t.shw.low % 4294967296 = t.low % 4294967296 * 256 % 4294967296 ∧ t.shw.out = t.out ++ [t.low % 4294967296 / 16777216] ∧ t.shw.probs = t.probs ∧ t.shw.Fine ∧ t.shw.norm = s' ∧ ((t.shw.out.length ≤ 900001 ∧ 2097152 ≤ t.shw.width) ∨ (t.shw.out.length ≤ 900002 ∧ 16777216 ≤ t.shw.width))) := by
          have e2 : t.shw.low = t.sh.low := rfl
          have e3 : t.shw.out = t.sh.out := rfl
          refine ⟨rfl, by rw [e2, so2]; omega, by rw [e3, so1], by unfold RS.shw RS.sh; split <;> rfl, hF.shw hlt, (norm_step hF hlt).trans hN, ?_⟩
          rw [e3, so1, shw_width, List.length_append]
          simp only [List.length_cons, List.length_nil]
          omega
        have hol : t.out.length ≤ 900001 := by omega
        have HE : Hid (EA wr B g t.width (t.low % 4294967296) t.probs t.out C v) := hE
        have HBW : Hid (Below B w wr) := hB
        have hB2 := hB.size
        obtain ⟨wd, hwd⟩ : ∃ wd, wd = t.width := ⟨_, rfl⟩
        obtain ⟨lo, hlo⟩ : ∃ lo, lo = t.low % 4294967296 := ⟨_, rfl⟩
        have hlo2 : lo < 4294967296 := by omega
        rw [← hwd] at c0 hltI hw1 HE HSH hlt
        rw [← hlo] at c513 HE HSH
        obtain ⟨wd', hwd'⟩ : ∃ wd', wd' = wd * 256 := ⟨_, rfl⟩
        obtain ⟨l1, hl1⟩ : ∃ l1, l1 = lo * 256 := ⟨_, rfl⟩
        obtain ⟨l2, hl2⟩ : ∃ l2, l2 = lo * 256 % 4294967296 := ⟨_, rfl⟩
        obtain ⟨y, hy⟩ : ∃ y, y = lo / 16777216 := ⟨_, rfl⟩
        have f1 : IntKind.i64.wrap ((wd : Int) * 256) = (wd' : Int) := by rw [IntKind.wrap_i64]; omega
        have f2 : IntKind.i64.wrap ((lo : Int) * 256) = (l1 : Int) := by rw [IntKind.wrap_i64]; omega
        have f1b : (wd : Int) * 256 = (wd' : Int) := by omega
        have f2b : (lo : Int) * 256 = (l1 : Int) := by omega
        have f3 : (l1 : Int) / 4294967296 = (y : Int) := by omega
        have f4 : bits .and .i64 (l1 : Int) 4294967295 = (l2 : Int) := by rw [i64_and32 _ (by omega)]; omega
        have f5 : y < 256 := by omega
        have f6 : l1 < 1099511627776 := by omega
        have f7 : IntKind.u8.wrap (y : Int) = (y : Int) := by rw [IntKind.wrap_u8]; omega
        rw [← hwd', ← hl2, ← hy] at HSH
        have HWD : Hid (wd' = wd * 256 ∧ 8192 ≤ wd ∧ wd < 16777216) := ⟨hwd', by omega, hlt⟩
        obtain ⟨W2, hW2⟩ : ∃ W2, W2 = (wr.setCell ⟨g, 0, none⟩ (.int .i64 (wd' : Int))).setCell ⟨g, 513, none⟩ (.int .i64 (l1 : Int)) := ⟨_, rfl⟩
        have hr2 : W2.heap[g]? = some (.cells ((C.setIfInBounds 0 (.int .i64 (wd' : Int))).setIfInBounds 513 (.int .i64 (l1 : Int))) 126 (0, 0)) := by rw [hW2]; exact heap_setCell_same _ _ _ _ _ _ (heap_setCell_same _ _ _ _ _ _ HE.out.row)
        have hap : some g ≠ v.ownBlock := row_apartE (by decide) HE.out.own HE.out.row
        have ho2 : W2.ownsRow B 5 1 v t.out.length (byC t.out) := by rw [hW2]; exact (HE.out.own.kept (grownBy_setC _ g 0 _) (Or.inr (fun e => hap e.symm))).kept (grownBy_setC _ g 513 _) (Or.inr (fun e => hap e.symm))
        have hb2 : Below B w W2 := by rw [hW2]; exact (HBW.out.setCell (p := ⟨g, 0, none⟩) HE.out.gB _).setCell (p := ⟨g, 513, none⟩) HE.out.gB _
        have HW2 : Hid (W2.heap[g]? = some (.cells ((C.setIfInBounds 0 (.int .i64 (wd' : Int))).setIfInBounds 513 (.int .i64 (l1 : Int))) 126 (0, 0)) ∧ W2.ownsRow B 5 1 v t.out.length (byC t.out) ∧ Below B w W2) := ⟨hr2, ho2, hb2⟩
        have HCV : Hid (W2.cell? ⟨g, 514, none⟩ = some v) := by rw [hW2]; exact (cell_of_row _ g 514 _ _ _ (by rw [← hW2]; exact hr2)).trans (by rw [Array.getElem?_setIfInBounds_ne (by omega), Array.getElem?_setIfInBounds_ne (by omega)]; exact HE.out.cs)
        have HWE : Hid _ := hW2
        clear hE hF hN hB hL so1 so2 hwd hlo hwd' hl1 hl2 hy hr2 ho2 hb2 hap hlt hW2 c514 hw2
        go_wp2_with fail
        rw [← HWE.out]
        clear c0 c513 z0 z513 z514
        obtain ⟨S, hSS⟩ : ∃ S : World → Prop, S = fun w' => w'.cell? ⟨g, 513, none⟩ = some (.int .i64 (l1 : Int)) := ⟨_, rfl⟩
        have HS8 : Hid (S = fun w' => w'.cell? ⟨g, 513, none⟩ = some (.int .i64 (l1 : Int))) := hSS
        have hl513 : ((C.setIfInBounds 0 (.int .i64 (wd' : Int))).setIfInBounds 513 (.int .i64 (l1 : Int)))[513]? = some (.int .i64 (l1 : Int)) := by rw [Array.getElem?_setIfInBounds_self_of_lt (by simp [HE.out.sz])]
        have hSd : S W2.drew := by rw [hSS]; exact (cell_of_row W2 g 513 _ _ _ HW2.out.1).trans hl513
        have HXL : Hid (∀ w', S w' → w'.cell? ⟨g, 513, none⟩ = some (.int .i64 (l1 : Int))) := fun w' h => by rw [hSS] at h; exact h
        have hSA : ∀ o, S (W2.drew.alloc o) := fun o => by rw [hSS]; exact (cell_of_row _ g 513 _ _ _ ((Below.heap_alloc _ _ _ (show g < W2.drew.heap.size from (Array.getElem?_eq_some_iff.1 HW2.out.1).1)).trans (show W2.drew.heap[g]? = _ from HW2.out.1))).trans hl513
        have hcv : W2.cell? ⟨g, 514, none⟩ = some v := HCV.out
        have hcv2 : (W2.alloc (.cells #[.int .u8 (y : Int)] 5)).cell? ⟨g, 514, none⟩ = some v := (World.cell?_of_block (a := ⟨g, 514, none⟩) (Below.heap_alloc W2 _ g (Array.getElem?_eq_some_iff.1 HW2.out.1).1)).trans HCV.out
        obtain ⟨i0, hi, hz0, hz1, hz2⟩ := info_parts Try.infU8
        clear hSS
        refine wp_region_held (S := S) (by kernel_rfl) ?_
        change wpAnyH _ _ _ _ _ _ _ _ (World.drew _)
        refine wpAnyH_take (i := 0) (v := .pointer (some ⟨g, 0, none⟩)) rfl (by kernel_rfl) (by kernel_rfl) (by kernel_rfl) (fun _ _ _ h => h) (Or.inl ⟨by rfl, by intro w' hS'; go_simp <;> (first | omega | (rw [IntKind.wrap_i64]; omega) | (rw [IntKind.wrap_u64]; omega) | (rw [IntKind.wrap_u32]; omega) | (rw [Int.tmod_eq_emod_of_nonneg (by omega)]))⟩) hSd ?_
        (try simp only [List.getElem_toArray, List.getElem_cons_succ, List.getElem_cons_zero, Act.put, List.setIfInBounds_toArray, List.set_cons_zero, List.set_cons_succ])
        refine wpAnyH_take (i := 1) (v := .pointer (some ⟨g, 0, none⟩)) rfl (by kernel_rfl) (by kernel_rfl) (by kernel_rfl) (fun _ _ _ h => h) (Or.inl ⟨by rfl, by intro w' hS'; go_simp <;> (first | omega | (rw [IntKind.wrap_i64]; omega) | (rw [IntKind.wrap_u64]; omega) | (rw [IntKind.wrap_u32]; omega) | (rw [Int.tmod_eq_emod_of_nonneg (by omega)]))⟩) hSd ?_
        (try simp only [List.getElem_toArray, List.getElem_cons_succ, List.getElem_cons_zero, Act.put, List.setIfInBounds_toArray, List.set_cons_zero, List.set_cons_succ])
        refine wpAnyH_take (i := 2) (v := .pointer (some ⟨g, 0, none⟩)) rfl (by kernel_rfl) (by kernel_rfl) (by kernel_rfl) (fun _ _ _ h => h) (Or.inl ⟨by rfl, by intro w' hS'; go_simp <;> (first | omega | (rw [IntKind.wrap_i64]; omega) | (rw [IntKind.wrap_u64]; omega) | (rw [IntKind.wrap_u32]; omega) | (rw [Int.tmod_eq_emod_of_nonneg (by omega)]))⟩) hSd ?_
        (try simp only [List.getElem_toArray, List.getElem_cons_succ, List.getElem_cons_zero, Act.put, List.setIfInBounds_toArray, List.set_cons_zero, List.set_cons_succ])
        refine wpAnyH_take (i := 3) (v := .pointer (some ⟨g, 514, none⟩)) rfl (by kernel_rfl) (by kernel_rfl) (by kernel_rfl) (fun _ _ _ h => h) (Or.inl ⟨by rfl, by intro w' hS'; go_simp <;> (first | omega | (rw [IntKind.wrap_i64]; omega) | (rw [IntKind.wrap_u64]; omega) | (rw [IntKind.wrap_u32]; omega) | (rw [Int.tmod_eq_emod_of_nonneg (by omega)]))⟩) hSd ?_
        (try simp only [List.getElem_toArray, List.getElem_cons_succ, List.getElem_cons_zero, Act.put, List.setIfInBounds_toArray, List.set_cons_zero, List.set_cons_succ])
        refine wpAnyH_take (i := 5) (v := .pointer (some ⟨g, 0, none⟩)) rfl (by kernel_rfl) (by kernel_rfl) (by kernel_rfl) (fun _ _ _ h => h) (Or.inl ⟨by rfl, by intro w' hS'; go_simp <;> (first | omega | (rw [IntKind.wrap_i64]; omega) | (rw [IntKind.wrap_u64]; omega) | (rw [IntKind.wrap_u32]; omega) | (rw [Int.tmod_eq_emod_of_nonneg (by omega)]))⟩) hSd ?_
        (try simp only [List.getElem_toArray, List.getElem_cons_succ, List.getElem_cons_zero, Act.put, List.setIfInBounds_toArray, List.set_cons_zero, List.set_cons_succ])
        refine wpAnyH_take (i := 6) (v := .pointer (some ⟨g, 0, none⟩)) rfl (by kernel_rfl) (by kernel_rfl) (by kernel_rfl) (fun _ _ _ h => h) (Or.inl ⟨by rfl, by intro w' hS'; go_simp <;> (first | omega | (rw [IntKind.wrap_i64]; omega) | (rw [IntKind.wrap_u64]; omega) | (rw [IntKind.wrap_u32]; omega) | (rw [Int.tmod_eq_emod_of_nonneg (by omega)]))⟩) hSd ?_
        (try simp only [List.getElem_toArray, List.getElem_cons_succ, List.getElem_cons_zero, Act.put, List.setIfInBounds_toArray, List.set_cons_zero, List.set_cons_succ])
        refine wpAnyH_take (i := 7) (v := .pointer (some ⟨g, 513, none⟩)) rfl (by kernel_rfl) (by kernel_rfl) (by kernel_rfl) (fun _ _ _ h => h) (Or.inl ⟨by rfl, by intro w' hS'; go_simp <;> (first | omega | (rw [IntKind.wrap_i64]; omega) | (rw [IntKind.wrap_u64]; omega) | (rw [IntKind.wrap_u32]; omega) | (rw [Int.tmod_eq_emod_of_nonneg (by omega)]))⟩) hSd ?_
        (try simp only [List.getElem_toArray, List.getElem_cons_succ, List.getElem_cons_zero, Act.put, List.setIfInBounds_toArray, List.set_cons_zero, List.set_cons_succ])
        refine wpAnyH_take (i := 8) (v := .int .i64 (l1 : Int)) rfl (by kernel_rfl) (by kernel_rfl) (by kernel_rfl) (fun _ _ _ h => h) (Or.inl ⟨by rfl, by intro w' hS'; have hxx := HXL.out w' hS'; go_simp <;> (first | omega | (rw [IntKind.wrap_i64]; omega) | (rw [IntKind.wrap_u64]; omega) | (rw [IntKind.wrap_u32]; omega) | (rw [Int.tmod_eq_emod_of_nonneg (by omega)]))⟩) hSd ?_
        (try simp only [List.getElem_toArray, List.getElem_cons_succ, List.getElem_cons_zero, Act.put, List.setIfInBounds_toArray, List.set_cons_zero, List.set_cons_succ])
        refine wpAnyH_take (i := 9) (v := .int .i64 (y : Int)) rfl (by kernel_rfl) (by kernel_rfl) (by kernel_rfl) (fun _ _ _ h => h) (Or.inl ⟨by rfl, by intro w' hS'; go_simp <;> (first | omega | (rw [IntKind.wrap_i64]; omega) | (rw [IntKind.wrap_u64]; omega) | (rw [IntKind.wrap_u32]; omega) | (rw [Int.tmod_eq_emod_of_nonneg (by omega)]))⟩) hSd ?_
        (try simp only [List.getElem_toArray, List.getElem_cons_succ, List.getElem_cons_zero, Act.put, List.setIfInBounds_toArray, List.set_cons_zero, List.set_cons_succ])
        refine wpAnyH_take (i := 10) (v := .int .u8 (y : Int)) rfl (by kernel_rfl) (by kernel_rfl) (by kernel_rfl) (fun _ _ _ h => h) (Or.inl ⟨by rfl, by intro w' hS'; go_simp <;> (first | omega | (rw [IntKind.wrap_i64]; omega) | (rw [IntKind.wrap_u64]; omega) | (rw [IntKind.wrap_u32]; omega) | (rw [Int.tmod_eq_emod_of_nonneg (by omega)]))⟩) hSd ?_
        (try simp only [List.getElem_toArray, List.getElem_cons_succ, List.getElem_cons_zero, Act.put, List.setIfInBounds_toArray, List.set_cons_zero, List.set_cons_succ])
        refine held_two (i := 4) (k := 11) (by kernel_rfl) rfl rfl (by rfl) (by rfl) ?_ ?_
        · go_simp
          refine ⟨hSd, ?_⟩
          (try simp only [List.getElem_toArray, List.getElem_cons_succ, List.getElem_cons_zero, Act.put, List.setIfInBounds_toArray, List.set_cons_zero, List.set_cons_succ])
          refine held_stepS (i := 11) (by kernel_rfl) rfl (by rfl) ?_
          go_simp
          refine ⟨hSA _, ?_⟩
          (try simp only [List.getElem_toArray, List.getElem_cons_succ, List.getElem_cons_zero, Act.put, List.setIfInBounds_toArray, List.set_cons_zero, List.set_cons_succ])
          refine held_stepS (i := 12) (by kernel_rfl) rfl (by rfl) ?_
          refine wp_append_own _ (.tmp 49) (.tmp 56) 36 rfl B 5 i0 (.int .u8 0) 1 1 Try.underlying36 hi hz0 hz1 hz2 rfl (by decide) v t.out.length (byC t.out) rfl (World.ownsRow.kept (row := none) (show W2.drew.ownsRow B 5 1 v t.out.length (byC t.out) from HW2.out.2.1) (World.grownBy_alloc W2.drew (.cells #[.int .u8 (y : Int)] 5) none) (by cases e : v.ownBlock with | none => exact Or.inl rfl | some q => exact Or.inr (by simp))) ⟨W2.drew.heap.size, 0, none⟩ 1 1 [.int .u8 (y : Int)] rfl rfl (cell_one_new _ _ _) (by simp [Value.oneCell']) (by unfold maxLen; omega) (by omega) (by have := HW2.out.2.2.size; simp; show B ≤ W2.heap.size + 1; omega) ?_
          intro v' w7 ho7 hg7 _
          obtain ⟨gq, cq, rfl, _⟩ := owns_at ho7 (by omega)
          have hap : some g ≠ v.ownBlock := row_apartE (by decide) HW2.out.2.1 HW2.out.1
          have hr7 : w7.heap[g]? = some (.cells ((C.setIfInBounds 0 (.int .i64 (wd' : Int))).setIfInBounds 513 (.int .i64 (l1 : Int))) 126 (0, 0)) := (hg7.block g (by have := (Array.getElem?_eq_some_iff.1 HW2.out.1).1; simp; show g < W2.heap.size + 1; omega) hap).trans ((Below.heap_alloc _ _ _ (show g < W2.drew.heap.size from (Array.getElem?_eq_some_iff.1 HW2.out.1).1)).trans (show W2.drew.heap[g]? = _ from HW2.out.1))
          have hb7 : Below B w w7 := ((HW2.out.2.2.drew).alloc (by have := HW2.out.2.2.size; show B ≤ W2.heap.size; omega) _).grown hg7 (by have := HW2.out.2.2.size; simp; show B ≤ W2.heap.size + 1; omega) (fun k hk => (HW2.out.2.1.lt k hk).1)
          have hS7 : S w7 := by rw [HS8.out]; exact (cell_of_row w7 g 513 _ _ _ hr7).trans hl513
          refine ⟨hS7, ?_⟩
          (try simp only [List.getElem_toArray, List.getElem_cons_succ, List.getElem_cons_zero, Act.put, List.setIfInBounds_toArray, List.set_cons_zero, List.set_cons_succ])
          refine wpAnyH_take (i := 13) (v := .pointer (some ⟨g, 0, none⟩)) rfl (by kernel_rfl) (by kernel_rfl) (by kernel_rfl) (fun _ _ _ h => h) (Or.inl ⟨by rfl, by intro w' hS'; go_simp <;> (first | omega | (rw [IntKind.wrap_i64]; omega) | (rw [IntKind.wrap_u64]; omega) | (rw [IntKind.wrap_u32]; omega) | (rw [Int.tmod_eq_emod_of_nonneg (by omega)]))⟩) hS7 ?_
          (try simp only [List.getElem_toArray, List.getElem_cons_succ, List.getElem_cons_zero, Act.put, List.setIfInBounds_toArray, List.set_cons_zero, List.set_cons_succ])
          refine wpAnyH_take (i := 14) (v := .pointer (some ⟨g, 514, none⟩)) rfl (by kernel_rfl) (by kernel_rfl) (by kernel_rfl) (fun _ _ _ h => h) (Or.inl ⟨by rfl, by intro w' hS'; go_simp <;> (first | omega | (rw [IntKind.wrap_i64]; omega) | (rw [IntKind.wrap_u64]; omega) | (rw [IntKind.wrap_u32]; omega) | (rw [Int.tmod_eq_emod_of_nonneg (by omega)]))⟩) hS7 ?_
          (try simp only [List.getElem_toArray, List.getElem_cons_succ, List.getElem_cons_zero, Act.put, List.setIfInBounds_toArray, List.set_cons_zero, List.set_cons_succ])
          have d514 := (cell_of_row w7 g 514 _ _ _ hr7).trans (show _ = some v by rw [Array.getElem?_setIfInBounds_ne (by omega), Array.getElem?_setIfInBounds_ne (by omega)]; exact HE.out.cs)
          have zz := frozen_of_row w7 g 514 _ _ hr7
          refine held_stepS (i := 15) (by kernel_rfl) rfl (by rfl) ?_
          go_simp
          obtain ⟨W8, hW8⟩ : ∃ W8, W8 = w7.setCell ⟨g, 514, none⟩ (.slice (some ⟨gq, 0, none⟩) (t.out.length + 1) cq) := ⟨_, rfl⟩
          have hr8 : W8.heap[g]? = some (.cells (((C.setIfInBounds 0 (.int .i64 (wd' : Int))).setIfInBounds 513 (.int .i64 (l1 : Int))).setIfInBounds 514 (.slice (some ⟨gq, 0, none⟩) (t.out.length + 1) cq)) 126 (0, 0)) := by rw [hW8]; exact heap_setCell_same _ _ _ _ _ _ hr7
          have k513 : W8.cell? ⟨g, 513, none⟩ = some (.int .i64 (l1 : Int)) := (cell_of_row W8 g 513 _ _ _ hr8).trans (by rw [Array.getElem?_setIfInBounds_ne (by omega)]; exact hl513)
          have kz := frozen_of_row W8 g 513 _ _ hr8
          have HNX : Hid (ES (W8.setCell ⟨g, 513, none⟩ (.int .i64 (l2 : Int))) B g t.shw ∧ Below B w (W8.setCell ⟨g, 513, none⟩ (.int .i64 (l2 : Int)))) := by
            obtain ⟨a1, a2, a3, a4, _⟩ := HSH.out
            refine ⟨⟨_, _, by rw [a1, a2, a3, a4, hW8]; exact EA.shift HE.out.sz HE.out.cp HE.out.gB hr7 ho7⟩, ?_⟩
            rw [hW8]; exact (hb7.setCell (p := ⟨g, 514, none⟩) HE.out.gB _).setCell (p := ⟨g, 513, none⟩) HE.out.gB _
          rw [← hW8]
          refine ⟨by rw [HS8.out]; exact k513, ?_⟩
          (try simp only [List.getElem_toArray, List.getElem_cons_succ, List.getElem_cons_zero, Act.put, List.setIfInBounds_toArray, List.set_cons_zero, List.set_cons_succ])
          refine wpAnyH_done (by kernel_rfl) ?_ _
          have HM2 : Hid (widthAt g (W8.setCell ⟨g, 513, none⟩ (.int .i64 (l2 : Int))) = 16777216 - wd') := by
            have h0 : (W8.setCell ⟨g, 513, none⟩ (.int .i64 (l2 : Int))).cell? ⟨g, 0, none⟩ = some (.int .i64 (wd' : Int)) := by
              obtain ⟨⟨Cn, vn, hn⟩, _⟩ := HNX.out
              have := (cell_of_row _ g 0 _ _ _ hn.row).trans hn.c0
              rw [HSH.out.1] at this; exact this
            exact widthAt_eq h0
          have HM1 : Hid (widthAt g wr = 16777216 - wd) := widthAt_eq ((cell_of_row wr g 0 _ _ _ HE.out.row).trans HE.out.c0)
          clear hW8 hr8 hr7 hb7 hS7 ho7 hg7 hap d514 zz hSA hcv hcv2 hl513 hSd
          go_wp2_with fail
          go_roundw
          case rel => exact ⟨t.shw, HNX.out.1, HSH.out.2.2.2.2.1, HSH.out.2.2.2.2.2.1, HNX.out.2, Or.inr HSH.out.2.2.2.2.2.2⟩
          case measure => rw [HM2.out, HM1.out]; have := HWD.out; omega
        · go_simp
          refine ⟨hSA _, ?_⟩
          (try simp only [List.getElem_toArray, List.getElem_cons_succ, List.getElem_cons_zero, Act.put, List.setIfInBounds_toArray, List.set_cons_zero, List.set_cons_succ])
          refine held_stepS (i := 4) (by kernel_rfl) rfl (by rfl) ?_
          go_simp
          refine ⟨hSA _, ?_⟩
          (try simp only [List.getElem_toArray, List.getElem_cons_succ, List.getElem_cons_zero, Act.put, List.setIfInBounds_toArray, List.set_cons_zero, List.set_cons_succ])
          refine held_stepS (i := 12) (by kernel_rfl) rfl (by rfl) ?_
          refine wp_append_own _ (.tmp 49) (.tmp 56) 36 rfl B 5 i0 (.int .u8 0) 1 1 Try.underlying36 hi hz0 hz1 hz2 rfl (by decide) v t.out.length (byC t.out) rfl (World.ownsRow.kept (row := none) (show W2.drew.ownsRow B 5 1 v t.out.length (byC t.out) from HW2.out.2.1) (World.grownBy_alloc W2.drew (.cells #[.int .u8 (y : Int)] 5) none) (by cases e : v.ownBlock with | none => exact Or.inl rfl | some q => exact Or.inr (by simp))) ⟨W2.drew.heap.size, 0, none⟩ 1 1 [.int .u8 (y : Int)] rfl rfl (cell_one_new _ _ _) (by simp [Value.oneCell']) (by unfold maxLen; omega) (by omega) (by have := HW2.out.2.2.size; simp; show B ≤ W2.heap.size + 1; omega) ?_
          intro v' w7 ho7 hg7 _
          obtain ⟨gq, cq, rfl, _⟩ := owns_at ho7 (by omega)
          have hap : some g ≠ v.ownBlock := row_apartE (by decide) HW2.out.2.1 HW2.out.1
          have hr7 : w7.heap[g]? = some (.cells ((C.setIfInBounds 0 (.int .i64 (wd' : Int))).setIfInBounds 513 (.int .i64 (l1 : Int))) 126 (0, 0)) := (hg7.block g (by have := (Array.getElem?_eq_some_iff.1 HW2.out.1).1; simp; show g < W2.heap.size + 1; omega) hap).trans ((Below.heap_alloc _ _ _ (show g < W2.drew.heap.size from (Array.getElem?_eq_some_iff.1 HW2.out.1).1)).trans (show W2.drew.heap[g]? = _ from HW2.out.1))
          have hb7 : Below B w w7 := ((HW2.out.2.2.drew).alloc (by have := HW2.out.2.2.size; show B ≤ W2.heap.size; omega) _).grown hg7 (by have := HW2.out.2.2.size; simp; show B ≤ W2.heap.size + 1; omega) (fun k hk => (HW2.out.2.1.lt k hk).1)
          have hS7 : S w7 := by rw [HS8.out]; exact (cell_of_row w7 g 513 _ _ _ hr7).trans hl513
          refine ⟨hS7, ?_⟩
          (try simp only [List.getElem_toArray, List.getElem_cons_succ, List.getElem_cons_zero, Act.put, List.setIfInBounds_toArray, List.set_cons_zero, List.set_cons_succ])
          refine wpAnyH_take (i := 13) (v := .pointer (some ⟨g, 0, none⟩)) rfl (by kernel_rfl) (by kernel_rfl) (by kernel_rfl) (fun _ _ _ h => h) (Or.inl ⟨by rfl, by intro w' hS'; go_simp <;> (first | omega | (rw [IntKind.wrap_i64]; omega) | (rw [IntKind.wrap_u64]; omega) | (rw [IntKind.wrap_u32]; omega) | (rw [Int.tmod_eq_emod_of_nonneg (by omega)]))⟩) hS7 ?_
          (try simp only [List.getElem_toArray, List.getElem_cons_succ, List.getElem_cons_zero, Act.put, List.setIfInBounds_toArray, List.set_cons_zero, List.set_cons_succ])
          refine wpAnyH_take (i := 14) (v := .pointer (some ⟨g, 514, none⟩)) rfl (by kernel_rfl) (by kernel_rfl) (by kernel_rfl) (fun _ _ _ h => h) (Or.inl ⟨by rfl, by intro w' hS'; go_simp <;> (first | omega | (rw [IntKind.wrap_i64]; omega) | (rw [IntKind.wrap_u64]; omega) | (rw [IntKind.wrap_u32]; omega) | (rw [Int.tmod_eq_emod_of_nonneg (by omega)]))⟩) hS7 ?_
          (try simp only [List.getElem_toArray, List.getElem_cons_succ, List.getElem_cons_zero, Act.put, List.setIfInBounds_toArray, List.set_cons_zero, List.set_cons_succ])
          have d514 := (cell_of_row w7 g 514 _ _ _ hr7).trans (show _ = some v by rw [Array.getElem?_setIfInBounds_ne (by omega), Array.getElem?_setIfInBounds_ne (by omega)]; exact HE.out.cs)
          have zz := frozen_of_row w7 g 514 _ _ hr7
          refine held_stepS (i := 15) (by kernel_rfl) rfl (by rfl) ?_
          go_simp
          obtain ⟨W8, hW8⟩ : ∃ W8, W8 = w7.setCell ⟨g, 514, none⟩ (.slice (some ⟨gq, 0, none⟩) (t.out.length + 1) cq) := ⟨_, rfl⟩
          have hr8 : W8.heap[g]? = some (.cells (((C.setIfInBounds 0 (.int .i64 (wd' : Int))).setIfInBounds 513 (.int .i64 (l1 : Int))).setIfInBounds 514 (.slice (some ⟨gq, 0, none⟩) (t.out.length + 1) cq)) 126 (0, 0)) := by rw [hW8]; exact heap_setCell_same _ _ _ _ _ _ hr7
          have k513 : W8.cell? ⟨g, 513, none⟩ = some (.int .i64 (l1 : Int)) := (cell_of_row W8 g 513 _ _ _ hr8).trans (by rw [Array.getElem?_setIfInBounds_ne (by omega)]; exact hl513)
          have kz := frozen_of_row W8 g 513 _ _ hr8
          have HNX : Hid (ES (W8.setCell ⟨g, 513, none⟩ (.int .i64 (l2 : Int))) B g t.shw ∧ Below B w (W8.setCell ⟨g, 513, none⟩ (.int .i64 (l2 : Int)))) := by
            obtain ⟨a1, a2, a3, a4, _⟩ := HSH.out
            refine ⟨⟨_, _, by rw [a1, a2, a3, a4, hW8]; exact EA.shift HE.out.sz HE.out.cp HE.out.gB hr7 ho7⟩, ?_⟩
            rw [hW8]; exact (hb7.setCell (p := ⟨g, 514, none⟩) HE.out.gB _).setCell (p := ⟨g, 513, none⟩) HE.out.gB _
          rw [← hW8]
          refine ⟨by rw [HS8.out]; exact k513, ?_⟩
          (try simp only [List.getElem_toArray, List.getElem_cons_succ, List.getElem_cons_zero, Act.put, List.setIfInBounds_toArray, List.set_cons_zero, List.set_cons_succ])
          refine wpAnyH_done (by kernel_rfl) ?_ _
          have HM2 : Hid (widthAt g (W8.setCell ⟨g, 513, none⟩ (.int .i64 (l2 : Int))) = 16777216 - wd') := by
            have h0 : (W8.setCell ⟨g, 513, none⟩ (.int .i64 (l2 : Int))).cell? ⟨g, 0, none⟩ = some (.int .i64 (wd' : Int)) := by
              obtain ⟨⟨Cn, vn, hn⟩, _⟩ := HNX.out
              have := (cell_of_row _ g 0 _ _ _ hn.row).trans hn.c0
              rw [HSH.out.1] at this; exact this
            exact widthAt_eq h0
          have HM1 : Hid (widthAt g wr = 16777216 - wd) := widthAt_eq ((cell_of_row wr g 0 _ _ _ HE.out.row).trans HE.out.c0)
          clear hW8 hr8 hr7 hb7 hS7 ho7 hg7 hap d514 zz hSA hcv hcv2 hl513 hSd
          go_wp2_with fail
          go_roundw
          case rel => exact ⟨t.shw, HNX.out.1, HSH.out.2.2.2.2.1, HSH.out.2.2.2.2.2.1, HNX.out.2, Or.inr HSH.out.2.2.2.2.2.2⟩
          case measure => rw [HM2.out, HM1.out]; have := HWD.out; omega
      · have hge : ¬ (t.width : Int) < 16777216 := by omega
        have e1 : t.norm = t := norm_done (by omega)
        have HEND : Hid (ES wr B g (s.put x 0) ∧ Below B w wr) := by rw [← HS'.out, ← hN, e1]; exact ⟨⟨C, v, hE⟩, hB⟩
        clear hE hF hN hB hL e1 hlt
        generalize t.width = wd at *
        go_wp2_with fail
        go_end0
        exact ⟨⟨_, rfl⟩, HEND.out.1, HEND.out.2⟩
  · have e0 : ((1 : Nat) : Int) = 1 := rfl
    rw [e0] at HBOX3 ⊢
    have hb1 : w3.cell? ⟨w.heap.size, 1, none⟩ = some (.int .i64 1) := cell_of_row w3 _ 1 _ _ _ HBOX3.out
    have HADD : Hid (Calls Try.prog 98 #[.pointer (some ⟨g, 0, none⟩), .int .i64 (bd : Int)] w3 fun e w' => (∃ ve, e = .returned ve) ∧ (∃ C4, EA w' B g s.width ((s.pre x 1).low % 4294967296) s.probs (s.pre x 1).out C4 v) ∧ w'.heap[w.heap.size]? = some (.cells #[.int .i64 (x : Int), .int .i64 1] 108 (0, 0)) ∧ Below B w w') := by
      have hgb : w.heap.size ≠ g := by have := HGW.out; omega
      rcases add_state HF.out.1 HF.out.2 x with ⟨q1, q2, q3⟩ | ⟨q1, q2, q3, q4, q5⟩
      · rw [← HBDE.out] at q1 q2
        refine (add_small HE3.out q1).mono ?_
        rintro e w' ⟨hv, rfl⟩
        rw [q2, q3]
        exact ⟨hv, ⟨_, HE3.out.setlow _⟩, (heap_setCell_other _ _ _ _ hgb).trans HBOX3.out, HB3.out.setCell (p := ⟨g, 513, none⟩) HE3.out.gB _⟩
      · rw [← HBDE.out] at q1 q2
        have h3 := HE3.out
        have hl3 := HN.out
        rw [q4] at h3 hl3
        refine (add_carry h3 q3 (by simp at hl3; omega) (by omega) hbd2 q1).mono ?_
        rintro e w' ⟨⟨hv, C4, hC4⟩, hbB, hsz, hoth⟩
        rw [q2, q5]
        exact ⟨hv, ⟨C4, hC4⟩, (hoth _ hgb (row_apartE (by decide) HE3.out.own HBOX3.out)).trans HBOX3.out, ⟨hbB.os.trans HB3.out.os, hbB.tape.trans HB3.out.tape, hbB.output.trans HB3.out.output, Nat.le_trans HB3.out.size hbB.size, fun k hk => (hbB.block k hk).trans (HB3.out.block k hk)⟩⟩
    go_wp2_with fail
    refine HADD.out.mono ?_
    rintro e w4 ⟨⟨ve1, rfl⟩, ⟨C4, hE4⟩, hx4, hB4⟩
    have HE4 : Hid (EA w4 B g s.width ((s.pre x 1).low % 4294967296) s.probs (s.pre x 1).out C4 v) := hE4
    have HBOX4 : Hid (w4.heap[w.heap.size]? = some (.cells #[.int .i64 (x : Int), .int .i64 1] 108 (0, 0))) := hx4
    have HB4 : Hid (Below B w w4) := hB4
    clear hb1 HADD hE4 hx4 hB4 HE3 HBOX3 HB3 HSZ3
    have HNAR : Hid (Calls Try.prog 99 #[.pointer (some ⟨g, 0, none⟩), .agg #[.int .i64 (x : Int), .int .i64 1], .int .i64 (bd : Int)] w4.drew fun e w' => (∃ v, e = .returned v) ∧ w'.heap[g]? = some (.cells (narC C4 x (s.width - bd) (movP (s.probs x) 1)) 126 (0, 0)) ∧ w4.drew.grownBy w' (some g)) := narrow_one g s.width x (s.probs x) bd C4 _ w4.drew HF.out.1.w2 (by have := HF.out.1.bnd HF.out.2 x; have := HBDE.out; omega) hx (HF.out.1.pr x) HE4.out.row HE4.out.c0 (HE4.out.cp x hx)
    go_wp2_with fail
    obtain ⟨S, hSS⟩ : ∃ S : World → Prop, S = fun w' => w'.cell? ⟨w.heap.size, 0, none⟩ = some (.int .i64 (x : Int)) ∧ w'.cell? ⟨w.heap.size, 1, none⟩ = some (.int .i64 1) := ⟨_, rfl⟩
    have HS : Hid (S = fun w' => w'.cell? ⟨w.heap.size, 0, none⟩ = some (.int .i64 (x : Int)) ∧ w'.cell? ⟨w.heap.size, 1, none⟩ = some (.int .i64 1)) := hSS
    have hSd : S w4.drew := by rw [hSS]; exact ⟨cell_of_row w4 _ 0 _ _ _ HBOX4.out, cell_of_row w4 _ 1 _ _ _ HBOX4.out⟩
    have HX2 : Hid (∀ w', S w' → w'.cell? ⟨w.heap.size, 0, none⟩ = some (.int .i64 (x : Int)) ∧ w'.cell? ⟨w.heap.size, 1, none⟩ = some (.int .i64 1)) := fun w' h => by rw [hSS] at h; exact h
    clear hSS
    refine wp_region_held (S := S) (by kernel_rfl) ?_
    change wpAnyH _ _ _ _ _ _ _ _ (World.drew _)
    refine wpAnyH_take (i := 0) (v := .pointer (some ⟨g, 0, none⟩)) rfl (by kernel_rfl) (by kernel_rfl) (by kernel_rfl) (fun _ _ _ h => h) (Or.inl ⟨by rfl, by intro w' hS'; go_simp <;> (first | omega | (rw [IntKind.wrap_i64]; omega) | (rw [IntKind.wrap_u64]; omega) | (rw [IntKind.wrap_u32]; omega) | (rw [Int.tmod_eq_emod_of_nonneg (by omega)]))⟩) hSd ?_
    (try simp only [List.getElem_toArray, List.getElem_cons_succ, List.getElem_cons_zero, Act.put, List.setIfInBounds_toArray, List.set_cons_zero, List.set_cons_succ])
    refine wpAnyH_take (i := 1) (v := .pointer (some ⟨g, 0, none⟩)) rfl (by kernel_rfl) (by kernel_rfl) (by kernel_rfl) (fun _ _ _ h => h) (Or.inl ⟨by rfl, by intro w' hS'; go_simp <;> (first | omega | (rw [IntKind.wrap_i64]; omega) | (rw [IntKind.wrap_u64]; omega) | (rw [IntKind.wrap_u32]; omega) | (rw [Int.tmod_eq_emod_of_nonneg (by omega)]))⟩) hSd ?_
    (try simp only [List.getElem_toArray, List.getElem_cons_succ, List.getElem_cons_zero, Act.put, List.setIfInBounds_toArray, List.set_cons_zero, List.set_cons_succ])
    refine wpAnyH_take (i := 2) (v := .pointer (some ⟨g, 0, none⟩)) rfl (by kernel_rfl) (by kernel_rfl) (by kernel_rfl) (fun _ _ _ h => h) (Or.inl ⟨by rfl, by intro w' hS'; go_simp <;> (first | omega | (rw [IntKind.wrap_i64]; omega) | (rw [IntKind.wrap_u64]; omega) | (rw [IntKind.wrap_u32]; omega) | (rw [Int.tmod_eq_emod_of_nonneg (by omega)]))⟩) hSd ?_
    (try simp only [List.getElem_toArray, List.getElem_cons_succ, List.getElem_cons_zero, Act.put, List.setIfInBounds_toArray, List.set_cons_zero, List.set_cons_succ])
    refine wpAnyH_take (i := 3) (v := .agg #[.int .i64 (x : Int), .int .i64 1]) rfl (by kernel_rfl) (by kernel_rfl) (by kernel_rfl) (fun _ _ _ h => h) (Or.inl ⟨by rfl, by intro w' hS'; have hx0 := (HX2.out w' hS').1; have hx1 := (HX2.out w' hS').2; go_simp <;> (first | omega | (rw [IntKind.wrap_i64]; omega) | (rw [IntKind.wrap_u64]; omega) | (rw [IntKind.wrap_u32]; omega) | (rw [Int.tmod_eq_emod_of_nonneg (by omega)]))⟩) hSd ?_
    (try simp only [List.getElem_toArray, List.getElem_cons_succ, List.getElem_cons_zero, Act.put, List.setIfInBounds_toArray, List.set_cons_zero, List.set_cons_succ])
    refine wpAnyH_take (i := 4) (v := .int .i64 (bd : Int)) rfl (by kernel_rfl) (by kernel_rfl) (by kernel_rfl) (fun _ _ _ h => h) (Or.inl ⟨by rfl, by intro w' hS'; go_simp <;> (first | omega | (rw [IntKind.wrap_i64]; omega) | (rw [IntKind.wrap_u64]; omega) | (rw [IntKind.wrap_u32]; omega) | (rw [Int.tmod_eq_emod_of_nonneg (by omega)]))⟩) hSd ?_
    (try simp only [List.getElem_toArray, List.getElem_cons_succ, List.getElem_cons_zero, Act.put, List.setIfInBounds_toArray, List.set_cons_zero, List.set_cons_succ])
    refine held_stepS (i := 5) (by kernel_rfl) rfl (by rfl) ?_
    go_simp
    refine (HNAR.out).mono ?_
    rintro e w5 ⟨⟨ve, rfl⟩, hr5, hg5⟩
    have hbx5 : w5.heap[w.heap.size]? = some (.cells #[.int .i64 (x : Int), .int .i64 1] 108 (0, 0)) := (hg5.block _ (Array.getElem?_eq_some_iff.1 HBOX4.out).1 (by intro c; have := Option.some.inj c; have := HGW.out; omega)).trans HBOX4.out
    refine ⟨by rw [HS.out]; exact ⟨cell_of_row w5 _ 0 _ _ _ hbx5, cell_of_row w5 _ 1 _ _ _ hbx5⟩, ?_⟩
    (try simp only [List.getElem_toArray, List.getElem_cons_succ, List.getElem_cons_zero, Act.put, List.setIfInBounds_toArray, List.set_cons_zero, List.set_cons_succ])
    refine wpAnyH_done (by kernel_rfl) ?_ _
    have hg6 : w4.grownBy w5 (some g) := ⟨hg5.os, hg5.tape, hg5.output, hg5.size, hg5.block⟩
    have HE5 : Hid (ES w5 B g (s.pre x 1)) := ⟨_, v, by have h := HE4.out.narrow (w' := w5) hx hr5 hg6; rw [HBDE.out] at h; exact h⟩
    have HB5 : Hid (Below B w w5) := HB4.out.grown hg6 (by have := HB4.out.size; omega) (fun k e => by have e2 : g = k := Option.some.inj e; have := HE4.out.gB; omega)
    clear hr5 hg5 hg6 hbx5 hSd HX2 HS HNAR HE4 HBOX4 HB4
    obtain ⟨t0, ht0⟩ : ∃ t0, t0 = s.pre x 1 := ⟨_, rfl⟩
    obtain ⟨s', hs'⟩ : ∃ s', s' = s.put x 1 := ⟨_, rfl⟩
    have HT0 : Hid (t0.Fine ∧ t0.norm = s' ∧ 16777216 ≤ s'.width ∧ t0.out.length ≤ 900000) := by
      have h1 := HF.out.1.pre HF.out.2 x 1
      have h2 := HF.out.1.put HF.out.2 x 1
      refine ⟨by rw [ht0]; exact h1, by rw [ht0, hs']; rfl, by rw [hs']; exact h2.2, ?_⟩
      have e : (s.pre x 1).out.length = s.out.length := out_preL s x 1
      rw [ht0, e]; exact HN.out
    rw [← ht0] at HE5
    have HS' : Hid (s' = s.put x 1) := hs'
    clear ht0 hs'
    go_wp2_with fail
    go_loopw [] (fun wr => ∃ t : RS, ES wr B g t ∧ t.Fine ∧ t.norm = s' ∧ Below B w wr ∧ (t.out.length ≤ 900000 ∨ (t.out.length ≤ 900001 ∧ 2097152 ≤ t.width) ∨ (t.out.length ≤ 900002 ∧ 16777216 ≤ t.width))) (fun wr => widthAt g wr)
    case atStart => exact ⟨t0, HE5.out, HT0.out.1, HT0.out.2.1, HB5.out, Or.inl HT0.out.2.2.2⟩
    case round =>
      obtain ⟨t, ⟨C, v, hE⟩, hF, hN, hB, hL⟩ := hrel
      have c0 : wr.cell? ⟨g, 0, none⟩ = some (.int .i64 (t.width : Int)) := (cell_of_row wr g 0 _ _ _ hE.row).trans hE.c0
      have hw1 := hF.w1
      have hw2 := hF.w2
      by_cases hlt : t.width < 16777216
      · have hltI : (t.width : Int) < 16777216 := by omega
        have c513 : wr.cell? ⟨g, 513, none⟩ = some (.int .i64 ((t.low % 4294967296 : Nat) : Int)) := (cell_of_row wr g 513 _ _ _ hE.row).trans hE.cl
        have z0 := frozen_of_row wr g 0 _ _ hE.row
        have z513 := frozen_of_row wr g 513 _ _ hE.row
        have z514 := frozen_of_row wr g 514 _ _ hE.row
        have c514 : wr.cell? ⟨g, 514, none⟩ = some v := (cell_of_row wr g 514 _ _ _ hE.row).trans hE.cs
        obtain ⟨so1, so2⟩ := sh_out hF.many
        have HSH : Hid (t.shw.width = t.width * 256 ∧ t.shw.low % 4294967296 = t.low % 4294967296 * 256 % 4294967296 ∧ t.shw.out = t.out ++ [t.low % 4294967296 / 16777216] ∧ t.shw.probs = t.probs ∧ t.shw.Fine ∧ t.shw.norm = s' ∧ ((t.shw.out.length ≤ 900001 ∧ 2097152 ≤ t.shw.width) ∨ (t.shw.out.length ≤ 900002 ∧ 16777216 ≤ t.shw.width))) := by
          have e2 : t.shw.low = t.sh.low := rfl
          have e3 : t.shw.out = t.sh.out := rfl
          refine ⟨rfl, by rw [e2, so2]; omega, by rw [e3, so1], by unfold RS.shw RS.sh; split <;> rfl, hF.shw hlt, (norm_step hF hlt).trans hN, ?_⟩
          rw [e3, so1, shw_width, List.length_append]
          simp only [List.length_cons, List.length_nil]
          omega
        have hol : t.out.length ≤ 900001 := by omega
        have HE : Hid (EA wr B g t.width (t.low % 4294967296) t.probs t.out C v) := hE
        have HBW : Hid (Below B w wr) := hB
        have hB2 := hB.size
        obtain ⟨wd, hwd⟩ : ∃ wd, wd = t.width := ⟨_, rfl⟩
        obtain ⟨lo, hlo⟩ : ∃ lo, lo = t.low % 4294967296 := ⟨_, rfl⟩
        have hlo2 : lo < 4294967296 := by omega
        rw [← hwd] at c0 hltI hw1 HE HSH hlt
        rw [← hlo] at c513 HE HSH
        obtain ⟨wd', hwd'⟩ : ∃ wd', wd' = wd * 256 := ⟨_, rfl⟩
        obtain ⟨l1, hl1⟩ : ∃ l1, l1 = lo * 256 := ⟨_, rfl⟩
        obtain ⟨l2, hl2⟩ : ∃ l2, l2 = lo * 256 % 4294967296 := ⟨_, rfl⟩
        obtain ⟨y, hy⟩ : ∃ y, y = lo / 16777216 := ⟨_, rfl⟩
        have f1 : IntKind.i64.wrap ((wd : Int) * 256) = (wd' : Int) := by rw [IntKind.wrap_i64]; omega
        have f2 : IntKind.i64.wrap ((lo : Int) * 256) = (l1 : Int) := by rw [IntKind.wrap_i64]; omega
        have f1b : (wd : Int) * 256 = (wd' : Int) := by omega
        have f2b : (lo : Int) * 256 = (l1 : Int) := by omega
        have f3 : (l1 : Int) / 4294967296 = (y : Int) := by omega
        have f4 : bits .and .i64 (l1 : Int) 4294967295 = (l2 : Int) := by rw [i64_and32 _ (by omega)]; omega
        have f5 : y < 256 := by omega
        have f6 : l1 < 1099511627776 := by omega
        have f7 : IntKind.u8.wrap (y : Int) = (y : Int) := by rw [IntKind.wrap_u8]; omega
        rw [← hwd', ← hl2, ← hy] at HSH
        have HWD : Hid (wd' = wd * 256 ∧ 8192 ≤ wd ∧ wd < 16777216) := ⟨hwd', by omega, hlt⟩
        obtain ⟨W2, hW2⟩ : ∃ W2, W2 = (wr.setCell ⟨g, 0, none⟩ (.int .i64 (wd' : Int))).setCell ⟨g, 513, none⟩ (.int .i64 (l1 : Int)) := ⟨_, rfl⟩
        have hr2 : W2.heap[g]? = some (.cells ((C.setIfInBounds 0 (.int .i64 (wd' : Int))).setIfInBounds 513 (.int .i64 (l1 : Int))) 126 (0, 0)) := by rw [hW2]; exact heap_setCell_same _ _ _ _ _ _ (heap_setCell_same _ _ _ _ _ _ HE.out.row)
        have hap : some g ≠ v.ownBlock := row_apartE (by decide) HE.out.own HE.out.row
        have ho2 : W2.ownsRow B 5 1 v t.out.length (byC t.out) := by rw [hW2]; exact (HE.out.own.kept (grownBy_setC _ g 0 _) (Or.inr (fun e => hap e.symm))).kept (grownBy_setC _ g 513 _) (Or.inr (fun e => hap e.symm))
        have hb2 : Below B w W2 := by rw [hW2]; exact (HBW.out.setCell (p := ⟨g, 0, none⟩) HE.out.gB _).setCell (p := ⟨g, 513, none⟩) HE.out.gB _
        have HW2 : Hid (W2.heap[g]? = some (.cells ((C.setIfInBounds 0 (.int .i64 (wd' : Int))).setIfInBounds 513 (.int .i64 (l1 : Int))) 126 (0, 0)) ∧ W2.ownsRow B 5 1 v t.out.length (byC t.out) ∧ Below B w W2) := ⟨hr2, ho2, hb2⟩
        have HCV : Hid (W2.cell? ⟨g, 514, none⟩ = some v) := by rw [hW2]; exact (cell_of_row _ g 514 _ _ _ (by rw [← hW2]; exact hr2)).trans (by rw [Array.getElem?_setIfInBounds_ne (by omega), Array.getElem?_setIfInBounds_ne (by omega)]; exact HE.out.cs)
        have HWE : Hid _ := hW2
        clear hE hF hN hB hL so1 so2 hwd hlo hwd' hl1 hl2 hy hr2 ho2 hb2 hap hlt hW2 c514 hw2
        go_wp2_with fail
        rw [← HWE.out]
        clear c0 c513 z0 z513 z514
        obtain ⟨S, hSS⟩ : ∃ S : World → Prop, S = fun w' => w'.cell? ⟨g, 513, none⟩ = some (.int .i64 (l1 : Int)) := ⟨_, rfl⟩
        have HS8 : Hid (S = fun w' => w'.cell? ⟨g, 513, none⟩ = some (.int .i64 (l1 : Int))) := hSS
        have hl513 : ((C.setIfInBounds 0 (.int .i64 (wd' : Int))).setIfInBounds 513 (.int .i64 (l1 : Int)))[513]? = some (.int .i64 (l1 : Int)) := by rw [Array.getElem?_setIfInBounds_self_of_lt (by simp [HE.out.sz])]
        have hSd : S W2.drew := by rw [hSS]; exact (cell_of_row W2 g 513 _ _ _ HW2.out.1).trans hl513
        have HXL : Hid (∀ w', S w' → w'.cell? ⟨g, 513, none⟩ = some (.int .i64 (l1 : Int))) := fun w' h => by rw [hSS] at h; exact h
        have hSA : ∀ o, S (W2.drew.alloc o) := fun o => by rw [hSS]; exact (cell_of_row _ g 513 _ _ _ ((Below.heap_alloc _ _ _ (show g < W2.drew.heap.size from (Array.getElem?_eq_some_iff.1 HW2.out.1).1)).trans (show W2.drew.heap[g]? = _ from HW2.out.1))).trans hl513
        have hcv : W2.cell? ⟨g, 514, none⟩ = some v := HCV.out
        have hcv2 : (W2.alloc (.cells #[.int .u8 (y : Int)] 5)).cell? ⟨g, 514, none⟩ = some v := (World.cell?_of_block (a := ⟨g, 514, none⟩) (Below.heap_alloc W2 _ g (Array.getElem?_eq_some_iff.1 HW2.out.1).1)).trans HCV.out
        obtain ⟨i0, hi, hz0, hz1, hz2⟩ := info_parts Try.infU8
        clear hSS
        refine wp_region_held (S := S) (by kernel_rfl) ?_
        change wpAnyH _ _ _ _ _ _ _ _ (World.drew _)
        refine wpAnyH_take (i := 0) (v := .pointer (some ⟨g, 0, none⟩)) rfl (by kernel_rfl) (by kernel_rfl) (by kernel_rfl) (fun _ _ _ h => h) (Or.inl ⟨by rfl, by intro w' hS'; go_simp <;> (first | omega | (rw [IntKind.wrap_i64]; omega) | (rw [IntKind.wrap_u64]; omega) | (rw [IntKind.wrap_u32]; omega) | (rw [Int.tmod_eq_emod_of_nonneg (by omega)]))⟩) hSd ?_
        (try simp only [List.getElem_toArray, List.getElem_cons_succ, List.getElem_cons_zero, Act.put, List.setIfInBounds_toArray, List.set_cons_zero, List.set_cons_succ])
        refine wpAnyH_take (i := 1) (v := .pointer (some ⟨g, 0, none⟩)) rfl (by kernel_rfl) (by kernel_rfl) (by kernel_rfl) (fun _ _ _ h => h) (Or.inl ⟨by rfl, by intro w' hS'; go_simp <;> (first | omega | (rw [IntKind.wrap_i64]; omega) | (rw [IntKind.wrap_u64]; omega) | (rw [IntKind.wrap_u32]; omega) | (rw [Int.tmod_eq_emod_of_nonneg (by omega)]))⟩) hSd ?_
        (try simp only [List.getElem_toArray, List.getElem_cons_succ, List.getElem_cons_zero, Act.put, List.setIfInBounds_toArray, List.set_cons_zero, List.set_cons_succ])
        refine wpAnyH_take (i := 2) (v := .pointer (some ⟨g, 0, none⟩)) rfl (by kernel_rfl) (by kernel_rfl) (by kernel_rfl) (fun _ _ _ h => h) (Or.inl ⟨by rfl, by intro w' hS'; go_simp <;> (first | omega | (rw [IntKind.wrap_i64]; omega) | (rw [IntKind.wrap_u64]; omega) | (rw [IntKind.wrap_u32]; omega) | (rw [Int.tmod_eq_emod_of_nonneg (by omega)]))⟩) hSd ?_
        (try simp only [List.getElem_toArray, List.getElem_cons_succ, List.getElem_cons_zero, Act.put, List.setIfInBounds_toArray, List.set_cons_zero, List.set_cons_succ])
        refine wpAnyH_take (i := 3) (v := .pointer (some ⟨g, 514, none⟩)) rfl (by kernel_rfl) (by kernel_rfl) (by kernel_rfl) (fun _ _ _ h => h) (Or.inl ⟨by rfl, by intro w' hS'; go_simp <;> (first | omega | (rw [IntKind.wrap_i64]; omega) | (rw [IntKind.wrap_u64]; omega) | (rw [IntKind.wrap_u32]; omega) | (rw [Int.tmod_eq_emod_of_nonneg (by omega)]))⟩) hSd ?_
        (try simp only [List.getElem_toArray, List.getElem_cons_succ, List.getElem_cons_zero, Act.put, List.setIfInBounds_toArray, List.set_cons_zero, List.set_cons_succ])
        refine wpAnyH_take (i := 5) (v := .pointer (some ⟨g, 0, none⟩)) rfl (by kernel_rfl) (by kernel_rfl) (by kernel_rfl) (fun _ _ _ h => h) (Or.inl ⟨by rfl, by intro w' hS'; go_simp <;> (first | omega | (rw [IntKind.wrap_i64]; omega) | (rw [IntKind.wrap_u64]; omega) | (rw [IntKind.wrap_u32]; omega) | (rw [Int.tmod_eq_emod_of_nonneg (by omega)]))⟩) hSd ?_
        (try simp only [List.getElem_toArray, List.getElem_cons_succ, List.getElem_cons_zero, Act.put, List.setIfInBounds_toArray, List.set_cons_zero, List.set_cons_succ])
        refine wpAnyH_take (i := 6) (v := .pointer (some ⟨g, 0, none⟩)) rfl (by kernel_rfl) (by kernel_rfl) (by kernel_rfl) (fun _ _ _ h => h) (Or.inl ⟨by rfl, by intro w' hS'; go_simp <;> (first | omega | (rw [IntKind.wrap_i64]; omega) | (rw [IntKind.wrap_u64]; omega) | (rw [IntKind.wrap_u32]; omega) | (rw [Int.tmod_eq_emod_of_nonneg (by omega)]))⟩) hSd ?_
        (try simp only [List.getElem_toArray, List.getElem_cons_succ, List.getElem_cons_zero, Act.put, List.setIfInBounds_toArray, List.set_cons_zero, List.set_cons_succ])
        refine wpAnyH_take (i := 7) (v := .pointer (some ⟨g, 513, none⟩)) rfl (by kernel_rfl) (by kernel_rfl) (by kernel_rfl) (fun _ _ _ h => h) (Or.inl ⟨by rfl, by intro w' hS'; go_simp <;> (first | omega | (rw [IntKind.wrap_i64]; omega) | (rw [IntKind.wrap_u64]; omega) | (rw [IntKind.wrap_u32]; omega) | (rw [Int.tmod_eq_emod_of_nonneg (by omega)]))⟩) hSd ?_
        (try simp only [List.getElem_toArray, List.getElem_cons_succ, List.getElem_cons_zero, Act.put, List.setIfInBounds_toArray, List.set_cons_zero, List.set_cons_succ])
        refine wpAnyH_take (i := 8) (v := .int .i64 (l1 : Int)) rfl (by kernel_rfl) (by kernel_rfl) (by kernel_rfl) (fun _ _ _ h => h) (Or.inl ⟨by rfl, by intro w' hS'; have hxx := HXL.out w' hS'; go_simp <;> (first | omega | (rw [IntKind.wrap_i64]; omega) | (rw [IntKind.wrap_u64]; omega) | (rw [IntKind.wrap_u32]; omega) | (rw [Int.tmod_eq_emod_of_nonneg (by omega)]))⟩) hSd ?_
        (try simp only [List.getElem_toArray, List.getElem_cons_succ, List.getElem_cons_zero, Act.put, List.setIfInBounds_toArray, List.set_cons_zero, List.set_cons_succ])
        refine wpAnyH_take (i := 9) (v := .int .i64 (y : Int)) rfl (by kernel_rfl) (by kernel_rfl) (by kernel_rfl) (fun _ _ _ h => h) (Or.inl ⟨by rfl, by intro w' hS'; go_simp <;> (first | omega | (rw [IntKind.wrap_i64]; omega) | (rw [IntKind.wrap_u64]; omega) | (rw [IntKind.wrap_u32]; omega) | (rw [Int.tmod_eq_emod_of_nonneg (by omega)]))⟩) hSd ?_
        (try simp only [List.getElem_toArray, List.getElem_cons_succ, List.getElem_cons_zero, Act.put, List.setIfInBounds_toArray, List.set_cons_zero, List.set_cons_succ])
        refine wpAnyH_take (i := 10) (v := .int .u8 (y : Int)) rfl (by kernel_rfl) (by kernel_rfl) (by kernel_rfl) (fun _ _ _ h => h) (Or.inl ⟨by rfl, by intro w' hS'; go_simp <;> (first | omega | (rw [IntKind.wrap_i64]; omega) | (rw [IntKind.wrap_u64]; omega) | (rw [IntKind.wrap_u32]; omega) | (rw [Int.tmod_eq_emod_of_nonneg (by omega)]))⟩) hSd ?_
        (try simp only [List.getElem_toArray, List.getElem_cons_succ, List.getElem_cons_zero, Act.put, List.setIfInBounds_toArray, List.set_cons_zero, List.set_cons_succ])
        refine held_two (i := 4) (k := 11) (by kernel_rfl) rfl rfl (by rfl) (by rfl) ?_ ?_
        · go_simp
          refine ⟨hSd, ?_⟩
          (try simp only [List.getElem_toArray, List.getElem_cons_succ, List.getElem_cons_zero, Act.put, List.setIfInBounds_toArray, List.set_cons_zero, List.set_cons_succ])
          refine held_stepS (i := 11) (by kernel_rfl) rfl (by rfl) ?_
          go_simp
          refine ⟨hSA _, ?_⟩
          (try simp only [List.getElem_toArray, List.getElem_cons_succ, List.getElem_cons_zero, Act.put, List.setIfInBounds_toArray, List.set_cons_zero, List.set_cons_succ])
          refine held_stepS (i := 12) (by kernel_rfl) rfl (by rfl) ?_
          refine wp_append_own _ (.tmp 49) (.tmp 56) 36 rfl B 5 i0 (.int .u8 0) 1 1 Try.underlying36 hi hz0 hz1 hz2 rfl (by decide) v t.out.length (byC t.out) rfl (World.ownsRow.kept (row := none) (show W2.drew.ownsRow B 5 1 v t.out.length (byC t.out) from HW2.out.2.1) (World.grownBy_alloc W2.drew (.cells #[.int .u8 (y : Int)] 5) none) (by cases e : v.ownBlock with | none => exact Or.inl rfl | some q => exact Or.inr (by simp))) ⟨W2.drew.heap.size, 0, none⟩ 1 1 [.int .u8 (y : Int)] rfl rfl (cell_one_new _ _ _) (by simp [Value.oneCell']) (by unfold maxLen; omega) (by omega) (by have := HW2.out.2.2.size; simp; show B ≤ W2.heap.size + 1; omega) ?_
          intro v' w7 ho7 hg7 _
          obtain ⟨gq, cq, rfl, _⟩ := owns_at ho7 (by omega)
          have hap : some g ≠ v.ownBlock := row_apartE (by decide) HW2.out.2.1 HW2.out.1
          have hr7 : w7.heap[g]? = some (.cells ((C.setIfInBounds 0 (.int .i64 (wd' : Int))).setIfInBounds 513 (.int .i64 (l1 : Int))) 126 (0, 0)) := (hg7.block g (by have := (Array.getElem?_eq_some_iff.1 HW2.out.1).1; simp; show g < W2.heap.size + 1; omega) hap).trans ((Below.heap_alloc _ _ _ (show g < W2.drew.heap.size from (Array.getElem?_eq_some_iff.1 HW2.out.1).1)).trans (show W2.drew.heap[g]? = _ from HW2.out.1))
          have hb7 : Below B w w7 := ((HW2.out.2.2.drew).alloc (by have := HW2.out.2.2.size; show B ≤ W2.heap.size; omega) _).grown hg7 (by have := HW2.out.2.2.size; simp; show B ≤ W2.heap.size + 1; omega) (fun k hk => (HW2.out.2.1.lt k hk).1)
          have hS7 : S w7 := by rw [HS8.out]; exact (cell_of_row w7 g 513 _ _ _ hr7).trans hl513
          refine ⟨hS7, ?_⟩
          (try simp only [List.getElem_toArray, List.getElem_cons_succ, List.getElem_cons_zero, Act.put, List.setIfInBounds_toArray, List.set_cons_zero, List.set_cons_succ])
          refine wpAnyH_take (i := 13) (v := .pointer (some ⟨g, 0, none⟩)) rfl (by kernel_rfl) (by kernel_rfl) (by kernel_rfl) (fun _ _ _ h => h) (Or.inl ⟨by rfl, by intro w' hS'; go_simp <;> (first | omega | (rw [IntKind.wrap_i64]; omega) | (rw [IntKind.wrap_u64]; omega) | (rw [IntKind.wrap_u32]; omega) | (rw [Int.tmod_eq_emod_of_nonneg (by omega)]))⟩) hS7 ?_
          (try simp only [List.getElem_toArray, List.getElem_cons_succ, List.getElem_cons_zero, Act.put, List.setIfInBounds_toArray, List.set_cons_zero, List.set_cons_succ])
          refine wpAnyH_take (i := 14) (v := .pointer (some ⟨g, 514, none⟩)) rfl (by kernel_rfl) (by kernel_rfl) (by kernel_rfl) (fun _ _ _ h => h) (Or.inl ⟨by rfl, by intro w' hS'; go_simp <;> (first | omega | (rw [IntKind.wrap_i64]; omega) | (rw [IntKind.wrap_u64]; omega) | (rw [IntKind.wrap_u32]; omega) | (rw [Int.tmod_eq_emod_of_nonneg (by omega)]))⟩) hS7 ?_
          (try simp only [List.getElem_toArray, List.getElem_cons_succ, List.getElem_cons_zero, Act.put, List.setIfInBounds_toArray, List.set_cons_zero, List.set_cons_succ])
          have d514 := (cell_of_row w7 g 514 _ _ _ hr7).trans (show _ = some v by rw [Array.getElem?_setIfInBounds_ne (by omega), Array.getElem?_setIfInBounds_ne (by omega)]; exact HE.out.cs)
          have zz := frozen_of_row w7 g 514 _ _ hr7
          refine held_stepS (i := 15) (by kernel_rfl) rfl (by rfl) ?_
          go_simp
          obtain ⟨W8, hW8⟩ : ∃ W8, W8 = w7.setCell ⟨g, 514, none⟩ (.slice (some ⟨gq, 0, none⟩) (t.out.length + 1) cq) := ⟨_, rfl⟩
          have hr8 : W8.heap[g]? = some (.cells (((C.setIfInBounds 0 (.int .i64 (wd' : Int))).setIfInBounds 513 (.int .i64 (l1 : Int))).setIfInBounds 514 (.slice (some ⟨gq, 0, none⟩) (t.out.length + 1) cq)) 126 (0, 0)) := by rw [hW8]; exact heap_setCell_same _ _ _ _ _ _ hr7
          have k513 : W8.cell? ⟨g, 513, none⟩ = some (.int .i64 (l1 : Int)) := (cell_of_row W8 g 513 _ _ _ hr8).trans (by rw [Array.getElem?_setIfInBounds_ne (by omega)]; exact hl513)
          have kz := frozen_of_row W8 g 513 _ _ hr8
          have HNX : Hid (ES (W8.setCell ⟨g, 513, none⟩ (.int .i64 (l2 : Int))) B g t.shw ∧ Below B w (W8.setCell ⟨g, 513, none⟩ (.int .i64 (l2 : Int)))) := by
            obtain ⟨a1, a2, a3, a4, _⟩ := HSH.out
            refine ⟨⟨_, _, by rw [a1, a2, a3, a4, hW8]; exact EA.shift HE.out.sz HE.out.cp HE.out.gB hr7 ho7⟩, ?_⟩
            rw [hW8]; exact (hb7.setCell (p := ⟨g, 514, none⟩) HE.out.gB _).setCell (p := ⟨g, 513, none⟩) HE.out.gB _
          rw [← hW8]
          refine ⟨by rw [HS8.out]; exact k513, ?_⟩
          (try simp only [List.getElem_toArray, List.getElem_cons_succ, List.getElem_cons_zero, Act.put, List.setIfInBounds_toArray, List.set_cons_zero, List.set_cons_succ])
          refine wpAnyH_done (by kernel_rfl) ?_ _
          have HM2 : Hid (widthAt g (W8.setCell ⟨g, 513, none⟩ (.int .i64 (l2 : Int))) = 16777216 - wd') := by
            have h0 : (W8.setCell ⟨g, 513, none⟩ (.int .i64 (l2 : Int))).cell? ⟨g, 0, none⟩ = some (.int .i64 (wd' : Int)) := by
              obtain ⟨⟨Cn, vn, hn⟩, _⟩ := HNX.out
              have := (cell_of_row _ g 0 _ _ _ hn.row).trans hn.c0
              rw [HSH.out.1] at this; exact this
            exact widthAt_eq h0
          have HM1 : Hid (widthAt g wr = 16777216 - wd) := widthAt_eq ((cell_of_row wr g 0 _ _ _ HE.out.row).trans HE.out.c0)
          clear hW8 hr8 hr7 hb7 hS7 ho7 hg7 hap d514 zz hSA hcv hcv2 hl513 hSd
          go_wp2_with fail
          go_roundw
          case rel => exact ⟨t.shw, HNX.out.1, HSH.out.2.2.2.2.1, HSH.out.2.2.2.2.2.1, HNX.out.2, Or.inr HSH.out.2.2.2.2.2.2⟩
          case measure => rw [HM2.out, HM1.out]; have := HWD.out; omega
        · go_simp
          refine ⟨hSA _, ?_⟩
          (try simp only [List.getElem_toArray, List.getElem_cons_succ, List.getElem_cons_zero, Act.put, List.setIfInBounds_toArray, List.set_cons_zero, List.set_cons_succ])
          refine held_stepS (i := 4) (by kernel_rfl) rfl (by rfl) ?_
          go_simp
          refine ⟨hSA _, ?_⟩
          (try simp only [List.getElem_toArray, List.getElem_cons_succ, List.getElem_cons_zero, Act.put, List.setIfInBounds_toArray, List.set_cons_zero, List.set_cons_succ])
          refine held_stepS (i := 12) (by kernel_rfl) rfl (by rfl) ?_
          refine wp_append_own _ (.tmp 49) (.tmp 56) 36 rfl B 5 i0 (.int .u8 0) 1 1 Try.underlying36 hi hz0 hz1 hz2 rfl (by decide) v t.out.length (byC t.out) rfl (World.ownsRow.kept (row := none) (show W2.drew.ownsRow B 5 1 v t.out.length (byC t.out) from HW2.out.2.1) (World.grownBy_alloc W2.drew (.cells #[.int .u8 (y : Int)] 5) none) (by cases e : v.ownBlock with | none => exact Or.inl rfl | some q => exact Or.inr (by simp))) ⟨W2.drew.heap.size, 0, none⟩ 1 1 [.int .u8 (y : Int)] rfl rfl (cell_one_new _ _ _) (by simp [Value.oneCell']) (by unfold maxLen; omega) (by omega) (by have := HW2.out.2.2.size; simp; show B ≤ W2.heap.size + 1; omega) ?_
          intro v' w7 ho7 hg7 _
          obtain ⟨gq, cq, rfl, _⟩ := owns_at ho7 (by omega)
          have hap : some g ≠ v.ownBlock := row_apartE (by decide) HW2.out.2.1 HW2.out.1
          have hr7 : w7.heap[g]? = some (.cells ((C.setIfInBounds 0 (.int .i64 (wd' : Int))).setIfInBounds 513 (.int .i64 (l1 : Int))) 126 (0, 0)) := (hg7.block g (by have := (Array.getElem?_eq_some_iff.1 HW2.out.1).1; simp; show g < W2.heap.size + 1; omega) hap).trans ((Below.heap_alloc _ _ _ (show g < W2.drew.heap.size from (Array.getElem?_eq_some_iff.1 HW2.out.1).1)).trans (show W2.drew.heap[g]? = _ from HW2.out.1))
          have hb7 : Below B w w7 := ((HW2.out.2.2.drew).alloc (by have := HW2.out.2.2.size; show B ≤ W2.heap.size; omega) _).grown hg7 (by have := HW2.out.2.2.size; simp; show B ≤ W2.heap.size + 1; omega) (fun k hk => (HW2.out.2.1.lt k hk).1)
          have hS7 : S w7 := by rw [HS8.out]; exact (cell_of_row w7 g 513 _ _ _ hr7).trans hl513
          refine ⟨hS7, ?_⟩
          (try simp only [List.getElem_toArray, List.getElem_cons_succ, List.getElem_cons_zero, Act.put, List.setIfInBounds_toArray, List.set_cons_zero, List.set_cons_succ])
          refine wpAnyH_take (i := 13) (v := .pointer (some ⟨g, 0, none⟩)) rfl (by kernel_rfl) (by kernel_rfl) (by kernel_rfl) (fun _ _ _ h => h) (Or.inl ⟨by rfl, by intro w' hS'; go_simp <;> (first | omega | (rw [IntKind.wrap_i64]; omega) | (rw [IntKind.wrap_u64]; omega) | (rw [IntKind.wrap_u32]; omega) | (rw [Int.tmod_eq_emod_of_nonneg (by omega)]))⟩) hS7 ?_
          (try simp only [List.getElem_toArray, List.getElem_cons_succ, List.getElem_cons_zero, Act.put, List.setIfInBounds_toArray, List.set_cons_zero, List.set_cons_succ])
          refine wpAnyH_take (i := 14) (v := .pointer (some ⟨g, 514, none⟩)) rfl (by kernel_rfl) (by kernel_rfl) (by kernel_rfl) (fun _ _ _ h => h) (Or.inl ⟨by rfl, by intro w' hS'; go_simp <;> (first | omega | (rw [IntKind.wrap_i64]; omega) | (rw [IntKind.wrap_u64]; omega) | (rw [IntKind.wrap_u32]; omega) | (rw [Int.tmod_eq_emod_of_nonneg (by omega)]))⟩) hS7 ?_
          (try simp only [List.getElem_toArray, List.getElem_cons_succ, List.getElem_cons_zero, Act.put, List.setIfInBounds_toArray, List.set_cons_zero, List.set_cons_succ])
          have d514 := (cell_of_row w7 g 514 _ _ _ hr7).trans (show _ = some v by rw [Array.getElem?_setIfInBounds_ne (by omega), Array.getElem?_setIfInBounds_ne (by omega)]; exact HE.out.cs)
          have zz := frozen_of_row w7 g 514 _ _ hr7
          refine held_stepS (i := 15) (by kernel_rfl) rfl (by rfl) ?_
          go_simp
          obtain ⟨W8, hW8⟩ : ∃ W8, W8 = w7.setCell ⟨g, 514, none⟩ (.slice (some ⟨gq, 0, none⟩) (t.out.length + 1) cq) := ⟨_, rfl⟩
          have hr8 : W8.heap[g]? = some (.cells (((C.setIfInBounds 0 (.int .i64 (wd' : Int))).setIfInBounds 513 (.int .i64 (l1 : Int))).setIfInBounds 514 (.slice (some ⟨gq, 0, none⟩) (t.out.length + 1) cq)) 126 (0, 0)) := by rw [hW8]; exact heap_setCell_same _ _ _ _ _ _ hr7
          have k513 : W8.cell? ⟨g, 513, none⟩ = some (.int .i64 (l1 : Int)) := (cell_of_row W8 g 513 _ _ _ hr8).trans (by rw [Array.getElem?_setIfInBounds_ne (by omega)]; exact hl513)
          have kz := frozen_of_row W8 g 513 _ _ hr8
          have HNX : Hid (ES (W8.setCell ⟨g, 513, none⟩ (.int .i64 (l2 : Int))) B g t.shw ∧ Below B w (W8.setCell ⟨g, 513, none⟩ (.int .i64 (l2 : Int)))) := by
            obtain ⟨a1, a2, a3, a4, _⟩ := HSH.out
            refine ⟨⟨_, _, by rw [a1, a2, a3, a4, hW8]; exact EA.shift HE.out.sz HE.out.cp HE.out.gB hr7 ho7⟩, ?_⟩
            rw [hW8]; exact (hb7.setCell (p := ⟨g, 514, none⟩) HE.out.gB _).setCell (p := ⟨g, 513, none⟩) HE.out.gB _
          rw [← hW8]
          refine ⟨by rw [HS8.out]; exact k513, ?_⟩
          (try simp only [List.getElem_toArray, List.getElem_cons_succ, List.getElem_cons_zero, Act.put, List.setIfInBounds_toArray, List.set_cons_zero, List.set_cons_succ])
          refine wpAnyH_done (by kernel_rfl) ?_ _
          have HM2 : Hid (widthAt g (W8.setCell ⟨g, 513, none⟩ (.int .i64 (l2 : Int))) = 16777216 - wd') := by
            have h0 : (W8.setCell ⟨g, 513, none⟩ (.int .i64 (l2 : Int))).cell? ⟨g, 0, none⟩ = some (.int .i64 (wd' : Int)) := by
              obtain ⟨⟨Cn, vn, hn⟩, _⟩ := HNX.out
              have := (cell_of_row _ g 0 _ _ _ hn.row).trans hn.c0
              rw [HSH.out.1] at this; exact this
            exact widthAt_eq h0
          have HM1 : Hid (widthAt g wr = 16777216 - wd) := widthAt_eq ((cell_of_row wr g 0 _ _ _ HE.out.row).trans HE.out.c0)
          clear hW8 hr8 hr7 hb7 hS7 ho7 hg7 hap d514 zz hSA hcv hcv2 hl513 hSd
          go_wp2_with fail
          go_roundw
          case rel => exact ⟨t.shw, HNX.out.1, HSH.out.2.2.2.2.1, HSH.out.2.2.2.2.2.1, HNX.out.2, Or.inr HSH.out.2.2.2.2.2.2⟩
          case measure => rw [HM2.out, HM1.out]; have := HWD.out; omega
      · have hge : ¬ (t.width : Int) < 16777216 := by omega
        have e1 : t.norm = t := norm_done (by omega)
        have HEND : Hid (ES wr B g (s.put x 1) ∧ Below B w wr) := by rw [← HS'.out, ← hN, e1]; exact ⟨⟨C, v, hE⟩, hB⟩
        clear hE hF hN hB hL e1 hlt
        generalize t.width = wd at *
        go_wp2_with fail
        go_end0
        exact ⟨⟨_, rfl⟩, HEND.out.1, HEND.out.2⟩
end Go.Proofs.Ytbkjcngehhdchaa

/-!   The coder of ranges: the coder at its start. -/
namespace Go.Proofs.Ytbkjcngehhdchaa
open Go.RowKit
set_option linter.unusedVariables false
set_option linter.unusedSimpArgs false
/-- width, and the number of each context -/
def coder0 : Array Value := #[.int .i64 4294967295] ++ Array.replicate 512 (.int .i64 1024)
theorem coder0_size : coder0.size = 513 := by simp [coder0]
theorem coder0_one : coder0.all (·.oneCell') = true := by
  rw [Array.all_eq_true]
  intro i hi
  unfold coder0 at hi ⊢
  rw [Array.getElem_append]
  split
  · rename_i h; simp at h; subst h; rfl
  · simp [Value.oneCell']
theorem coder0_zero : coder0[0]? = some (.int .i64 4294967295) := by
  unfold coder0
  rw [Array.getElem?_append_left (by simp)]; simp
theorem coder0_at {j : Nat} (hj : j < 512) : coder0[1 + j]? = some (.int .i64 1024) := by
  unfold coder0
  rw [Array.getElem?_append_right (by simp)]
  simp [hj]
theorem one_of_int (A : Array Value) (h : ∀ i (hi : i < A.size), ∃ x : Int, A[i] = .int .i64 x) : A.all (·.oneCell') = true := by
  rw [Array.all_eq_true]
  intro i hi
  obtain ⟨x, hx⟩ := h i hi
  rw [hx]; rfl
set_option maxRecDepth 100000 in
set_option maxHeartbeats 2000000 in
theorem started_any (w : World) :
    Calls Try.prog 81 #[] w fun e w' => e = .returned (.agg coder0) ∧ Below w.heap.size w w' := by
  have hk1 := coder0_size
  have hk2 := coder0_one
  have hk3 := coder0_zero
  have hk4 : ∀ j, j < 512 → coder0[1 + j]? = some (.int .i64 1024) := fun j hj => coder0_at hj
  generalize coder0 = K0 at hk1 hk2 hk3 hk4 ⊢
  have HK : Hid (K0.size = 513 ∧ K0.all (·.oneCell') = true ∧ K0[0]? = some (.int .i64 4294967295) ∧ ∀ j, j < 512 → K0[1 + j]? = some (.int .i64 1024)) := ⟨hk1, hk2, hk3, hk4⟩
  clear hk1 hk2 hk3 hk4
  obtain ⟨Z, hZ⟩ : ∃ Z : Array Value, Z = Array.replicate 513 (Value.int .i64 0) := ⟨_, rfl⟩
  have hz : ∀ w, (zeroValue 123).run Try.prog w = .ok (.agg Z) w := by rw [hZ]; exact (zero_of_info (n := 513) (by kernel_rfl)).1
  have hi : (Try.prog.info? 123).map (·.size) = some 513 := (zero_of_info (v := .agg (Array.replicate 513 (Value.int .i64 0))) (by kernel_rfl)).2
  have hZc : (Value.agg Z).cells = Z := by rw [hZ]; kernel_rfl
  have hZs : Z.size = 513 := by rw [hZ]; simp
  have hZ0 : ¬ Z = #[] := by intro e; rw [e] at hZs; simp at hZs
  have HI : Hid (∀ A : Array Value, A.size = 513 → (Try.prog.info? 123).map (·.size) = some A.size) := fun A h => by rw [h]; exact hi
  obtain ⟨Z1, hZ1⟩ : ∃ Z1, Z1 = Z.setIfInBounds 0 (.int .i64 4294967295) := ⟨_, rfl⟩
  have HZ1 : Hid (Z1.size = 513 ∧ Z1[0]? = some (.int .i64 4294967295) ∧ Z1.all (·.oneCell') = true ∧ Z.size = 513) := by
    refine ⟨by rw [hZ1]; simp [hZs], by rw [hZ1]; exact Array.getElem?_setIfInBounds_self_of_lt (by omega), one_of_int _ (fun i hi => ?_), hZs⟩
    subst hZ1
    rw [Array.getElem_setIfInBounds (by simpa using hi)]
    split
    · exact ⟨_, rfl⟩
    · subst hZ; exact ⟨0, by simp⟩
  have HR0 : Hid (((w.alloc (.cells Z 123)).alloc (.cells Z 123)).heap[w.heap.size + 1]? = some (.cells Z 123 (0, 0))) := by
    have h := heap_alloc_new (w.alloc (.cells Z 123)) (.cells Z 123)
    rwa [World.size_alloc] at h
  have HR1 : Hid (((w.alloc (.cells Z 123)).alloc (.cells Z 123)).heap[w.heap.size]? = some (.cells Z 123 (0, 0))) := (Below.heap_alloc _ _ _ (by simp)).trans (heap_alloc_new w _)
  have HZZ : Hid (Z1 = Z.setIfInBounds 0 (.int .i64 4294967295)) := hZ1
  clear hZ hi hZs hZ1
  go_enter Try.func81, Try.ntmps81
  go_wp2_with (rw [← HZZ.out]; refine wpList_store_row rfl 123 (.tmp 1) (.tmp 3) rfl (w.heap.size + 1) Z1 rfl rfl 123 Z HR0.out (HI.out _ HZ1.out.1) (by rw [HZ1.out.2.2.2, HZ1.out.1]) HZ1.out.2.2.1 ?_)
  go_loopw [4] (fun c wr => ∃ (i : Nat) (A : Array Value), i ≤ 512 ∧ c = .int .i64 (i : Int) ∧ Hid (wr.heap[w.heap.size + 1]? = some (.cells A 123 (0, 0)) ∧ A.size = 513 ∧ A[0]? = some (.int .i64 4294967295) ∧ (∀ j, j < i → A[1 + j]? = some (.int .i64 1024)) ∧ wr.heap[w.heap.size]? = some (.cells Z 123 (0, 0)) ∧ Below w.heap.size w wr)) (fun c _ => 512 - natOfI c)
  case atStart => exact ⟨0, Z1, by omega, rfl, setRow_heap _ _ _ _ _ _ HR0.out, HZ1.out.1, HZ1.out.2.1, fun j hj => absurd hj (by omega), (setRow_other _ _ _ _ (by omega)).trans HR1.out, ⟨rfl, rfl, rfl, by simp; omega, fun k hk => (setRow_other _ _ _ _ (by omega)).trans ((Below.heap_alloc _ _ _ (by simp; omega)).trans (Below.heap_alloc _ _ _ hk))⟩⟩
  case round =>
    obtain ⟨i, A, hi, rfl, HA⟩ := hrel
    by_cases hlt : i < 512
    · have hltI : (i : Int) < 512 := by omega
      have hrow := HA.out.1
      have hsz := HA.out.2.1
      have x0 : wr.cell? ⟨w.heap.size + 1, 1 + i, none⟩ = some A[1 + i] := (cell_of_row wr _ (1 + i) _ _ _ hrow).trans (Array.getElem?_eq_getElem (by omega))
      have z0 := frozen_of_row wr (w.heap.size + 1) (1 + i) _ _ hrow
      have HN : Hid ((wr.setCell ⟨w.heap.size + 1, 1 + i, none⟩ (.int .i64 1024)).heap[w.heap.size + 1]? = some (.cells (A.setIfInBounds (1 + i) (.int .i64 1024)) 123 (0, 0)) ∧ (A.setIfInBounds (1 + i) (.int .i64 1024)).size = 513 ∧ (A.setIfInBounds (1 + i) (.int .i64 1024))[0]? = some (.int .i64 4294967295) ∧ (∀ j, j < i + 1 → (A.setIfInBounds (1 + i) (.int .i64 1024))[1 + j]? = some (.int .i64 1024)) ∧ (wr.setCell ⟨w.heap.size + 1, 1 + i, none⟩ (.int .i64 1024)).heap[w.heap.size]? = some (.cells Z 123 (0, 0)) ∧ Below w.heap.size w (wr.setCell ⟨w.heap.size + 1, 1 + i, none⟩ (.int .i64 1024))) := by
        refine ⟨heap_setCell_same _ _ _ _ _ _ hrow, by simpa using hsz, by rw [Array.getElem?_setIfInBounds_ne (by omega)]; exact HA.out.2.2.1, fun j hj => ?_, (heap_setCell_other _ _ _ _ (by show w.heap.size ≠ w.heap.size + 1; omega)).trans HA.out.2.2.2.2.1, HA.out.2.2.2.2.2.setCell (p := ⟨w.heap.size + 1, 1 + i, none⟩) (by show w.heap.size ≤ w.heap.size + 1; omega) _⟩
        by_cases e : j = i
        · subst e; rw [Array.getElem?_setIfInBounds_self_of_lt (by omega)]
        · rw [Array.getElem?_setIfInBounds_ne (by omega)]; exact HA.out.2.2.2.1 j (by omega)
      generalize A[1 + i] = y0 at x0
      obtain ⟨q, hq⟩ : ∃ q, q = 1 + i := ⟨_, rfl⟩
      have hq1 : 1 + i = q := hq.symm
      have hq2 : i + 1 = q := by omega
      have HQ : Hid (q = 1 + i) := hq
      rw [hq1] at x0 z0 HN
      clear hrow hsz hq
      go_wp2_with fail
      go_roundw
      case rel => exact ⟨i + 1, _, by omega, by have := HQ.out; first | rfl | (congr 1; omega), HN⟩
      case measure => simp [natOfI]; have := HQ.out; omega
    · obtain rfl : i = 512 := by omega
      have hA : A = K0 := by
        apply Array.ext_getElem?
        intro k
        by_cases k0 : k = 0
        · subst k0; rw [HA.out.2.2.1, HK.out.2.2.1]
        · by_cases k5 : k < 513
          · obtain ⟨j, rfl⟩ : ∃ j, k = 1 + j := ⟨k - 1, by omega⟩
            rw [HA.out.2.2.2.1 j (by omega), HK.out.2.2.2 j (by omega)]
          · rw [Array.getElem?_eq_none (by rw [HA.out.2.1]; omega), Array.getElem?_eq_none (by rw [HK.out.1]; omega)]
      subst hA
      have HF : Hid ((wr.setRow w.heap.size A).heap[w.heap.size]? = some (.cells A 123 (0, 0)) ∧ Below w.heap.size w (wr.setRow w.heap.size A)) :=
        ⟨setRow_heap _ _ _ _ _ _ HA.out.2.2.2.2.1, ⟨HA.out.2.2.2.2.2.os, HA.out.2.2.2.2.2.tape, HA.out.2.2.2.2.2.output, by simpa using HA.out.2.2.2.2.2.size, fun k hk => (setRow_other _ _ _ _ (by omega)).trans (HA.out.2.2.2.2.2.block k hk)⟩⟩
      go_wp2_with (first
        | (refine wpList_load_row rfl 123 _ rfl (w.heap.size + 1) rfl 123 A (0, 0) _ HA.out.1 Try.underlying123 rfl (HI.out _ HK.out.1) ?_)
        | (refine wpList_store_row rfl 123 (.tmp 0) (.tmp 11) rfl w.heap.size A rfl rfl 123 Z HA.out.2.2.2.2.1 (HI.out _ HK.out.1) (by rw [HZ1.out.2.2.2, HK.out.1]) HK.out.2.1 ?_))
      exact bodyPost_ret (results_cell_row rfl _ _ w.heap.size 123 A (0, 0) _ rfl HF.out.1 Try.underlying123 rfl (HI.out _ HK.out.1)) rfl ⟨rfl, HF.out.2⟩
end Go.Proofs.Ytbkjcngehhdchaa
