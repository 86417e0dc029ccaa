/-
  The coder of ranges: what is carried.
-/
import Derived.Test.YtibciflmalfbjaaRngN
import Derived.Maps.AppendAt
namespace Go.Proofs.Ytibciflmalfbjaa
open Go.RowKit
set_option linter.unusedVariables false
set_option linter.unusedSimpArgs false
def byC (l : List Nat) : List Value := l.map fun (b : Nat) => Value.int .u8 (b : Int)
theorem byC_len (l : List Nat) : (byC l).length = l.length := by simp [byC]
theorem i64_and32 (n : Int) (h : 0 ≤ n) : bits .and .i64 n 4294967295 = n % 4294967296 := by
  have h32 : (BitVec.ofInt 64 4294967295).toNat = 2 ^ 32 - 1 := by decide
  have key : (BitVec.ofInt 64 n &&& BitVec.ofInt 64 4294967295).toNat = (n % ((2 ^ 64 : Nat) : Int)).toNat % 2 ^ 32 := by
    rw [BitVec.toNat_and, BitVec.toNat_ofInt, h32, Nat.and_two_pow_sub_one_eq_mod]
  show IntKind.i64.wrap ((BitVec.ofInt 64 n &&& BitVec.ofInt 64 4294967295).toNat : Nat) = n % 4294967296
  rw [key, IntKind.wrap_i64]
  omega
/-- a coder that writes, at block g: its bytes in a row of their own -/
structure EA (w : World) (B g : Nat) (wd lo : Nat) (pr : Nat → Nat) (out : List Nat) (C : Array Value) (v : Value) : Prop where
  row : w.heap[g]? = some (.cells C 113 (0, 0))
  sz : C.size = 515
  c0 : C[0]? = some (.int .i64 (wd : Int))
  cp : ∀ j, j < 512 → C[1 + j]? = some (.int .i64 (pr j : Int))
  cl : C[513]? = some (.int .i64 (lo : Int))
  cs : C[514]? = some v
  own : w.ownsRow B 5 1 v out.length (byC out)
  gB : B ≤ g
theorem owns_set {w : World} {B n gr cap j : Nat} {e : TypeId} {xs : List Value} (h : w.ownsRow B e 1 (.slice (some ⟨gr, 0, none⟩) n cap) n xs) (hj : j < n) (x : Value) :
    (w.setCell ⟨gr, j, none⟩ x).ownsRow B e 1 (.slice (some ⟨gr, 0, none⟩) n cap) n (xs.set j x) := by
  obtain ⟨h0, ⟨h1, _⟩ | ⟨g, c, cur, h1, h2, h3, h4, h5, h6, h7⟩⟩ := h
  · cases h1
  · cases h1
    refine ⟨by simpa using h0, Or.inr ⟨gr, cap, cur.setIfInBounds j x, rfl, h2, heap_setCell_same _ _ _ _ _ _ h3, h4, h5, by simpa using h6, ?_⟩⟩
    rw [← h7, Array.toList_setIfInBounds, List.take_set]
theorem row_apartE {w : World} {B n g0 : Nat} {e t : TypeId} {z : Nat} {v : Value} {xs : List Value} {cs : Array Value} {m : Nat × Nat} (hte : t ≠ e) (h : w.ownsRow B e z v n xs) (hb : w.heap[g0]? = some (.cells cs t m)) : some g0 ≠ v.ownBlock := by
  obtain ⟨hl, ⟨h0, hn⟩ | ⟨g, cap, cur, h1, h2, h3, _⟩⟩ := h
  · subst h0; intro c; cases c
  · subst h1
    intro c
    have c : g0 = g := Option.some.inj c
    subst c
    rw [h3] at hb
    cases hb
    exact hte rfl
set_option maxRecDepth 100000 in
set_option maxHeartbeats 1000000 in
theorem add_small {w : World} {B g wd lo bd : Nat} {pr : Nat → Nat} {out : List Nat} {C : Array Value} {v : Value} (h : EA w B g wd lo pr out C v) (hl : lo + bd < 4294967296) :
    Calls Try.prog 81 #[.pointer (some ⟨g, 0, none⟩), .int .i64 (bd : Int)] w fun e w' => (∃ v, e = .returned v) ∧ w' = w.setCell ⟨g, 513, none⟩ (.int .i64 ((lo + bd : Nat) : Int)) := by
  have c513 : w.cell? ⟨g, 513, none⟩ = some (.int .i64 (lo : Int)) := (cell_of_row w g 513 _ _ _ h.row).trans h.cl
  have z513 := frozen_of_row w g 513 _ _ h.row
  have hw : IntKind.i64.wrap ((lo : Int) + (bd : Int)) = ((lo + bd : Nat) : Int) := by rw [IntKind.wrap_i64]; omega
  obtain ⟨m, hm⟩ : ∃ m, m = lo + bd := ⟨_, rfl⟩
  have hmI : (lo : Int) + (bd : Int) = (m : Int) := by omega
  have hd : (m : Int) / 4294967296 = 0 := by omega
  have hm2 : m < 4294967296 := by omega
  rw [← hm] at hw ⊢
  clear h hm hl
  go_enter Try.func81, Try.ntmps81
  go_wp2_with fail
  exact bodyPost_ret (results_none rfl _ _ _) rfl ⟨⟨_, rfl⟩, rfl⟩
def natOfI : Value → Nat
  | .int _ i => i.toNat
  | _ => 0
theorem owns_cell {w : World} {B n gr cap j : Nat} {e : TypeId} {xs : List Value} {u : Value} (h : w.ownsRow B e 1 (.slice (some ⟨gr, 0, none⟩) n cap) n xs) (hj : xs[j]? = some u) : w.cell? ⟨gr, j, none⟩ = some u ∧ w.frozen? ⟨gr, j, none⟩ = false := by
  obtain ⟨h0, ⟨h1, _⟩ | ⟨g, c, cur, h1, h2, h3, h4, h5, h6, h7⟩⟩ := h
  · cases h1
  · cases h1
    refine ⟨(cell_of_row w gr j _ _ _ h3).trans ?_, frozen_of_row w gr j _ _ h3⟩
    rw [← h7, List.getElem?_take] at hj
    split at hj
    · simpa using hj
    · cases hj
theorem owns_at {w : World} {B n : Nat} {e : TypeId} {v : Value} {xs : List Value} (h : w.ownsRow B e 1 v n xs) (h0 : 0 < n) : ∃ gr cap, v = .slice (some ⟨gr, 0, none⟩) n cap ∧ B ≤ gr := by
  obtain ⟨_, ⟨_, h1⟩ | ⟨g, c, cur, h1, h2, _⟩⟩ := h
  · omega
  · exact ⟨g, c, h1, h2⟩
theorem byC_set (l : List Nat) (j y : Nat) : (byC l).set j (.int .u8 (y : Int)) = byC (l.set j y) := by simp [byC, List.map_set]
theorem set_mid (a b : List Nat) (x y : Nat) : (a ++ x :: b).set a.length y = a ++ y :: b := by simp [List.set_append]
theorem at_mid (a b : List Nat) (x : Nat) : (byC (a ++ x :: b))[a.length]? = some (.int .u8 (x : Int)) := by simp [byC]
theorem mid_form (pre R : List Nat) (h k : Nat) : pre ++ h :: (List.replicate (k + 1) 255 ++ R) = (pre ++ h :: List.replicate k 255) ++ 255 :: R := by
  rw [List.replicate_succ']; simp
set_option maxRecDepth 100000 in
set_option maxHeartbeats 2000000 in
theorem add_carry {w : World} {B g wd lo bd h m : Nat} {pr : Nat → Nat} {pre : List Nat} {C : Array Value} {v : Value} (hE : EA w B g wd lo pr (pre ++ h :: List.replicate m 255) C v) (hh : h < 255) (hN : pre.length + 1 + m ≤ 1000000) (h1 : lo < 4294967296) (h2 : bd < 4294967296) (hl : 4294967296 ≤ lo + bd) :
    Calls Try.prog 81 #[.pointer (some ⟨g, 0, none⟩), .int .i64 (bd : Int)] w fun e w' => ((∃ v, e = .returned v) ∧ ∃ C', EA w' B g wd (lo + bd - 4294967296) pr (pre ++ (h + 1) :: List.replicate m 0) C' v) ∧ Below B w w' ∧ w'.heap.size = w.heap.size ∧ ∀ k, k ≠ g → some k ≠ v.ownBlock → w'.heap[k]? = w.heap[k]? := by
  have c513 : w.cell? ⟨g, 513, none⟩ = some (.int .i64 (lo : Int)) := (cell_of_row w g 513 _ _ _ hE.row).trans hE.cl
  have z513 := frozen_of_row w g 513 _ _ hE.row
  obtain ⟨s, hs⟩ : ∃ s, s = lo + bd := ⟨_, rfl⟩
  obtain ⟨d, hd⟩ : ∃ d, d = lo + bd - 4294967296 := ⟨_, rfl⟩
  have hw : IntKind.i64.wrap ((lo : Int) + (bd : Int)) = (s : Int) := by rw [IntKind.wrap_i64]; omega
  have hsI : (lo : Int) + (bd : Int) = (s : Int) := by omega
  have hq : (s : Int) / 4294967296 = 1 := by omega
  have hand : bits .and .i64 (s : Int) 4294967295 = (d : Int) := by rw [i64_and32 _ (by omega)]; omega
  have hs2 : s < 8589934592 := by omega
  have hd2 : d < 4294967296 := by omega
  rw [← hd]
  obtain ⟨N, hNN⟩ : ∃ N, N = (pre ++ h :: List.replicate m 255).length := ⟨_, rfl⟩
  have hN2 : N = pre.length + 1 + m := by rw [hNN]; simp; omega
  have hown0 := hE.own
  rw [← hNN] at hown0
  obtain ⟨gr, cap, rfl, hgB⟩ := owns_at hown0 (by omega)
  have hgg : gr ≠ g := fun e => row_apartE (by decide) hown0 hE.row (by rw [e]; rfl)
  obtain ⟨W2, hW2⟩ : ∃ W2, W2 = (w.setCell ⟨g, 513, none⟩ (.int .i64 (s : Int))).setCell ⟨g, 513, none⟩ (.int .i64 (d : Int)) := ⟨_, rfl⟩
  have hrow2 : W2.heap[g]? = some (.cells ((C.setIfInBounds 513 (.int .i64 (s : Int))).setIfInBounds 513 (.int .i64 (d : Int))) 113 (0, 0)) := by rw [hW2]; exact heap_setCell_same _ _ _ _ _ _ (heap_setCell_same _ _ _ _ _ _ hE.row)
  have hown2 : W2.ownsRow B 5 1 (.slice (some ⟨gr, 0, none⟩) N cap) N (byC (pre ++ h :: List.replicate m 255)) := by
    rw [hW2]
    exact (hown0.kept (grownBy_setC _ g 513 _) (Or.inr (fun e => hgg (Option.some.inj e)))).kept (grownBy_setC _ g 513 _) (Or.inr (fun e => hgg (Option.some.inj e)))
  have hb2 : Below B w W2 := by rw [hW2]; exact ((Below.refl B w).setCell (p := ⟨g, 513, none⟩) hE.gB _).setCell (p := ⟨g, 513, none⟩) hE.gB _
  have hsz2 : W2.heap.size = w.heap.size ∧ ∀ k, k ≠ g → some k ≠ (Value.slice (some ⟨gr, 0, none⟩) N cap).ownBlock → W2.heap[k]? = w.heap[k]? := ⟨by rw [hW2]; simp, fun k hk _ => by rw [hW2]; exact (heap_setCell_other _ _ _ _ hk).trans (heap_setCell_other _ _ _ _ hk)⟩
  have hC514 : ((C.setIfInBounds 513 (.int .i64 (s : Int))).setIfInBounds 513 (.int .i64 (d : Int)))[514]? = some (.slice (some ⟨gr, 0, none⟩) N cap) := by
    rw [Array.getElem?_setIfInBounds_ne (by omega), Array.getElem?_setIfInBounds_ne (by omega)]; exact hE.cs
  have HE : Hid (EA w B g wd lo pr (pre ++ h :: List.replicate m 255) C (.slice (some ⟨gr, 0, none⟩) N cap)) := hE
  have c514 : W2.cell? ⟨g, 514, none⟩ = some (.slice (some ⟨gr, 0, none⟩) N cap) := (cell_of_row W2 g 514 _ _ _ hrow2).trans hC514
  have HC514 : Hid _ := hC514
  have HR : Hid (W2.heap[g]? = some (.cells ((C.setIfInBounds 513 (.int .i64 (s : Int))).setIfInBounds 513 (.int .i64 (d : Int))) 113 (0, 0)) ∧ W2.ownsRow B 5 1 (.slice (some ⟨gr, 0, none⟩) N cap) N (byC (pre ++ h :: List.replicate m 255)) ∧ Below B w W2 ∧ W2.heap.size = w.heap.size ∧ (∀ k, k ≠ g → some k ≠ (Value.slice (some ⟨gr, 0, none⟩) N cap).ownBlock → W2.heap[k]? = w.heap[k]?)) := ⟨hrow2, hown2, hb2, hsz2⟩
  have hN6 : N ≤ 1000000 := by omega
  have HGG : Hid (gr ≠ g ∧ B ≤ gr) := ⟨hgg, hgB⟩
  have HN2 : Hid (N = pre.length + 1 + m) := hN2
  have HD : Hid (d = lo + bd - 4294967296) := hd
  rw [hW2] at c514
  have HW2 : Hid _ := hW2
  clear hE hs hd hown0 hgg hgB hrow2 hown2 hb2 hsz2 hC514 hNN hW2 hN h1 h2 hl hN2
  go_enter Try.func81, Try.ntmps81
  go_wp2_with fail
  rw [← HW2.out]
  clear c514 c513 z513
  have HFE : Hid (∀ (w' : World) (out : List Nat), w'.heap[g]? = some (.cells ((C.setIfInBounds 513 (.int .i64 (s : Int))).setIfInBounds 513 (.int .i64 (d : Int))) 113 (0, 0)) → w'.ownsRow B 5 1 (.slice (some ⟨gr, 0, none⟩) N cap) out.length (byC out) → EA w' B g wd d pr out ((C.setIfInBounds 513 (.int .i64 (s : Int))).setIfInBounds 513 (.int .i64 (d : Int))) (.slice (some ⟨gr, 0, none⟩) N cap)) := fun w' out hr ho => by
    have h0 := HE.out
    exact ⟨hr, by simp [h0.sz], by rw [Array.getElem?_setIfInBounds_ne (by omega), Array.getElem?_setIfInBounds_ne (by omega)]; exact h0.c0,
      fun j hj => by rw [Array.getElem?_setIfInBounds_ne (by omega), Array.getElem?_setIfInBounds_ne (by omega)]; exact h0.cp j hj,
      by rw [Array.getElem?_setIfInBounds_self_of_lt (by simp [h0.sz])], HC514.out, ho, h0.gB⟩
  generalize (C.setIfInBounds 513 (.int .i64 (s : Int))).setIfInBounds 513 (.int .i64 (d : Int)) = C1 at HC514 HR HFE
  go_loopw [4] (fun t wr => ∃ i : Nat, i ≤ m ∧ t = .int .i64 ((N : Int) - 1 - (i : Int)) ∧ Hid (wr.heap[g]? = some (.cells C1 113 (0, 0)) ∧ wr.ownsRow B 5 1 (.slice (some ⟨gr, 0, none⟩) N cap) N (byC (pre ++ h :: (List.replicate (m - i) 255 ++ List.replicate i 0))) ∧ Below B w wr ∧ wr.heap.size = w.heap.size ∧ (∀ k, k ≠ g → some k ≠ (Value.slice (some ⟨gr, 0, none⟩) N cap).ownBlock → wr.heap[k]? = w.heap[k]?))) (fun t _ => natOfI t)
  case atStart => exact ⟨0, by omega, by first | rfl | simp, HR.out.1, by simpa using HR.out.2.1, HR.out.2.2⟩
  case round =>
    obtain ⟨i, hi, rfl, HS⟩ := hrel
    have hN2 := HN2.out
    have c514 : wr.cell? ⟨g, 514, none⟩ = some (.slice (some ⟨gr, 0, none⟩) N cap) := (cell_of_row wr g 514 _ _ _ HS.out.1).trans HC514.out
    by_cases hlt : i < m
    · obtain ⟨k, hk⟩ : ∃ k, m - i = k + 1 := ⟨m - i - 1, by omega⟩
      obtain ⟨j, hj⟩ : ∃ j, j = pre.length + 1 + k := ⟨_, rfl⟩
      have hjN : j < N := by omega
      have hix : (N : Int) - 1 - (i : Int) = (j : Int) := by omega
      have hown := HS.out.2.1
      rw [hk, mid_form] at hown
      have hlen : (pre ++ h :: List.replicate k 255).length = j := by simp; omega
      have hcell := owns_cell (j := j) hown (by rw [← hlen]; exact at_mid _ _ _)
      have x0 := hcell.1
      have z0 := hcell.2
      have HN : Hid ((wr.setCell ⟨gr, j, none⟩ (.int .u8 0)).heap[g]? = some (.cells C1 113 (0, 0)) ∧ (wr.setCell ⟨gr, j, none⟩ (.int .u8 0)).ownsRow B 5 1 (.slice (some ⟨gr, 0, none⟩) N cap) N (byC (pre ++ h :: (List.replicate (m - (i + 1)) 255 ++ List.replicate (i + 1) 0))) ∧ Below B w (wr.setCell ⟨gr, j, none⟩ (.int .u8 0)) ∧ (wr.setCell ⟨gr, j, none⟩ (.int .u8 0)).heap.size = w.heap.size ∧ (∀ k, k ≠ g → some k ≠ (Value.slice (some ⟨gr, 0, none⟩) N cap).ownBlock → (wr.setCell ⟨gr, j, none⟩ (.int .u8 0)).heap[k]? = w.heap[k]?)) := by
        refine ⟨(heap_setCell_other _ _ _ _ (fun e => HGG.out.1 e.symm)).trans HS.out.1, ?_, HS.out.2.2.1.setCell (p := ⟨gr, j, none⟩) HGG.out.2 _, by simpa using HS.out.2.2.2.1, fun k hk hne => (heap_setCell_other _ _ _ _ (by intro e; apply hne; rw [e]; rfl)).trans (HS.out.2.2.2.2 k hk hne)⟩
        have h3 := owns_set hown hjN (.int .u8 ((0 : Nat) : Int))
        rw [byC_set, ← hlen, set_mid] at h3
        rw [hlen] at h3
        have e1 : m - (i + 1) = k := by omega
        have e2 : pre ++ h :: (List.replicate k 255 ++ List.replicate (i + 1) 0) = (pre ++ h :: List.replicate k 255) ++ 0 :: List.replicate i 0 := by rw [List.replicate_succ]; simp
        rw [e1, e2]; exact h3
      rw [hix]
      have HIX : Hid ((N : Int) - 1 - ((i + 1 : Nat) : Int) = (j : Int) - 1 ∧ 1 ≤ j) := ⟨by omega, by omega⟩
      have hj1 : 1 ≤ j := by omega
      clear hown hcell hlen hk hj hix hN2
      go_wp2_with fail
      go_roundw
      case rel => exact ⟨i + 1, by omega, by rw [HIX.out.1], HN⟩
      case measure => simp [natOfI]; omega
    · obtain rfl : i = m := by omega
      obtain ⟨j, hj⟩ : ∃ j, j = pre.length := ⟨_, rfl⟩
      have hjN : j < N := by omega
      have hix : (N : Int) - 1 - (i : Int) = (j : Int) := by omega
      have hown := HS.out.2.1
      rw [Nat.sub_self] at hown
      have e0 : pre ++ h :: (List.replicate 0 255 ++ List.replicate i 0) = pre ++ h :: List.replicate i 0 := rfl
      rw [e0] at hown
      have hcell := owns_cell (j := j) hown (by rw [hj]; exact at_mid _ _ _)
      have x0 := hcell.1
      have z0 := hcell.2
      have hne : ((h : Int) == 255) = false := beq_eq_false_iff_ne.2 (by omega)
      have hwr : IntKind.u8.wrap ((h : Int) + 1) = ((h + 1 : Nat) : Int) := by rw [IntKind.wrap_u8]; omega
      have HF : Hid (((∃ C', EA (wr.setCell ⟨gr, j, none⟩ (.int .u8 ((h + 1 : Nat) : Int))) B g wd d pr (pre ++ (h + 1) :: List.replicate i 0) C' (.slice (some ⟨gr, 0, none⟩) N cap))) ∧ Below B w (wr.setCell ⟨gr, j, none⟩ (.int .u8 ((h + 1 : Nat) : Int))) ∧ (wr.setCell ⟨gr, j, none⟩ (.int .u8 ((h + 1 : Nat) : Int))).heap.size = w.heap.size ∧ (∀ k, k ≠ g → some k ≠ (Value.slice (some ⟨gr, 0, none⟩) N cap).ownBlock → (wr.setCell ⟨gr, j, none⟩ (.int .u8 ((h + 1 : Nat) : Int))).heap[k]? = w.heap[k]?)) := by
        refine ⟨⟨C1, ?_⟩, HS.out.2.2.1.setCell (p := ⟨gr, j, none⟩) HGG.out.2 _, by simpa using HS.out.2.2.2.1, fun k hk hne => (heap_setCell_other _ _ _ _ (by intro e; apply hne; rw [e]; rfl)).trans (HS.out.2.2.2.2 k hk hne)⟩
        have h3 := owns_set hown hjN (.int .u8 ((h + 1 : Nat) : Int))
        rw [byC_set, hj, set_mid] at h3
        have hl2 : (pre ++ (h + 1) :: List.replicate i 0).length = N := by simp; omega
        refine HFE.out _ _ ((heap_setCell_other _ _ _ _ (fun e => HGG.out.1 e.symm)).trans HS.out.1) (by rw [hl2]; rw [hj]; exact h3)
      rw [hix]
      clear hown hcell e0 hj hix hN2
      go_wp2_with fail
      go_end0
      exact ⟨⟨⟨_, rfl⟩, HF.out.1⟩, HF.out.2⟩
end Go.Proofs.Ytibciflmalfbjaa
