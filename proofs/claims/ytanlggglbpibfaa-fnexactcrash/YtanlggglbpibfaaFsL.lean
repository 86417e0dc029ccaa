/-
  A disk is right: the code's; disks made of disks.
-/
import Derived.Test.YtanlggglbpibfaaFsK
import Derived.Test.YtanlggglbpibfaaSfG
import Derived.Test.YtanlggglbpibfaaFlE
import Derived.Test.YtanlggglbpibfaaDqE
namespace Go.Proofs.Ytanlggglbpibfaa
open Go.RowKit
set_option linter.unusedVariables false
set_option linter.unusedSimpArgs false
set_option maxRecDepth 100000 in
theorem disk15_any (vL vS vO : Value) (L S : List FlI) (O : List DqI) (w : World) (hL : FlLe L) (hS : FlLe S) (hO : DqLe O) (h1 : FlV w vL L) (h2 : FlV w vS S) (h3 : DqV w vO O) :
    Calls Try.prog 14 #[.agg #[vL, vS, vO]] w fun e w' => e = .returned (.bool (dkB L S O)) ∧ Below w.heap.size w w' := by
  have HOP : Hid (∀ w', Below w.heap.size w w' → Calls Try.prog 41 #[.agg #[vL, vS, vO]] w' fun e w'' => OdAns w' vS L S O e w'' ∧ Below w'.heap.size w' w'') := fun w' hb => open15_any vL vS vO L S O w' hL hS hO (h1.below hb) (h2.below hb) (h3.below hb)
  clear hL hS hO h1 h2 h3
  go_enter Try.func14, Try.ntmps14
  go_wp2_with fail
  refine (HOP.out _ ((Below.refl _ _).alloc (Nat.le_refl _) _)).mono ?_
  rintro e w' ⟨⟨hy, lo, wd, p, mb, v, rfl, _⟩ | ⟨hn, x, rfl⟩, hb⟩
  · have HY := hidF (dkB_yes hy)
    have hb := hidF (blFl ((Below.refl _ _).alloc (Nat.le_refl _) _) hb (by simp))
    clear hy
    go_wp2_with fail
    go_ret
    exact ⟨by rw [HY.out]; rfl, hb.out⟩
  · have HY := hidF (dkB_no hn)
    have hb := hidF (blFl ((Below.refl _ _).alloc (Nat.le_refl _) _) hb (by simp))
    clear hn
    go_wp2_with fail
    go_ret
    exact ⟨by rw [HY.out]; rfl, hb.out⟩
set_option maxRecDepth 100000 in
theorem toFlS_nil (a : Option Addr) (c : Nat) (w : World) :
    Calls Try.prog 68 #[.slice a 0 c] w fun e w' => (e = .returned (.slice (some ⟨w.heap.size, 0, none⟩) 0 0) ∧ w.heap.size < w'.heap.size) ∧ Below w.heap.size w w' := by
  obtain ⟨i0, hi0, hz0, hz1, hz2⟩ := info_parts Try.infFl
  have hmk := run_make (P := Try.prog) w 24 88 i0 (.agg #[.string ⟨#[]⟩, .string ⟨#[]⟩]) Try.underlying24 hi0 hz0 .i64 .i64 0 0 (by omega) (by omega) (by rw [hz2]; omega) (by omega)
  rw [hz1] at hmk
  generalize madeCells (Value.agg #[.string ⟨#[]⟩, .string ⟨#[]⟩]).cells _ = Z at hmk
  go_enter Try.func68, Try.ntmps68
  go_wp2_with fail
  refine wp_loop_rounds 1 ?_
  rw [rounds_succ]
  go_wp2_with fail
  go_ret
  exact ⟨⟨rfl, by simp⟩, (Below.refl _ _).alloc (Nat.le_refl _) _⟩
set_option maxRecDepth 100000 in
theorem toDqS_nil (a : Option Addr) (c : Nat) (w : World) :
    Calls Try.prog 69 #[.slice a 0 c] w fun e w' => (e = .returned (.slice (some ⟨w.heap.size, 0, none⟩) 0 0) ∧ w.heap.size < w'.heap.size) ∧ Below w.heap.size w w' := by
  obtain ⟨i0, hi0, hz0, hz1, hz2⟩ := info_parts Try.infDq
  have hmk := run_make (P := Try.prog) w 25 36 i0 (.agg #[.int .i64 0, .string ⟨#[]⟩, .string ⟨#[]⟩, .string ⟨#[]⟩]) Try.underlying25 hi0 hz0 .i64 .i64 0 0 (by omega) (by omega) (by rw [hz2]; omega) (by omega)
  rw [hz1] at hmk
  generalize madeCells (Value.agg #[.int .i64 0, .string ⟨#[]⟩, .string ⟨#[]⟩, .string ⟨#[]⟩]).cells _ = Z at hmk
  go_enter Try.func69, Try.ntmps69
  go_wp2_with fail
  refine wp_loop_rounds 1 ?_
  rw [rounds_succ]
  go_wp2_with fail
  go_ret
  exact ⟨⟨rfl, by simp⟩, (Below.refl _ _).alloc (Nat.le_refl _) _⟩
def flM (n : Nat) (F : Nat → FlI) : List FlI := (List.range n).map F
def dqM (n : Nat) (F : Nat → DqI) : List DqI := (List.range n).map F
theorem flM_len (n : Nat) (F : Nat → FlI) : (flM n F).length = n := (flF_map F n).1
theorem dqM_len (n : Nat) (F : Nat → DqI) : (dqM n F).length = n := (dqF_map F n).1
theorem flM_le {n : Nat} {F : Nat → FlI} (h : n + flTot F n ≤ 1048576) : FlLe (flM n F) := by
  refine ⟨by rw [flM_len]; omega, fun f hf => ?_⟩
  obtain ⟨i, hi, rfl⟩ := List.mem_map.1 hf
  have := flTot_one F (List.mem_range.1 hi)
  constructor <;> omega
theorem dqM_le {n : Nat} {F : Nat → DqI} (h : n + dqTot F n ≤ 1048576) : DqLe (dqM n F) := by
  refine ⟨by rw [dqM_len]; omega, fun f hf => ?_⟩
  obtain ⟨i, hi, rfl⟩ := List.mem_map.1 hf
  have := dqTot_one F (List.mem_range.1 hi)
  refine ⟨?_, ?_, ?_⟩ <;> omega
theorem FlV.fargs {w : World} {v : Value} {n : Nat} {F : Nat → FlI} (h : FlV w v (flM n F)) : FlArg w v n F := by
  obtain ⟨a, c, e, hr⟩ := h.arg
  rw [flM_len] at e hr
  exact ⟨a, c, e, fun h0 => by obtain ⟨g, h1, h2⟩ := hr h0; exact ⟨g, h1, h2.congr fun i hi => ((flF_map F n).2 i hi).symm⟩⟩
theorem DqV.dargs {w : World} {v : Value} {n : Nat} {F : Nat → DqI} (h : DqV w v (dqM n F)) : DqArg w v n F := by
  rcases h with ⟨e, h0⟩ | ⟨g, c, e, hr⟩
  · have hn : n = 0 := by rw [← dqM_len n F, h0]; rfl
    exact ⟨none, 0, by rw [e, hn], fun h => absurd h (by omega)⟩
  · rw [dqM_len] at e hr
    exact ⟨_, c, e, fun h0 => ⟨g, rfl, hr.congr fun i hi => ((dqF_map F n).2 i hi).symm⟩⟩
theorem toFlV_any (v : Value) (n : Nat) (F : Nat → FlI) (w : World) (hn : n ≤ 1048576) (h : FlIn w v n F) :
    Calls Try.prog 68 #[v] w fun e w' => (∃ v', e = .returned v' ∧ FlV w' v' (flM n F) ∧ ∀ g, v'.ownBlock = some g → w.heap.size ≤ g) ∧ Below w.heap.size w w' := by
  obtain ⟨a, c, rfl, hr⟩ := h.form
  by_cases h0 : 0 < n
  · obtain ⟨g, off, rfl, hg, hx⟩ := hr h0
    refine (toFlS_some g off c n F w hn hg hx).mono ?_
    rintro e w' ⟨rfl, hrow, hb⟩
    exact ⟨⟨_, rfl, Or.inr ⟨_, n, by rw [flM_len], by rw [flM_len]; exact hrow.congr (flF_map F n).2⟩, fun g h => by cases h; exact Nat.le_refl _⟩, hb⟩
  · obtain rfl : n = 0 := by omega
    refine (toFlS_nil a c w).mono ?_
    rintro e w' ⟨⟨rfl, hl⟩, hb⟩
    exact ⟨⟨_, rfl, Or.inr ⟨_, _, rfl, ⟨hl, fun j hj => absurd hj (Nat.not_lt_zero _), fun j hj => absurd hj (Nat.not_lt_zero _)⟩⟩, fun g h => by cases h; exact Nat.le_refl _⟩, hb⟩
theorem toDqV_any (v : Value) (n : Nat) (F : Nat → DqI) (w : World) (hn : n ≤ 1048576) (h : DqIn w v n F) :
    Calls Try.prog 69 #[v] w fun e w' => (∃ v', e = .returned v' ∧ DqV w' v' (dqM n F) ∧ ∀ g, v'.ownBlock = some g → w.heap.size ≤ g) ∧ Below w.heap.size w w' := by
  obtain ⟨a, c, rfl, hr⟩ := h.form
  by_cases h0 : 0 < n
  · obtain ⟨g, off, rfl, hg, hx⟩ := hr h0
    refine (toDqS_some g off c n F w hn hg hx).mono ?_
    rintro e w' ⟨rfl, hrow, hb⟩
    exact ⟨⟨_, rfl, Or.inr ⟨_, n, by rw [dqM_len], by rw [dqM_len]; exact hrow.congr (dqF_map F n).2⟩, fun g h => by cases h; exact Nat.le_refl _⟩, hb⟩
  · obtain rfl : n = 0 := by omega
    refine (toDqS_nil a c w).mono ?_
    rintro e w' ⟨⟨rfl, hl⟩, hb⟩
    exact ⟨⟨_, rfl, Or.inr ⟨_, _, rfl, ⟨hl, fun j hj => absurd hj (Nat.not_lt_zero _), fun j hj => absurd hj (Nat.not_lt_zero _), fun j hj => absurd hj (Nat.not_lt_zero _), fun j hj => absurd hj (Nat.not_lt_zero _)⟩⟩, fun g h => by cases h; exact Nat.le_refl _⟩, hb⟩
/-- a disk that came in -/
structure DkIn (w : World) (v : Value) (n m k : Nat) (F G : Nat → FlI) (O : Nat → DqI) : Prop where
  form : ∃ a b c, v = .agg #[a, b, c] ∧ FlIn w a n F ∧ FlIn w b m G ∧ DqIn w c k O
/-- a disk that was made -/
def DkV (w : World) (v : Value) (L S : List FlI) (O : List DqI) : Prop := ∃ a b c, v = .agg #[a, b, c] ∧ FlV w a L ∧ FlV w b S ∧ DqV w c O
theorem DkV.below {w w' : World} {v : Value} {L S : List FlI} {O : List DqI} (h : DkV w v L S O) (hb : Below w.heap.size w w') : DkV w' v L S O := by
  obtain ⟨a, b, c, e, h1, h2, h3⟩ := h
  exact ⟨a, b, c, e, h1.below hb, h2.below hb, h3.below hb⟩
theorem cell_eq {w w' : World} {g : Nat} (h : w'.heap[g]? = w.heap[g]?) (o : Nat) : w'.cell? ⟨g, o, none⟩ = w.cell? ⟨g, o, none⟩ := by
  unfold World.cell?
  show (match w'.heap[g]? with | _ => _) = _
  rw [h]
theorem FlV.keep {w w' : World} {v : Value} {L : List FlI} (h : FlV w v L) (hb : ∀ g, v.ownBlock = some g → w'.heap[g]? = w.heap[g]?) : FlV w' v L := by
  rcases h with h | ⟨g, c, e, hr⟩
  · exact Or.inl h
  · have hg := hb g (by rw [e]; rfl)
    refine Or.inr ⟨g, c, e, ⟨?_, fun i hi => (cell_eq hg _).trans (hr.c0 i hi), fun i hi => (cell_eq hg _).trans (hr.c1 i hi)⟩⟩
    rw [Array.getElem?_eq_getElem hr.lt] at hg
    exact (Array.getElem?_eq_some_iff.1 hg).1
theorem DqV.keep {w w' : World} {v : Value} {L : List DqI} (h : DqV w v L) (hb : ∀ g, v.ownBlock = some g → w'.heap[g]? = w.heap[g]?) : DqV w' v L := by
  rcases h with h | ⟨g, c, e, hr⟩
  · exact Or.inl h
  · have hg := hb g (by rw [e]; rfl)
    refine Or.inr ⟨g, c, e, ⟨?_, fun i hi => (cell_eq hg _).trans (hr.c0 i hi), fun i hi => (cell_eq hg _).trans (hr.c1 i hi), fun i hi => (cell_eq hg _).trans (hr.c2 i hi), fun i hi => (cell_eq hg _).trans (hr.c3 i hi)⟩⟩
    rw [Array.getElem?_eq_getElem hr.lt] at hg
    exact (Array.getElem?_eq_some_iff.1 hg).1
def KFl (k : Nat) (w : World) (v : Value) (L : List FlI) : Prop := FlV w v L ∧ ∀ g, v.ownBlock = some g → k < g
theorem KFl.below {k : Nat} {w w' : World} {v : Value} {L : List FlI} (h : KFl k w v L) (hb : Below w.heap.size w w') : KFl k w' v L := ⟨h.1.below hb, h.2⟩
theorem KFl.put {k : Nat} {w : World} {v : Value} {L : List FlI} (h : KFl k w v L) (j : Nat) (u : Value) : KFl k (w.setCell ⟨k, j, none⟩ u) v L := ⟨h.1.keep fun g hg => heap_setCell_other _ _ _ _ (by have := h.2 g hg; show g ≠ k; omega), h.2⟩
def KDq (k : Nat) (w : World) (v : Value) (L : List DqI) : Prop := DqV w v L ∧ ∀ g, v.ownBlock = some g → k < g
theorem KFl.put2 {k : Nat} {w : World} {v : Value} {L : List FlI} (h : KFl k w v L) {k' : Nat} (hk : k' ≤ k) (j : Nat) (u : Value) : KFl k (w.setCell ⟨k', j, none⟩ u) v L := ⟨h.1.keep fun g hg => heap_setCell_other _ _ _ _ (by have := h.2 g hg; show g ≠ k'; omega), h.2⟩
theorem KDq.put2 {k : Nat} {w : World} {v : Value} {L : List DqI} (h : KDq k w v L) {k' : Nat} (hk : k' ≤ k) (j : Nat) (u : Value) : KDq k (w.setCell ⟨k', j, none⟩ u) v L := ⟨h.1.keep fun g hg => heap_setCell_other _ _ _ _ (by have := h.2 g hg; show g ≠ k'; omega), h.2⟩
theorem KDq.put {k : Nat} {w : World} {v : Value} {L : List DqI} (h : KDq k w v L) (j : Nat) (u : Value) : KDq k (w.setCell ⟨k, j, none⟩ u) v L := ⟨h.1.keep fun g hg => heap_setCell_other _ _ _ _ (by have := h.2 g hg; show g ≠ k; omega), h.2⟩
set_option maxRecDepth 100000 in
set_option maxHeartbeats 2000000 in
theorem toDk_any (a b c : Value) (n m k : Nat) (F G : Nat → FlI) (O : Nat → DqI) (w : World) (hn : n ≤ 1048576) (hm : m ≤ 1048576) (hk : k ≤ 1048576) (h1 : FlIn w a n F) (h2 : FlIn w b m G) (h3 : DqIn w c k O) :
    Calls Try.prog 27 #[.agg #[a, b, c]] w fun e w' => (∃ v', e = .returned v' ∧ DkV w' v' (flM n F) (flM m G) (dqM k O)) ∧ Below w.heap.size w w' := by
  have HF1 : Hid (∀ k2 w', k2 < w'.heap.size → Below w.heap.size w w' → Calls Try.prog 68 #[a] w' fun e w'' => (∃ x y, e = .returned (.slice x (flM n F).length y) ∧ KFl k2 w'' (.slice x (flM n F).length y) (flM n F)) ∧ Below w'.heap.size w' w'') := fun k2 w' hk hb => (toFlV_any a n F w' hn (h1.below hb)).mono fun e w'' ⟨⟨v, e1, e2, e3⟩, e4⟩ => by
    obtain ⟨x, y, rfl⟩ := e2.slice
    exact ⟨⟨x, y, e1, e2, fun g hg => Nat.lt_of_lt_of_le hk (e3 g hg)⟩, e4⟩
  have HF2 : Hid (∀ k2 w', k2 < w'.heap.size → Below w.heap.size w w' → Calls Try.prog 68 #[b] w' fun e w'' => (∃ x y, e = .returned (.slice x (flM m G).length y) ∧ KFl k2 w'' (.slice x (flM m G).length y) (flM m G)) ∧ Below w'.heap.size w' w'') := fun k2 w' hk hb => (toFlV_any b m G w' hm (h2.below hb)).mono fun e w'' ⟨⟨v, e1, e2, e3⟩, e4⟩ => by
    obtain ⟨x, y, rfl⟩ := e2.slice
    exact ⟨⟨x, y, e1, e2, fun g hg => Nat.lt_of_lt_of_le hk (e3 g hg)⟩, e4⟩
  have HF3 : Hid (∀ k2 w', k2 < w'.heap.size → Below w.heap.size w w' → Calls Try.prog 69 #[c] w' fun e w'' => (∃ x y, e = .returned (.slice x (dqM k O).length y) ∧ KDq k2 w'' (.slice x (dqM k O).length y) (dqM k O)) ∧ Below w'.heap.size w' w'') := fun k2 w' hk0 hb => (toDqV_any c k O w' hk (h3.below hb)).mono fun e w'' ⟨⟨v, e1, e2, e3⟩, e4⟩ => by
    obtain ⟨x, y, rfl⟩ := e2.slice
    exact ⟨⟨x, y, e1, e2, fun g hg => Nat.lt_of_lt_of_le hk0 (e3 g hg)⟩, e4⟩
  clear hn hm hk h1 h2 h3
  generalize flM n F = L at HF1 ⊢
  generalize flM m G = S at HF2 ⊢
  generalize dqM k O = Q at HF3 ⊢
  go_enter Try.func27, Try.ntmps27
  have HB1 : Hid (Below w.heap.size w (((w.alloc (.cells #[a, b, c] 50)).alloc (.cells #[.slice none 0 0, .slice none 0 0, .slice none 0 0] 27)).alloc (.cells #[.slice none 0 0, .slice none 0 0, .slice none 0 0] 27))) := (((Below.refl _ _).alloc (Nat.le_refl _) _).alloc (by simp) _).alloc (by simp; omega) _
  have HR1 : Hid ((((w.alloc (.cells #[a, b, c] 50)).alloc (.cells #[.slice none 0 0, .slice none 0 0, .slice none 0 0] 27)).alloc (.cells #[.slice none 0 0, .slice none 0 0, .slice none 0 0] 27)).heap[w.heap.size]? = some (.cells #[a, b, c] 50 (0, 0))) := by
    show _ = _
    rw [Below.heap_alloc _ _ _ (by simp; omega), Below.heap_alloc _ _ _ (by simp), heap_alloc_new]
  have HR2 : Hid ((((w.alloc (.cells #[a, b, c] 50)).alloc (.cells #[.slice none 0 0, .slice none 0 0, .slice none 0 0] 27)).alloc (.cells #[.slice none 0 0, .slice none 0 0, .slice none 0 0] 27)).heap[w.heap.size + 1 + 1]? = some (.cells #[.slice none 0 0, .slice none 0 0, .slice none 0 0] 27 (0, 0))) := by
    have := heap_alloc_new ((w.alloc (.cells #[a, b, c] 50)).alloc (.cells #[.slice none 0 0, .slice none 0 0, .slice none 0 0] 27)) (.cells #[.slice none 0 0, .slice none 0 0, .slice none 0 0] 27)
    rw [World.size_alloc, World.size_alloc] at this
    exact this
  have HT1 : Hid ((((w.alloc (.cells #[a, b, c] 50)).alloc (.cells #[.slice none 0 0, .slice none 0 0, .slice none 0 0] 27)).alloc (.cells #[.slice none 0 0, .slice none 0 0, .slice none 0 0] 27)).heap[w.heap.size + 1]? = some (.cells #[.slice none 0 0, .slice none 0 0, .slice none 0 0] 27 (0, 0))) := by
    have := heap_alloc_new (w.alloc (.cells #[a, b, c] 50)) (.cells #[.slice none 0 0, .slice none 0 0, .slice none 0 0] 27)
    rw [World.size_alloc] at this
    show _ = _
    rw [Below.heap_alloc _ _ _ (by simp)]
    exact this
  go_wp2_with fail
  have hf1 := HF1.out (w.heap.size + 1 + 1) _ (Array.getElem?_eq_some_iff.1 HR2.out).1 HB1.out
  generalize ((w.alloc (.cells #[a, b, c] 50)).alloc (.cells #[.slice none 0 0, .slice none 0 0, .slice none 0 0] 27)).alloc (.cells #[.slice none 0 0, .slice none 0 0, .slice none 0 0] 27) = w1 at HB1 HR1 HR2 HT1 hf1 ⊢
  refine hf1.mono ?_
  rintro e w2 ⟨⟨x1, y1, rfl, hv1⟩, hb2⟩
  obtain ⟨k0, hk0⟩ : ∃ k0, k0 = w.heap.size := ⟨_, rfl⟩
  obtain ⟨k1, hk1⟩ : ∃ k1, k1 = w.heap.size + 1 := ⟨_, rfl⟩
  obtain ⟨k2, hk2⟩ : ∃ k2, k2 = w.heap.size + 1 + 1 := ⟨_, rfl⟩
  have HK : Hid (w.heap.size ≤ k2 ∧ k0 ≠ k2 ∧ k1 ≠ k2 ∧ k1 ≤ k2 ∧ w.heap.size ≤ k1) := ⟨by omega, by omega, by omega, by omega, by omega⟩
  have HR1b : Hid (w2.heap[k0]? = some (.cells #[a, b, c] 50 (0, 0))) := by rw [hk0]; exact (hb2.block _ (Array.getElem?_eq_some_iff.1 HR1.out).1).trans HR1.out
  have HR2b : Hid (w2.heap[k2]? = some (.cells #[.slice none 0 0, .slice none 0 0, .slice none 0 0] 27 (0, 0))) := by rw [hk2]; exact (hb2.block _ (Array.getElem?_eq_some_iff.1 HR2.out).1).trans HR2.out
  have HT2 : Hid (w2.heap[k1]? = some (.cells #[.slice none 0 0, .slice none 0 0, .slice none 0 0] 27 (0, 0))) := by rw [hk1]; exact (hb2.block _ (Array.getElem?_eq_some_iff.1 HT1.out).1).trans HT1.out
  have HB2 := hidF (blFl HB1.out hb2 HB1.out.size)
  have HV1 : Hid (KFl k2 w2 (.slice x1 L.length y1) L) := by rw [hk2]; exact hv1
  rw [← hk2, ← hk1, ← hk0]
  clear hk0 hk1 hk2 hv1 hb2 hf1 HB1 HR1 HR2 HT1 w1
  have z0 := cell_of_row _ _ 0 _ _ _ HR2b.out
  have f0 := frozen_of_row _ _ 0 _ _ HR2b.out
  have a1 : (w2.setCell ⟨k2, 0, none⟩ (.slice x1 L.length y1)).cell? ⟨k0, 1, none⟩ = some b := cell_of_row _ _ 1 _ _ _ ((heap_setCell_other _ _ _ _ HK.out.2.1).trans HR1b.out)
  go_wp2_with fail
  have HR2c : Hid ((w2.setCell ⟨k2, 0, none⟩ (.slice x1 L.length y1)).heap[k2]? = some (.cells #[.slice x1 L.length y1, .slice none 0 0, .slice none 0 0] 27 (0, 0))) := heap_setCell_same _ _ _ _ _ _ HR2b.out
  have HR1c : Hid ((w2.setCell ⟨k2, 0, none⟩ (.slice x1 L.length y1)).heap[k0]? = some (.cells #[a, b, c] 50 (0, 0))) := (heap_setCell_other _ _ _ _ HK.out.2.1).trans HR1b.out
  have HB2c : Hid (Below w.heap.size w (w2.setCell ⟨k2, 0, none⟩ (.slice x1 L.length y1))) := HB2.out.setCell (p := ⟨k2, 0, none⟩) HK.out.1 _
  have HT3 : Hid ((w2.setCell ⟨k2, 0, none⟩ (.slice x1 L.length y1)).heap[k1]? = some (.cells #[.slice none 0 0, .slice none 0 0, .slice none 0 0] 27 (0, 0))) := (heap_setCell_other _ _ _ _ HK.out.2.2.1).trans HT2.out
  have HV1c := hidF (HV1.out.put 0 (.slice x1 L.length y1))
  have hf2 := HF2.out k2 _ (Array.getElem?_eq_some_iff.1 HR2c.out).1 HB2c.out
  clear z0 f0 a1 HV1 HB2 HR1b HR2b HT2
  generalize w2.setCell ⟨k2, 0, none⟩ (.slice x1 L.length y1) = w3 at HR2c HR1c HB2c HV1c HT3 hf2 ⊢
  refine hf2.mono ?_
  rintro e w4 ⟨⟨x2, y2, rfl, hv2⟩, hb4⟩
  have HR1b : Hid (w4.heap[k0]? = some (.cells #[a, b, c] 50 (0, 0))) := (hb4.block _ (Array.getElem?_eq_some_iff.1 HR1c.out).1).trans HR1c.out
  have HR2b : Hid (w4.heap[k2]? = some (.cells #[.slice x1 L.length y1, .slice none 0 0, .slice none 0 0] 27 (0, 0))) := (hb4.block _ (Array.getElem?_eq_some_iff.1 HR2c.out).1).trans HR2c.out
  have HT4 : Hid (w4.heap[k1]? = some (.cells #[.slice none 0 0, .slice none 0 0, .slice none 0 0] 27 (0, 0))) := (hb4.block _ (Array.getElem?_eq_some_iff.1 HT3.out).1).trans HT3.out
  have HB4 := hidF (blFl HB2c.out hb4 HB2c.out.size)
  have HV1d := hidF (HV1c.out.below hb4)
  have HV2 := hidF hv2
  clear hv2 hb4 hf2 HB2c HR1c HR2c HV1c HT3 w3
  have z1 := cell_of_row _ _ 1 _ _ _ HR2b.out
  have f1 := frozen_of_row _ _ 1 _ _ HR2b.out
  have a2 : (w4.setCell ⟨k2, 1, none⟩ (.slice x2 S.length y2)).cell? ⟨k0, 2, none⟩ = some c := cell_of_row _ _ 2 _ _ _ ((heap_setCell_other _ _ _ _ HK.out.2.1).trans HR1b.out)
  go_wp2_with fail
  have HR2c : Hid ((w4.setCell ⟨k2, 1, none⟩ (.slice x2 S.length y2)).heap[k2]? = some (.cells #[.slice x1 L.length y1, .slice x2 S.length y2, .slice none 0 0] 27 (0, 0))) := heap_setCell_same _ _ _ _ _ _ HR2b.out
  have HB2c : Hid (Below w.heap.size w (w4.setCell ⟨k2, 1, none⟩ (.slice x2 S.length y2))) := HB4.out.setCell (p := ⟨k2, 1, none⟩) HK.out.1 _
  have HT5 : Hid ((w4.setCell ⟨k2, 1, none⟩ (.slice x2 S.length y2)).heap[k1]? = some (.cells #[.slice none 0 0, .slice none 0 0, .slice none 0 0] 27 (0, 0))) := (heap_setCell_other _ _ _ _ HK.out.2.2.1).trans HT4.out
  have HV1c := hidF (HV1d.out.put 1 (.slice x2 S.length y2))
  have HV2c := hidF (HV2.out.put 1 (.slice x2 S.length y2))
  have hf3 := HF3.out k2 _ (Array.getElem?_eq_some_iff.1 HR2c.out).1 HB2c.out
  clear z1 f1 a2 HV1d HV2 HB4 HR1b HR2b HT4
  generalize w4.setCell ⟨k2, 1, none⟩ (.slice x2 S.length y2) = w5 at HR2c HB2c HV1c HV2c HT5 hf3 ⊢
  refine hf3.mono ?_
  rintro e w6 ⟨⟨x3, y3, rfl, hv3⟩, hb6⟩
  have HR2b : Hid (w6.heap[k2]? = some (.cells #[.slice x1 L.length y1, .slice x2 S.length y2, .slice none 0 0] 27 (0, 0))) := (hb6.block _ (Array.getElem?_eq_some_iff.1 HR2c.out).1).trans HR2c.out
  have HT6 : Hid (w6.heap[k1]? = some (.cells #[.slice none 0 0, .slice none 0 0, .slice none 0 0] 27 (0, 0))) := (hb6.block _ (Array.getElem?_eq_some_iff.1 HT5.out).1).trans HT5.out
  have HB6 := hidF (blFl HB2c.out hb6 HB2c.out.size)
  have HV1d := hidF (HV1c.out.below hb6)
  have HV2d := hidF (HV2c.out.below hb6)
  have HV3 := hidF hv3
  clear hv3 hb6 hf3 HB2c HR2c HV1c HV2c HT5 w5
  have z2 := cell_of_row _ _ 2 _ _ _ HR2b.out
  have f2 := frozen_of_row _ _ 2 _ _ HR2b.out
  have HR7 : Hid ((w6.setCell ⟨k2, 2, none⟩ (.slice x3 Q.length y3)).heap[k2]? = some (.cells #[.slice x1 L.length y1, .slice x2 S.length y2, .slice x3 Q.length y3] 27 (0, 0))) := heap_setCell_same _ _ _ _ _ _ HR2b.out
  have HT7 : Hid ((w6.setCell ⟨k2, 2, none⟩ (.slice x3 Q.length y3)).heap[k1]? = some (.cells #[.slice none 0 0, .slice none 0 0, .slice none 0 0] 27 (0, 0))) := (heap_setCell_other _ _ _ _ HK.out.2.2.1).trans HT6.out
  have hi : Option.map (·.size) (Try.prog.info? 27) = some 3 := by kernel_rfl
  have r0 := cell_of_row _ _ 0 _ _ _ HT7.out
  have r1 := cell_of_row _ _ 1 _ _ _ HT7.out
  have r2 := cell_of_row _ _ 2 _ _ _ HT7.out
  have t0 := frozen_of_row _ _ 0 _ _ HT7.out
  have t1 := frozen_of_row _ _ 1 _ _ HT7.out
  have t2 := frozen_of_row _ _ 2 _ _ HT7.out
  have HBX : Hid (Below w.heap.size w ((((w6.setCell ⟨k2, 2, none⟩ (.slice x3 Q.length y3)).setCell ⟨k1, 0, none⟩ (.slice x1 L.length y1)).setCell ⟨k1, 1, none⟩ (.slice x2 S.length y2)).setCell ⟨k1, 2, none⟩ (.slice x3 Q.length y3))) := (((HB6.out.setCell (p := ⟨k2, 2, none⟩) HK.out.1 _).setCell (p := ⟨k1, 0, none⟩) HK.out.2.2.2.2 _).setCell (p := ⟨k1, 1, none⟩) HK.out.2.2.2.2 _).setCell (p := ⟨k1, 2, none⟩) HK.out.2.2.2.2 _
  have HTX : Hid (((((w6.setCell ⟨k2, 2, none⟩ (.slice x3 Q.length y3)).setCell ⟨k1, 0, none⟩ (.slice x1 L.length y1)).setCell ⟨k1, 1, none⟩ (.slice x2 S.length y2)).setCell ⟨k1, 2, none⟩ (.slice x3 Q.length y3)).heap[k1]? = some (.cells #[.slice x1 L.length y1, .slice x2 S.length y2, .slice x3 Q.length y3] 27 (0, 0))) := heap_setCell_same _ _ _ _ _ _ (heap_setCell_same _ _ _ _ _ _ (heap_setCell_same _ _ _ _ _ _ HT7.out))
  have HVX : Hid (DkV ((((w6.setCell ⟨k2, 2, none⟩ (.slice x3 Q.length y3)).setCell ⟨k1, 0, none⟩ (.slice x1 L.length y1)).setCell ⟨k1, 1, none⟩ (.slice x2 S.length y2)).setCell ⟨k1, 2, none⟩ (.slice x3 Q.length y3)) (.agg #[.slice x1 L.length y1, .slice x2 S.length y2, .slice x3 Q.length y3]) L S Q) := ⟨_, _, _, rfl, ((((HV1d.out.put 2 _).put2 HK.out.2.2.2.1 0 _).put2 HK.out.2.2.2.1 1 _).put2 HK.out.2.2.2.1 2 _).1, ((((HV2d.out.put 2 _).put2 HK.out.2.2.2.1 0 _).put2 HK.out.2.2.2.1 1 _).put2 HK.out.2.2.2.1 2 _).1, ((((HV3.out.put 2 _).put2 HK.out.2.2.2.1 0 _).put2 HK.out.2.2.2.1 1 _).put2 HK.out.2.2.2.1 2 _).1⟩
  clear HV1d HV2d HV3 HT6 HR2b HB6
  go_wp2_with (first | refine wpList_load_row rfl 27 _ rfl k2 rfl 27 #[.slice x1 L.length y1, .slice x2 S.length y2, .slice x3 Q.length y3] (0, 0) _ HR7.out Try.underlying27 rfl hi ?_ | refine wpList_load_row rfl 27 _ rfl k1 rfl 27 #[.slice x1 L.length y1, .slice x2 S.length y2, .slice x3 Q.length y3] (0, 0) _ HTX.out Try.underlying27 rfl hi ?_)
  exact bodyPost_ret (results_cell_row rfl _ _ k1 27 #[.slice x1 L.length y1, .slice x2 S.length y2, .slice x3 Q.length y3] (0, 0) _ rfl HTX.out Try.underlying27 rfl (by kernel_rfl)) rfl ⟨⟨_, rfl, HVX.out⟩, HBX.out⟩
set_option maxRecDepth 100000 in
theorem szDk_any (a b c : Value) (n m k X : Nat) (F G : Nat → FlI) (O : Nat → DqI) (w : World) (hX : X ≤ 1048576) (hn : n ≤ maxLen) (hm : m ≤ maxLen) (hk : k ≤ maxLen) (d1 : ∀ i, i < n → (F i).a.size ≤ maxLen ∧ (F i).d.size ≤ maxLen) (d2 : ∀ i, i < m → (G i).a.size ≤ maxLen ∧ (G i).d.size ≤ maxLen) (d3 : ∀ i, i < k → (O i).a.size ≤ maxLen ∧ (O i).p.size ≤ maxLen ∧ (O i).d.size ≤ maxLen) (h1 : FlIn w a n F) (h2 : FlIn w b m G) (h3 : DqIn w c k O) :
    Calls Try.prog 26 #[.agg #[a, b, c], .int .i64 (X : Int)] w fun e w' => (∃ z, e = .returned (.int .i64 z) ∧ (0 ≤ z → z = ((X - (n + flTot F n) - (m + flTot G m) - (k + dqTot O k) : Nat) : Int) ∧ (n + flTot F n) + (m + flTot G m) + (k + dqTot O k) ≤ X)) ∧ Below w.heap.size w w' := by
  have HF1 : Hid (∀ w', Below w.heap.size w w' → Calls Try.prog 66 #[a, .int .i64 (X : Int)] w' fun e w'' => e = .returned (szVFl X (n + flTot F n)) ∧ Below w'.heap.size w' w'') := fun w' hb => szFlS_any a n X F w' hX hn d1 (h1.below hb)
  have HF2 : Hid (∀ (Y : Nat) w', Y ≤ X → Below w.heap.size w w' → Calls Try.prog 66 #[b, .int .i64 (Y : Int)] w' fun e w'' => e = .returned (szVFl Y (m + flTot G m)) ∧ Below w'.heap.size w' w'') := fun Y w' hY hb => szFlS_any b m Y G w' (by omega) hm d2 (h2.below hb)
  have HF3 : Hid (∀ (Y : Nat) w', Y ≤ X → Below w.heap.size w w' → Calls Try.prog 67 #[c, .int .i64 (Y : Int)] w' fun e w'' => e = .returned (szVDq Y (k + dqTot O k)) ∧ Below w'.heap.size w' w'') := fun Y w' hY hb => szDqS_any c k Y O w' (by omega) hk d3 (h3.below hb)
  clear d1 d2 d3 h1 h2 h3 hn hm hk
  generalize n + flTot F n = s1 at HF1 ⊢
  generalize m + flTot G m = s2 at HF2 ⊢
  generalize k + dqTot O k = s3 at HF3 ⊢
  have HB1 : Hid (Below w.heap.size w (w.alloc (.cells #[a, b, c] 50))) := (Below.refl _ _).alloc (Nat.le_refl _) _
  have HX1 : Hid ((w.alloc (.cells #[a, b, c] 50)).heap[w.heap.size]? = some (.cells #[a, b, c] 50 (0, 0))) := heap_alloc_new w _
  go_enter Try.func26, Try.ntmps26
  go_wp2_with fail
  refine (HF1.out _ HB1.out).mono ?_
  rintro e w2 ⟨rfl, hb2⟩
  have HX2 : Hid (w2.heap[w.heap.size]? = some (.cells #[a, b, c] 50 (0, 0))) := (hb2.block _ (Array.getElem?_eq_some_iff.1 HX1.out).1).trans HX1.out
  have HB2 := hidF (blFl HB1.out hb2 HB1.out.size)
  clear hb2 HB1 HX1
  have c1 := cell_of_row _ _ 1 _ _ _ HX2.out
  by_cases g1 : s1 ≤ X
  rotate_left
  · rw [szVFl_no g1]
    go_wp2_with fail
    go_ret
    exact ⟨⟨_, rfl, fun h => absurd h (by omega)⟩, HB2.out⟩
  rw [szVFl_le g1]
  have l1 : ¬ ((X - s1 : Nat) : Int) < 0 := by omega
  have HG1 : Hid (s1 ≤ X) := g1
  have hf2 := HF2.out (X - s1) w2 (by omega) HB2.out
  obtain ⟨Y, hY⟩ : ∃ Y, Y = X - s1 := ⟨_, rfl⟩
  rw [← hY] at l1 hf2 ⊢
  have HY := hidF hY
  clear g1 hY
  go_wp2_with fail
  refine hf2.mono ?_
  rintro e w3 ⟨rfl, hb3⟩
  have HX3 : Hid (w3.heap[w.heap.size]? = some (.cells #[a, b, c] 50 (0, 0))) := (hb3.block _ (Array.getElem?_eq_some_iff.1 HX2.out).1).trans HX2.out
  have HB3 := hidF (blFl HB2.out hb3 HB2.out.size)
  clear hb3 HB2 HX2 c1 l1 hf2
  have c2 := cell_of_row _ _ 2 _ _ _ HX3.out
  by_cases g2 : s2 ≤ Y
  rotate_left
  · rw [szVFl_no g2]
    go_wp2_with fail
    go_ret
    exact ⟨⟨_, rfl, fun h => absurd h (by omega)⟩, HB3.out⟩
  rw [szVFl_le g2]
  have l2 : ¬ ((Y - s2 : Nat) : Int) < 0 := by omega
  have HG2 : Hid (s2 ≤ Y) := g2
  have hf3 := HF3.out (Y - s2) w3 (by have := HY.out; omega) HB3.out
  obtain ⟨Z, hZ⟩ : ∃ Z, Z = Y - s2 := ⟨_, rfl⟩
  rw [← hZ] at l2 hf3 ⊢
  have HZ := hidF hZ
  clear g2 hZ
  go_wp2_with fail
  refine hf3.mono ?_
  rintro e w4 ⟨rfl, hb4⟩
  have HB4 := hidF (blFl HB3.out hb4 HB3.out.size)
  clear hb4 HB3 HX3 c2 l2 hf3
  by_cases g3 : s3 ≤ Z
  rotate_left
  · rw [szVDq_no g3]
    go_wp2_with fail
    go_ret
    exact ⟨⟨_, rfl, fun h => absurd h (by omega)⟩, HB4.out⟩
  rw [szVDq_le g3]
  have l3 : ¬ ((Z - s3 : Nat) : Int) < 0 := by omega
  have HG3 : Hid (s3 ≤ Z) := g3
  clear g3
  go_wp2_with fail
  go_ret
  refine ⟨⟨_, rfl, fun _ => ?_⟩, HB4.out⟩
  have := HY.out
  have := HZ.out
  have := HG1.out
  have := HG2.out
  have := HG3.out
  constructor <;> omega
set_option maxRecDepth 100000 in
theorem eqDk_any (v1 v2 : Value) (n m k : Nat) (F G : Nat → FlI) (O : Nat → DqI) (w : World) (hn : n ≤ 1048576) (hm : m ≤ 1048576) (hk : k ≤ 1048576) (h1 : DkV w v1 (flM n F) (flM m G) (dqM k O)) (h2 : DkV w v2 (flM n F) (flM m G) (dqM k O)) :
    Calls Try.prog 28 #[v1, v2] w fun e w' => e = .returned (.bool true) ∧ Below w.heap.size w w' := by
  obtain ⟨a1, b1, c1, rfl, p1, p2, p3⟩ := h1
  obtain ⟨a2, b2, c2, rfl, q1, q2, q3⟩ := h2
  have HF1 : Hid (∀ w', Below w.heap.size w w' → Calls Try.prog 70 #[a1, a2] w' fun e w'' => e = .returned (.bool true) ∧ Below w'.heap.size w' w'') := fun w' hb => eqFlS_any a1 a2 n F w' hn (p1.below hb).fargs (q1.below hb).fargs
  have HF2 : Hid (∀ w', Below w.heap.size w w' → Calls Try.prog 70 #[b1, b2] w' fun e w'' => e = .returned (.bool true) ∧ Below w'.heap.size w' w'') := fun w' hb => eqFlS_any b1 b2 m G w' hm (p2.below hb).fargs (q2.below hb).fargs
  have HF3 : Hid (∀ w', Below w.heap.size w w' → Calls Try.prog 71 #[c1, c2] w' fun e w'' => e = .returned (.bool true) ∧ Below w'.heap.size w' w'') := fun w' hb => eqDqS_any c1 c2 k O w' hk (p3.below hb).dargs (q3.below hb).dargs
  clear p1 p2 p3 q1 q2 q3
  have HB1 : Hid (Below w.heap.size w ((w.alloc (.cells #[a1, b1, c1] 27)).alloc (.cells #[a2, b2, c2] 27))) := ((Below.refl _ _).alloc (Nat.le_refl _) _).alloc (by simp) _
  have HX1 : Hid (((w.alloc (.cells #[a1, b1, c1] 27)).alloc (.cells #[a2, b2, c2] 27)).heap[w.heap.size]? = some (.cells #[a1, b1, c1] 27 (0, 0))) := by show _ = _; rw [Below.heap_alloc _ _ _ (by simp), heap_alloc_new]
  have HY1 : Hid (((w.alloc (.cells #[a1, b1, c1] 27)).alloc (.cells #[a2, b2, c2] 27)).heap[w.heap.size + 1]? = some (.cells #[a2, b2, c2] 27 (0, 0))) := by
    have := heap_alloc_new (w.alloc (.cells #[a1, b1, c1] 27)) (.cells #[a2, b2, c2] 27)
    rw [World.size_alloc] at this
    exact this
  go_enter Try.func28, Try.ntmps28
  go_wp2_with fail
  have hf1 := HF1.out _ HB1.out
  generalize (w.alloc (.cells #[a1, b1, c1] 27)).alloc (.cells #[a2, b2, c2] 27) = w1 at HB1 HX1 HY1 hf1 ⊢
  refine hf1.mono ?_
  rintro e w2 ⟨rfl, hb2⟩
  have HX2 : Hid (w2.heap[w.heap.size]? = some (.cells #[a1, b1, c1] 27 (0, 0))) := (hb2.block _ (Array.getElem?_eq_some_iff.1 HX1.out).1).trans HX1.out
  have HY2 : Hid (w2.heap[w.heap.size + 1]? = some (.cells #[a2, b2, c2] 27 (0, 0))) := (hb2.block _ (Array.getElem?_eq_some_iff.1 HY1.out).1).trans HY1.out
  have HB2 := hidF (blFl HB1.out hb2 HB1.out.size)
  clear hb2 HB1 HX1 HY1 hf1
  have x1 := cell_of_row _ _ 1 _ _ _ HX2.out
  have y1 := cell_of_row _ _ 1 _ _ _ HY2.out
  go_wp2_with fail
  refine (HF2.out _ HB2.out).mono ?_
  rintro e w3 ⟨rfl, hb3⟩
  have HX3 : Hid (w3.heap[w.heap.size]? = some (.cells #[a1, b1, c1] 27 (0, 0))) := (hb3.block _ (Array.getElem?_eq_some_iff.1 HX2.out).1).trans HX2.out
  have HY3 : Hid (w3.heap[w.heap.size + 1]? = some (.cells #[a2, b2, c2] 27 (0, 0))) := (hb3.block _ (Array.getElem?_eq_some_iff.1 HY2.out).1).trans HY2.out
  have HB3 := hidF (blFl HB2.out hb3 HB2.out.size)
  clear hb3 HB2 HX2 HY2 x1 y1
  have x2 := cell_of_row _ _ 2 _ _ _ HX3.out
  have y2 := cell_of_row _ _ 2 _ _ _ HY3.out
  go_wp2_with fail
  refine (HF3.out _ HB3.out).mono ?_
  rintro e w4 ⟨rfl, hb4⟩
  have HB4 := hidF (blFl HB3.out hb4 HB3.out.size)
  clear hb4 HB3 HX3 HY3 x2 y2
  go_wp2_with fail
  go_ret
  exact ⟨rfl, HB4.out⟩
end Go.Proofs.Ytanlggglbpibfaa
