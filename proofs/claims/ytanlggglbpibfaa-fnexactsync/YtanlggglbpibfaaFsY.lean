/-
  What the law makes of a disk that came in: rows of its own, no two alike.
-/
import Derived.Test.YtanlggglbpibfaaFsX
namespace Go.Proofs.Ytanlggglbpibfaa
open Go.RowKit
set_option linter.unusedVariables false
set_option linter.unusedSimpArgs false
/-- three rows of a disk that can be marked -/
structure DkX (B : Nat) (w : World) (a b c : Value) (n m k : Nat) (L S : List FlI) (O : List DqI) : Prop where
  va : FlV w a L
  vb : FlV w b S
  vc : DqV w c O
  ra : RwF w a n
  rb : RwF w b m
  rc : RwQ w c k
  at_ : ∀ g, a.ownBlock = some g ∨ b.ownBlock = some g ∨ c.ownBlock = some g → B ≤ g ∧ g < w.heap.size
  ab : ∀ g, a.ownBlock = some g → b.ownBlock ≠ some g ∧ c.ownBlock ≠ some g
  bc : ∀ g, b.ownBlock = some g → c.ownBlock ≠ some g
def KFlR (k : Nat) (w : World) (v : Value) (n : Nat) (L : List FlI) : Prop := (FlV w v L ∧ RwF w v n) ∧ ∀ g, v.ownBlock = some g → k < g
theorem KFlR.lt {k n : Nat} {w : World} {v : Value} {L : List FlI} (h : KFlR k w v n L) {g : Nat} (hg : v.ownBlock = some g) (h0 : 0 < n) : g < w.heap.size := by
  obtain ⟨a, c, rfl, h1⟩ := h.1.2.form
  obtain ⟨g', cur, rfl, h2, _⟩ := h1 h0
  cases hg
  exact (Array.getElem?_eq_some_iff.1 h2).1
theorem KFlR.keep {k n : Nat} {w w' : World} {v : Value} {L : List FlI} (h : KFlR k w v n L) (hb : ∀ g, v.ownBlock = some g → w'.heap[g]? = w.heap[g]?) : KFlR k w' v n L := ⟨⟨h.1.1.keep hb, h.1.2.keep hb⟩, h.2⟩
theorem RwF.below {w w' : World} {v : Value} {n : Nat} (h : RwF w v n) (hb : Below w.heap.size w w') : RwF w' v n := by
  obtain ⟨a, c, rfl, h1⟩ := h.form
  exact ⟨a, c, rfl, fun h0 => by obtain ⟨g, cur, rfl, h2, h3⟩ := h1 h0; exact ⟨g, cur, rfl, (hb.block g (Array.getElem?_eq_some_iff.1 h2).1).trans h2, h3⟩⟩
theorem KFlR.below {k n : Nat} {w w' : World} {v : Value} {L : List FlI} (h : KFlR k w v n L) (hb : Below w.heap.size w w') : KFlR k w' v n L := ⟨⟨h.1.1.below hb, h.1.2.below hb⟩, h.2⟩
theorem KFlR.put {k n : Nat} {w : World} {v : Value} {L : List FlI} (h : KFlR k w v n L) (j : Nat) (u : Value) : KFlR k (w.setCell ⟨k, j, none⟩ u) v n L := h.keep fun g hg => heap_setCell_other _ _ _ _ (by have := h.2 g hg; show g ≠ k; omega)
theorem KFlR.put2 {k n : Nat} {w : World} {v : Value} {L : List FlI} (h : KFlR k w v n L) {k' : Nat} (hk : k' ≤ k) (j : Nat) (u : Value) : KFlR k (w.setCell ⟨k', j, none⟩ u) v n L := h.keep fun g hg => heap_setCell_other _ _ _ _ (by have := h.2 g hg; show g ≠ k'; omega)
def KDqR (k : Nat) (w : World) (v : Value) (n : Nat) (L : List DqI) : Prop := (DqV w v L ∧ RwQ w v n) ∧ ∀ g, v.ownBlock = some g → k < g
theorem KDqR.keep {k n : Nat} {w w' : World} {v : Value} {L : List DqI} (h : KDqR k w v n L) (hb : ∀ g, v.ownBlock = some g → w'.heap[g]? = w.heap[g]?) : KDqR k w' v n L := ⟨⟨h.1.1.keep hb, h.1.2.keep hb⟩, h.2⟩
theorem KDqR.put {k n : Nat} {w : World} {v : Value} {L : List DqI} (h : KDqR k w v n L) (j : Nat) (u : Value) : KDqR k (w.setCell ⟨k, j, none⟩ u) v n L := h.keep fun g hg => heap_setCell_other _ _ _ _ (by have := h.2 g hg; show g ≠ k; omega)
theorem KDqR.put2 {k n : Nat} {w : World} {v : Value} {L : List DqI} (h : KDqR k w v n L) {k' : Nat} (hk : k' ≤ k) (j : Nat) (u : Value) : KDqR k (w.setCell ⟨k', j, none⟩ u) v n L := h.keep fun g hg => heap_setCell_other _ _ _ _ (by have := h.2 g hg; show g ≠ k'; omega)
set_option maxRecDepth 100000 in
set_option maxHeartbeats 2000000 in
theorem toDkX_any (a b c : Value) (n m k : Nat) (F G : Nat → FlI) (O : Nat → DqI) (w : World) (hn : n ≤ 1048576) (hm : m ≤ 1048576) (hk : k ≤ 1048576) (h1 : FlIn w a n F) (h2 : FlIn w b m G) (h3 : DqIn w c k O) :
    Calls Try.prog 27 #[.agg #[a, b, c]] w fun e w' => (∃ a b c, e = .returned (.agg #[a, b, c]) ∧ DkX w.heap.size w' a b c n m k (flM n F) (flM m G) (dqM k O)) ∧ Below w.heap.size w w' := by
  have HF1 : Hid (∀ k2 w', k2 < w'.heap.size → Below w.heap.size w w' → Calls Try.prog 68 #[a] w' fun e w'' => (∃ x y, e = .returned (.slice x (flM n F).length y) ∧ KFlR k2 w'' (.slice x (flM n F).length y) n (flM n F) ∧ ∀ g, (Value.slice x (flM n F).length y).ownBlock = some g → w'.heap.size ≤ g ∧ g < w''.heap.size) ∧ Below w'.heap.size w' w'') := fun k2 w' hk0 hb => (toFlR_any a n F w' hn (h1.below hb)).mono fun e w'' ⟨⟨x, y, e1, e2, e3, e4⟩, e5⟩ => by
    refine ⟨⟨x, y, ?_, ?_, ?_⟩, e5⟩ <;> rw [flM_len]
    · exact e1
    · exact ⟨⟨e2, e3⟩, fun g hg => Nat.lt_of_lt_of_le hk0 (e4 g hg).1⟩
    · exact e4
  have HF2 : Hid (∀ k2 w', k2 < w'.heap.size → Below w.heap.size w w' → Calls Try.prog 68 #[b] w' fun e w'' => (∃ x y, e = .returned (.slice x (flM m G).length y) ∧ KFlR k2 w'' (.slice x (flM m G).length y) m (flM m G) ∧ ∀ g, (Value.slice x (flM m G).length y).ownBlock = some g → w'.heap.size ≤ g ∧ g < w''.heap.size) ∧ Below w'.heap.size w' w'') := fun k2 w' hk0 hb => (toFlR_any b m G w' hm (h2.below hb)).mono fun e w'' ⟨⟨x, y, e1, e2, e3, e4⟩, e5⟩ => by
    refine ⟨⟨x, y, ?_, ?_, ?_⟩, e5⟩ <;> rw [flM_len]
    · exact e1
    · exact ⟨⟨e2, e3⟩, fun g hg => Nat.lt_of_lt_of_le hk0 (e4 g hg).1⟩
    · exact e4
  have HF3 : Hid (∀ k2 w', k2 < w'.heap.size → Below w.heap.size w w' → Calls Try.prog 69 #[c] w' fun e w'' => (∃ x y, e = .returned (.slice x (dqM k O).length y) ∧ KDqR k2 w'' (.slice x (dqM k O).length y) k (dqM k O) ∧ ∀ g, (Value.slice x (dqM k O).length y).ownBlock = some g → w'.heap.size ≤ g ∧ g < w''.heap.size) ∧ Below w'.heap.size w' w'') := fun k2 w' hk0 hb => (toDqR_any c k O w' hk (h3.below hb)).mono fun e w'' ⟨⟨x, y, e1, e2, e3, e4⟩, e5⟩ => by
    refine ⟨⟨x, y, ?_, ?_, ?_⟩, e5⟩ <;> rw [dqM_len]
    · exact e1
    · exact ⟨⟨e2, e3⟩, fun g hg => Nat.lt_of_lt_of_le hk0 (e4 g hg).1⟩
    · exact e4
  clear hn hm hk h1 h2 h3
  generalize flM n F = L at HF1 ⊢
  generalize flM m G = S at HF2 ⊢
  generalize dqM k O = Q at HF3 ⊢
  go_enter Try.func27, Try.ntmps27
  have HB1 : Hid (Below w.heap.size w (((w.alloc (.cells #[a, b, c] 50)).alloc (.cells #[.slice none 0 0, .slice none 0 0, .slice none 0 0] 27)).alloc (.cells #[.slice none 0 0, .slice none 0 0, .slice none 0 0] 27))) := (((Below.refl _ _).alloc (Nat.le_refl _) _).alloc (by simp) _).alloc (by simp; omega) _
  have HR1 : Hid ((((w.alloc (.cells #[a, b, c] 50)).alloc (.cells #[.slice none 0 0, .slice none 0 0, .slice none 0 0] 27)).alloc (.cells #[.slice none 0 0, .slice none 0 0, .slice none 0 0] 27)).heap[w.heap.size]? = some (.cells #[a, b, c] 50 (0, 0))) := by
    show _ = _
    rw [Below.heap_alloc _ _ _ (by simp; omega), Below.heap_alloc _ _ _ (by simp), heap_alloc_new]
  have HR2 : Hid ((((w.alloc (.cells #[a, b, c] 50)).alloc (.cells #[.slice none 0 0, .slice none 0 0, .slice none 0 0] 27)).alloc (.cells #[.slice none 0 0, .slice none 0 0, .slice none 0 0] 27)).heap[w.heap.size + 1 + 1]? = some (.cells #[.slice none 0 0, .slice none 0 0, .slice none 0 0] 27 (0, 0))) := by
    have := heap_alloc_new ((w.alloc (.cells #[a, b, c] 50)).alloc (.cells #[.slice none 0 0, .slice none 0 0, .slice none 0 0] 27)) (.cells #[.slice none 0 0, .slice none 0 0, .slice none 0 0] 27)
    rw [World.size_alloc, World.size_alloc] at this
    exact this
  have HT1 : Hid ((((w.alloc (.cells #[a, b, c] 50)).alloc (.cells #[.slice none 0 0, .slice none 0 0, .slice none 0 0] 27)).alloc (.cells #[.slice none 0 0, .slice none 0 0, .slice none 0 0] 27)).heap[w.heap.size + 1]? = some (.cells #[.slice none 0 0, .slice none 0 0, .slice none 0 0] 27 (0, 0))) := by
    have := heap_alloc_new (w.alloc (.cells #[a, b, c] 50)) (.cells #[.slice none 0 0, .slice none 0 0, .slice none 0 0] 27)
    rw [World.size_alloc] at this
    show _ = _
    rw [Below.heap_alloc _ _ _ (by simp)]
    exact this
  go_wp2_with fail
  have hf1 := HF1.out (w.heap.size + 1 + 1) _ (Array.getElem?_eq_some_iff.1 HR2.out).1 HB1.out
  generalize ((w.alloc (.cells #[a, b, c] 50)).alloc (.cells #[.slice none 0 0, .slice none 0 0, .slice none 0 0] 27)).alloc (.cells #[.slice none 0 0, .slice none 0 0, .slice none 0 0] 27) = w1 at HB1 HR1 HR2 HT1 hf1 ⊢
  refine hf1.mono ?_
  rintro e w2 ⟨⟨x1, y1, rfl, hv1, hu1⟩, hb2⟩
  have HU1 : Hid (∀ g, (Value.slice x1 L.length y1).ownBlock = some g → w.heap.size ≤ g ∧ g < w2.heap.size) := fun g hg => ⟨Nat.le_trans HB1.out.size (hu1 g hg).1, (hu1 g hg).2⟩
  clear hu1
  obtain ⟨k0, hk0⟩ : ∃ k0, k0 = w.heap.size := ⟨_, rfl⟩
  obtain ⟨k1, hk1⟩ : ∃ k1, k1 = w.heap.size + 1 := ⟨_, rfl⟩
  obtain ⟨k2, hk2⟩ : ∃ k2, k2 = w.heap.size + 1 + 1 := ⟨_, rfl⟩
  have HK : Hid (w.heap.size ≤ k2 ∧ k0 ≠ k2 ∧ k1 ≠ k2 ∧ k1 ≤ k2 ∧ w.heap.size ≤ k1) := ⟨by omega, by omega, by omega, by omega, by omega⟩
  have HR1b : Hid (w2.heap[k0]? = some (.cells #[a, b, c] 50 (0, 0))) := by rw [hk0]; exact (hb2.block _ (Array.getElem?_eq_some_iff.1 HR1.out).1).trans HR1.out
  have HR2b : Hid (w2.heap[k2]? = some (.cells #[.slice none 0 0, .slice none 0 0, .slice none 0 0] 27 (0, 0))) := by rw [hk2]; exact (hb2.block _ (Array.getElem?_eq_some_iff.1 HR2.out).1).trans HR2.out
  have HT2 : Hid (w2.heap[k1]? = some (.cells #[.slice none 0 0, .slice none 0 0, .slice none 0 0] 27 (0, 0))) := by rw [hk1]; exact (hb2.block _ (Array.getElem?_eq_some_iff.1 HT1.out).1).trans HT1.out
  have HB2 := hidF (blFl HB1.out hb2 HB1.out.size)
  have HV1 : Hid (KFlR k2 w2 (.slice x1 L.length y1) n L) := by rw [hk2]; exact hv1
  rw [← hk2, ← hk1, ← hk0]
  clear hk0 hk1 hk2 hv1 hb2 hf1 HB1 HR1 HR2 HT1 w1
  have z0 := cell_of_row _ _ 0 _ _ _ HR2b.out
  have f0 := frozen_of_row _ _ 0 _ _ HR2b.out
  have a1 : (w2.setCell ⟨k2, 0, none⟩ (.slice x1 L.length y1)).cell? ⟨k0, 1, none⟩ = some b := cell_of_row _ _ 1 _ _ _ ((heap_setCell_other _ _ _ _ HK.out.2.1).trans HR1b.out)
  go_wp2_with fail
  have HR2c : Hid ((w2.setCell ⟨k2, 0, none⟩ (.slice x1 L.length y1)).heap[k2]? = some (.cells #[.slice x1 L.length y1, .slice none 0 0, .slice none 0 0] 27 (0, 0))) := heap_setCell_same _ _ _ _ _ _ HR2b.out
  have HR1c : Hid ((w2.setCell ⟨k2, 0, none⟩ (.slice x1 L.length y1)).heap[k0]? = some (.cells #[a, b, c] 50 (0, 0))) := (heap_setCell_other _ _ _ _ HK.out.2.1).trans HR1b.out
  have HB2c : Hid (Below w.heap.size w (w2.setCell ⟨k2, 0, none⟩ (.slice x1 L.length y1))) := HB2.out.setCell (p := ⟨k2, 0, none⟩) HK.out.1 _
  have HT3 : Hid ((w2.setCell ⟨k2, 0, none⟩ (.slice x1 L.length y1)).heap[k1]? = some (.cells #[.slice none 0 0, .slice none 0 0, .slice none 0 0] 27 (0, 0))) := (heap_setCell_other _ _ _ _ HK.out.2.2.1).trans HT2.out
  have HV1c := hidF (HV1.out.put 0 (.slice x1 L.length y1))
  have HS3 : Hid ((w2.setCell ⟨k2, 0, none⟩ (.slice x1 L.length y1)).heap.size = w2.heap.size) := by show _ = _; simp
  have hf2 := HF2.out k2 _ (Array.getElem?_eq_some_iff.1 HR2c.out).1 HB2c.out
  clear z0 f0 a1 HV1 HB2 HR1b HR2b HT2
  generalize w2.setCell ⟨k2, 0, none⟩ (.slice x1 L.length y1) = w3 at HR2c HR1c HB2c HV1c HT3 HS3 hf2 ⊢
  refine hf2.mono ?_
  rintro e w4 ⟨⟨x2, y2, rfl, hv2, hu2⟩, hb4⟩
  have HU2 : Hid ((∀ g, (Value.slice x2 S.length y2).ownBlock = some g → w2.heap.size ≤ g ∧ g < w4.heap.size) ∧ w2.heap.size ≤ w4.heap.size) := ⟨fun g hg => ⟨by have := (hu2 g hg).1; have := HS3.out; omega, (hu2 g hg).2⟩, by have := hb4.size; have := HS3.out; omega⟩
  have HR1b : Hid (w4.heap[k0]? = some (.cells #[a, b, c] 50 (0, 0))) := (hb4.block _ (Array.getElem?_eq_some_iff.1 HR1c.out).1).trans HR1c.out
  have HR2b : Hid (w4.heap[k2]? = some (.cells #[.slice x1 L.length y1, .slice none 0 0, .slice none 0 0] 27 (0, 0))) := (hb4.block _ (Array.getElem?_eq_some_iff.1 HR2c.out).1).trans HR2c.out
  have HT4 : Hid (w4.heap[k1]? = some (.cells #[.slice none 0 0, .slice none 0 0, .slice none 0 0] 27 (0, 0))) := (hb4.block _ (Array.getElem?_eq_some_iff.1 HT3.out).1).trans HT3.out
  have HB4 := hidF (blFl HB2c.out hb4 HB2c.out.size)
  have HV1d := hidF (HV1c.out.below hb4)
  have HV2 := hidF hv2
  clear hv2 hu2 hb4 hf2 HS3 HB2c HR1c HR2c HV1c HT3 w3
  have z1 := cell_of_row _ _ 1 _ _ _ HR2b.out
  have f1 := frozen_of_row _ _ 1 _ _ HR2b.out
  have a2 : (w4.setCell ⟨k2, 1, none⟩ (.slice x2 S.length y2)).cell? ⟨k0, 2, none⟩ = some c := cell_of_row _ _ 2 _ _ _ ((heap_setCell_other _ _ _ _ HK.out.2.1).trans HR1b.out)
  go_wp2_with fail
  have HR2c : Hid ((w4.setCell ⟨k2, 1, none⟩ (.slice x2 S.length y2)).heap[k2]? = some (.cells #[.slice x1 L.length y1, .slice x2 S.length y2, .slice none 0 0] 27 (0, 0))) := heap_setCell_same _ _ _ _ _ _ HR2b.out
  have HB2c : Hid (Below w.heap.size w (w4.setCell ⟨k2, 1, none⟩ (.slice x2 S.length y2))) := HB4.out.setCell (p := ⟨k2, 1, none⟩) HK.out.1 _
  have HT5 : Hid ((w4.setCell ⟨k2, 1, none⟩ (.slice x2 S.length y2)).heap[k1]? = some (.cells #[.slice none 0 0, .slice none 0 0, .slice none 0 0] 27 (0, 0))) := (heap_setCell_other _ _ _ _ HK.out.2.2.1).trans HT4.out
  have HV1c := hidF (HV1d.out.put 1 (.slice x2 S.length y2))
  have HV2c := hidF (HV2.out.put 1 (.slice x2 S.length y2))
  have HS5 : Hid ((w4.setCell ⟨k2, 1, none⟩ (.slice x2 S.length y2)).heap.size = w4.heap.size) := by show _ = _; simp
  have hf3 := HF3.out k2 _ (Array.getElem?_eq_some_iff.1 HR2c.out).1 HB2c.out
  clear z1 f1 a2 HV1d HV2 HB4 HR1b HR2b HT4
  generalize w4.setCell ⟨k2, 1, none⟩ (.slice x2 S.length y2) = w5 at HR2c HB2c HV1c HV2c HT5 HS5 hf3 ⊢
  refine hf3.mono ?_
  rintro e w6 ⟨⟨x3, y3, rfl, hv3, hu3⟩, hb6⟩
  have HU3 : Hid ((∀ g, (Value.slice x3 Q.length y3).ownBlock = some g → w4.heap.size ≤ g ∧ g < w6.heap.size) ∧ w4.heap.size ≤ w6.heap.size) := ⟨fun g hg => ⟨by have := (hu3 g hg).1; have := HS5.out; omega, (hu3 g hg).2⟩, by have := hb6.size; have := HS5.out; omega⟩
  have HR2b : Hid (w6.heap[k2]? = some (.cells #[.slice x1 L.length y1, .slice x2 S.length y2, .slice none 0 0] 27 (0, 0))) := (hb6.block _ (Array.getElem?_eq_some_iff.1 HR2c.out).1).trans HR2c.out
  have HT6 : Hid (w6.heap[k1]? = some (.cells #[.slice none 0 0, .slice none 0 0, .slice none 0 0] 27 (0, 0))) := (hb6.block _ (Array.getElem?_eq_some_iff.1 HT5.out).1).trans HT5.out
  have HB6 := hidF (blFl HB2c.out hb6 HB2c.out.size)
  have HV1d := hidF (HV1c.out.below hb6)
  have HV2d := hidF (HV2c.out.below hb6)
  have HV3 := hidF hv3
  clear hv3 hu3 hb6 hf3 HS5 HB2c HR2c HV1c HV2c HT5 w5
  have z2 := cell_of_row _ _ 2 _ _ _ HR2b.out
  have f2 := frozen_of_row _ _ 2 _ _ HR2b.out
  have HR7 : Hid ((w6.setCell ⟨k2, 2, none⟩ (.slice x3 Q.length y3)).heap[k2]? = some (.cells #[.slice x1 L.length y1, .slice x2 S.length y2, .slice x3 Q.length y3] 27 (0, 0))) := heap_setCell_same _ _ _ _ _ _ HR2b.out
  have HT7 : Hid ((w6.setCell ⟨k2, 2, none⟩ (.slice x3 Q.length y3)).heap[k1]? = some (.cells #[.slice none 0 0, .slice none 0 0, .slice none 0 0] 27 (0, 0))) := (heap_setCell_other _ _ _ _ HK.out.2.2.1).trans HT6.out
  have hi : Option.map (·.size) (Try.prog.info? 27) = some 3 := by kernel_rfl
  have r0 := cell_of_row _ _ 0 _ _ _ HT7.out
  have r1 := cell_of_row _ _ 1 _ _ _ HT7.out
  have r2 := cell_of_row _ _ 2 _ _ _ HT7.out
  have t0 := frozen_of_row _ _ 0 _ _ HT7.out
  have t1 := frozen_of_row _ _ 1 _ _ HT7.out
  have t2 := frozen_of_row _ _ 2 _ _ HT7.out
  have HBX : Hid (Below w.heap.size w ((((w6.setCell ⟨k2, 2, none⟩ (.slice x3 Q.length y3)).setCell ⟨k1, 0, none⟩ (.slice x1 L.length y1)).setCell ⟨k1, 1, none⟩ (.slice x2 S.length y2)).setCell ⟨k1, 2, none⟩ (.slice x3 Q.length y3))) := (((HB6.out.setCell (p := ⟨k2, 2, none⟩) HK.out.1 _).setCell (p := ⟨k1, 0, none⟩) HK.out.2.2.2.2 _).setCell (p := ⟨k1, 1, none⟩) HK.out.2.2.2.2 _).setCell (p := ⟨k1, 2, none⟩) HK.out.2.2.2.2 _
  have HTX : Hid (((((w6.setCell ⟨k2, 2, none⟩ (.slice x3 Q.length y3)).setCell ⟨k1, 0, none⟩ (.slice x1 L.length y1)).setCell ⟨k1, 1, none⟩ (.slice x2 S.length y2)).setCell ⟨k1, 2, none⟩ (.slice x3 Q.length y3)).heap[k1]? = some (.cells #[.slice x1 L.length y1, .slice x2 S.length y2, .slice x3 Q.length y3] 27 (0, 0))) := heap_setCell_same _ _ _ _ _ _ (heap_setCell_same _ _ _ _ _ _ (heap_setCell_same _ _ _ _ _ _ HT7.out))
  have hA := (((HV1d.out.put 2 (.slice x3 Q.length y3)).put2 HK.out.2.2.2.1 0 (.slice x1 L.length y1)).put2 HK.out.2.2.2.1 1 (.slice x2 S.length y2)).put2 HK.out.2.2.2.1 2 (.slice x3 Q.length y3)
  have hB := (((HV2d.out.put 2 (.slice x3 Q.length y3)).put2 HK.out.2.2.2.1 0 (.slice x1 L.length y1)).put2 HK.out.2.2.2.1 1 (.slice x2 S.length y2)).put2 HK.out.2.2.2.1 2 (.slice x3 Q.length y3)
  have hC := (((HV3.out.put 2 (.slice x3 Q.length y3)).put2 HK.out.2.2.2.1 0 (.slice x1 L.length y1)).put2 HK.out.2.2.2.1 1 (.slice x2 S.length y2)).put2 HK.out.2.2.2.1 2 (.slice x3 Q.length y3)
  have hz9 : ((((w6.setCell ⟨k2, 2, none⟩ (.slice x3 Q.length y3)).setCell ⟨k1, 0, none⟩ (.slice x1 L.length y1)).setCell ⟨k1, 1, none⟩ (.slice x2 S.length y2)).setCell ⟨k1, 2, none⟩ (.slice x3 Q.length y3)).heap.size = w6.heap.size := by simp
  have HVX : Hid (DkX w.heap.size ((((w6.setCell ⟨k2, 2, none⟩ (.slice x3 Q.length y3)).setCell ⟨k1, 0, none⟩ (.slice x1 L.length y1)).setCell ⟨k1, 1, none⟩ (.slice x2 S.length y2)).setCell ⟨k1, 2, none⟩ (.slice x3 Q.length y3)) (.slice x1 L.length y1) (.slice x2 S.length y2) (.slice x3 Q.length y3) n m k L S Q) :=
    ⟨hA.1.1, hB.1.1, hC.1.1, hA.1.2, hB.1.2, hC.1.2, fun g hg => by
      rw [hz9]
      have h2 := HU2.out.2
      have h3 := HU3.out.2
      rcases hg with hg | hg | hg
      · have := HU1.out g hg; omega
      · have := HU1.out; have := HU2.out.1 g hg; have := HB6.out.size; have := hB.2 g hg; have := HK.out.1; omega
      · have := HU3.out.1 g hg; have := hC.2 g hg; have := HK.out.1; omega, fun g hg => ⟨fun hb => by have := HU1.out g hg; have := HU2.out.1 g hb; omega, fun hc => by have := HU1.out g hg; have := HU3.out.1 g hc; have := HU2.out.2; omega⟩, fun g hb hc => by have := HU2.out.1 g hb; have := HU3.out.1 g hc; omega⟩
  clear hA hB hC hz9
  clear HV1d HV2d HV3 HT6 HR2b HB6
  go_wp2_with (first | refine wpList_load_row rfl 27 _ rfl k2 rfl 27 #[.slice x1 L.length y1, .slice x2 S.length y2, .slice x3 Q.length y3] (0, 0) _ HR7.out Try.underlying27 rfl hi ?_ | refine wpList_load_row rfl 27 _ rfl k1 rfl 27 #[.slice x1 L.length y1, .slice x2 S.length y2, .slice x3 Q.length y3] (0, 0) _ HTX.out Try.underlying27 rfl hi ?_)
  exact bodyPost_ret (results_cell_row rfl _ _ k1 27 #[.slice x1 L.length y1, .slice x2 S.length y2, .slice x3 Q.length y3] (0, 0) _ rfl HTX.out Try.underlying27 rfl (by kernel_rfl)) rfl ⟨⟨_, _, _, rfl, HVX.out⟩, HBX.out⟩
end Go.Proofs.Ytanlggglbpibfaa
