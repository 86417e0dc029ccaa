/-
  What the law makes of a list of pieces that came in; how much they hold; that two lists made of the same are alike.
-/
import Derived.Test.YtibciflmalfbjaaPc
namespace Go.Proofs.Ytibciflmalfbjaa
open Go.RowKit
set_option linter.unusedVariables false
set_option linter.unusedSimpArgs false
def set3 (C : Array Value) (q : Nat) (a b c : Value) : Array Value := ((C.setIfInBounds q a).setIfInBounds (q + 1) b).setIfInBounds (q + 2) c
theorem set3_size (C : Array Value) (q : Nat) (a b c : Value) : (set3 C q a b c).size = C.size := by simp [set3]
theorem set3_low (C : Array Value) (q : Nat) (a b c : Value) (j : Nat) (h : j < q) : (set3 C q a b c)[j]? = C[j]? := by
  unfold set3
  rw [Array.getElem?_setIfInBounds_ne (by omega), Array.getElem?_setIfInBounds_ne (by omega), Array.getElem?_setIfInBounds_ne (by omega)]
theorem set3_0 (C : Array Value) (q : Nat) (a b c : Value) (h : q + 2 < C.size) : (set3 C q a b c)[q]? = some a := by
  unfold set3
  rw [Array.getElem?_setIfInBounds_ne (by omega), Array.getElem?_setIfInBounds_ne (by omega), Array.getElem?_setIfInBounds_self_of_lt (by omega)]
theorem set3_1 (C : Array Value) (q : Nat) (a b c : Value) (h : q + 2 < C.size) : (set3 C q a b c)[q + 1]? = some b := by
  unfold set3
  rw [Array.getElem?_setIfInBounds_ne (by omega), Array.getElem?_setIfInBounds_self_of_lt (by simp; omega)]
theorem set3_2 (C : Array Value) (q : Nat) (a b c : Value) (h : q + 2 < C.size) : (set3 C q a b c)[q + 2]? = some c := by
  unfold set3
  rw [Array.getElem?_setIfInBounds_self_of_lt (by simp; omega)]
def setW3 (w : World) (g q : Nat) (a b c : Value) : World := ((w.setCell ⟨g, q, none⟩ a).setCell ⟨g, q + 1, none⟩ b).setCell ⟨g, q + 2, none⟩ c
theorem setW3_row {w : World} {g : Nat} {C : Array Value} {t : TypeId} (h : w.heap[g]? = some (.cells C t (0, 0))) (q : Nat) (a b c : Value) : (setW3 w g q a b c).heap[g]? = some (.cells (set3 C q a b c) t (0, 0)) :=
  heap_setCell_same _ _ _ _ _ _ (heap_setCell_same _ _ _ _ _ _ (heap_setCell_same _ _ _ _ _ _ h))
theorem setW3_below {B : Nat} {w0 w : World} (h : Below B w0 w) {g : Nat} (hg : B ≤ g) (q : Nat) (a b c : Value) : Below B w0 (setW3 w g q a b c) :=
  ((h.setCell (p := ⟨g, q, none⟩) hg a).setCell (p := ⟨g, q + 1, none⟩) hg b).setCell (p := ⟨g, q + 2, none⟩) hg c
/-- pieces in memory, from a row's begin -/
structure PcRow (w : World) (g n : Nat) (F : Nat → PcI) : Prop where
  lt : g < w.heap.size
  c0 : ∀ i, i < n → w.cell? ⟨g, 3 * i, none⟩ = some (.int .i64 (F i).f)
  c1 : ∀ i, i < n → w.cell? ⟨g, 3 * i + 1, none⟩ = some (.int .i64 (F i).l)
  c2 : ∀ i, i < n → w.cell? ⟨g, 3 * i + 2, none⟩ = some (.string (F i).d)
theorem PcRow.below {w w' : World} {g n B : Nat} {F : Nat → PcI} (h : PcRow w g n F) (hb : Below B w w') (hg : g < B) : PcRow w' g n F :=
  ⟨Nat.lt_of_lt_of_le h.lt hb.size, fun i hi => (hb.cell (p := ⟨g, 3 * i, none⟩) hg).trans (h.c0 i hi), fun i hi => (hb.cell (p := ⟨g, 3 * i + 1, none⟩) hg).trans (h.c1 i hi), fun i hi => (hb.cell (p := ⟨g, 3 * i + 2, none⟩) hg).trans (h.c2 i hi)⟩
def PcArg (w : World) (v : Value) (n : Nat) (F : Nat → PcI) : Prop := ∃ a c, v = .slice a n c ∧ (0 < n → ∃ g, a = some ⟨g, 0, none⟩ ∧ PcRow w g n F)
theorem PcArg.below {w w' : World} {v : Value} {n : Nat} {F : Nat → PcI} (h : PcArg w v n F) (hb : Below w.heap.size w w') : PcArg w' v n F := by
  obtain ⟨a, c, h1, h2⟩ := h
  exact ⟨a, c, h1, fun h0 => by obtain ⟨g, h3, h4⟩ := h2 h0; exact ⟨g, h3, h4.below hb h4.lt⟩⟩
/-- a list of pieces that came in -/
structure PcIn (w : World) (v : Value) (n : Nat) (F : Nat → PcI) : Prop where
  form : ∃ a c, v = .slice a n c ∧ (0 < n → ∃ g off, a = some ⟨g, off, none⟩ ∧ g < w.heap.size ∧ ∀ i, i < n → w.cell? ⟨g, off + i * 3, none⟩ = some (.int .i64 (F i).f) ∧ w.cell? ⟨g, off + i * 3 + 1, none⟩ = some (.int .i64 (F i).l) ∧ w.cell? ⟨g, off + i * 3 + 2, none⟩ = some (.string (F i).d))
theorem PcIn.below {w w' : World} {v : Value} {n : Nat} {F : Nat → PcI} (h : PcIn w v n F) (hb : Below w.heap.size w w') : PcIn w' v n F := by
  obtain ⟨a, c, h1, h2⟩ := h.form
  exact ⟨a, c, h1, fun h0 => by
    obtain ⟨g, off, h3, h4, h5⟩ := h2 h0
    refine ⟨g, off, h3, Nat.lt_of_lt_of_le h4 hb.size, fun i hi => ?_⟩
    rw [hb.cell (p := ⟨g, off + i * 3, none⟩) h4, hb.cell (p := ⟨g, off + i * 3 + 1, none⟩) h4, hb.cell (p := ⟨g, off + i * 3 + 2, none⟩) h4]
    exact h5 i hi⟩
/-- how much the data of the first pieces are -/
def pcTot (F : Nat → PcI) : Nat → Nat
  | 0 => 0
  | i + 1 => pcTot F i + (F i).d.size
theorem pcTot_mono (F : Nat → PcI) {i n : Nat} (h : i ≤ n) : pcTot F i ≤ pcTot F n := by
  induction n with
  | zero =>
    obtain rfl : i = 0 := by omega
    exact Nat.le_refl _
  | succ n ih =>
    by_cases e : i = n + 1
    · subst e; exact Nat.le_refl _
    · exact Nat.le_trans (ih (by omega)) (Nat.le_add_right _ _)
theorem pcTot_one (F : Nat → PcI) {i n : Nat} (h : i < n) : (F i).d.size ≤ pcTot F n :=
  Nat.le_trans (Nat.le_add_left _ _) (pcTot_mono F (i := i + 1) (n := n) h)
def szV (L x : Nat) : Value := .int .i64 (if x ≤ L then ((L - x : Nat) : Int) else -1)
end Go.Proofs.Ytibciflmalfbjaa
