/-
  Structs Node: as values and in memory, what the law makes of a list of them that came in; how much they hold.
-/
import Derived.Test.YtbmcjoaigajjkaaDoorIn
import Derived.Below
import Derived.Deep.MidRow
import Derived.Laws.MakeOwn
namespace Go.Proofs.YtbmcjoaigajjkaaDoor
open Go.RowKit
set_option linter.unusedVariables false
set_option linter.unusedSimpArgs false

structure NdI where
  p : ByteArray
  r : Bool
  m : Int
  d : ByteArray
def ndV (p : ByteArray) (r : Bool) (m : Int) (d : ByteArray) : Value := .agg #[.string p, .bool r, .int .i64 m, .string d]
theorem Tryd.infNd : (Tryd.prog.info? 32).map (fun i => (i.zero, i.size, i.bytes)) = some (some (.agg #[.string ⟨#[]⟩, .bool false, .int .i64 0, .string ⟨#[]⟩]), 4, 48) := by kernel_rfl
def intNd : Value → Int | .int _ q => q | _ => 0
theorem blNd {B C : Nat} {a b c : World} (h : Below B a b) (k : Below C b c) (hBC : B ≤ C) : Below B a c := ⟨k.os.trans h.os, k.tape.trans h.tape, k.output.trans h.output, Nat.le_trans h.size k.size, fun i hi => (k.block i (Nat.lt_of_lt_of_le hi hBC)).trans (h.block i hi)⟩
def setNd (C : Array Value) (q : Nat) (x0 x1 x2 x3 : Value) : Array Value := (((C.setIfInBounds q x0).setIfInBounds (q + 1) x1).setIfInBounds (q + 2) x2).setIfInBounds (q + 3) x3
theorem setNd_size (C : Array Value) (q : Nat) (x0 x1 x2 x3 : Value) : (setNd C q x0 x1 x2 x3).size = C.size := by simp [setNd]
theorem setNd_low (C : Array Value) (q : Nat) (x0 x1 x2 x3 : Value) (j : Nat) (h : j < q) : (setNd C q x0 x1 x2 x3)[j]? = C[j]? := by
  unfold setNd
  rw [Array.getElem?_setIfInBounds_ne (by omega), Array.getElem?_setIfInBounds_ne (by omega), Array.getElem?_setIfInBounds_ne (by omega), Array.getElem?_setIfInBounds_ne (by omega)]
theorem setNd_0 (C : Array Value) (q : Nat) (x0 x1 x2 x3 : Value) (h : q + 3 < C.size) : (setNd C q x0 x1 x2 x3)[q]? = some x0 := by
  unfold setNd
  rw [Array.getElem?_setIfInBounds_ne (by omega), Array.getElem?_setIfInBounds_ne (by omega), Array.getElem?_setIfInBounds_ne (by omega), Array.getElem?_setIfInBounds_self_of_lt (by omega)]
theorem setNd_1 (C : Array Value) (q : Nat) (x0 x1 x2 x3 : Value) (h : q + 3 < C.size) : (setNd C q x0 x1 x2 x3)[q + 1]? = some x1 := by
  unfold setNd
  rw [Array.getElem?_setIfInBounds_ne (by omega), Array.getElem?_setIfInBounds_ne (by omega), Array.getElem?_setIfInBounds_self_of_lt (by simp; omega)]
theorem setNd_2 (C : Array Value) (q : Nat) (x0 x1 x2 x3 : Value) (h : q + 3 < C.size) : (setNd C q x0 x1 x2 x3)[q + 2]? = some x2 := by
  unfold setNd
  rw [Array.getElem?_setIfInBounds_ne (by omega), Array.getElem?_setIfInBounds_self_of_lt (by simp; omega)]
theorem setNd_3 (C : Array Value) (q : Nat) (x0 x1 x2 x3 : Value) (h : q + 3 < C.size) : (setNd C q x0 x1 x2 x3)[q + 3]? = some x3 := by
  unfold setNd
  rw [Array.getElem?_setIfInBounds_self_of_lt (by simp; omega)]
def setWNd (w : World) (g q : Nat) (x0 x1 x2 x3 : Value) : World := (((w.setCell ⟨g, q, none⟩ x0).setCell ⟨g, q + 1, none⟩ x1).setCell ⟨g, q + 2, none⟩ x2).setCell ⟨g, q + 3, none⟩ x3
theorem setWNd_row {w : World} {g : Nat} {C : Array Value} {t : TypeId} (h : w.heap[g]? = some (.cells C t (0, 0))) (q : Nat) (x0 x1 x2 x3 : Value) : (setWNd w g q x0 x1 x2 x3).heap[g]? = some (.cells (setNd C q x0 x1 x2 x3) t (0, 0)) :=
  (heap_setCell_same _ _ _ _ _ _ (heap_setCell_same _ _ _ _ _ _ (heap_setCell_same _ _ _ _ _ _ (heap_setCell_same _ _ _ _ _ _ h))))
theorem setWNd_below {B : Nat} {w0 w : World} (h : Below B w0 w) {g : Nat} (hg : B ≤ g) (q : Nat) (x0 x1 x2 x3 : Value) : Below B w0 (setWNd w g q x0 x1 x2 x3) :=
  ((((h.setCell (p := ⟨g, q, none⟩) hg x0).setCell (p := ⟨g, q + 1, none⟩) hg x1).setCell (p := ⟨g, q + 2, none⟩) hg x2).setCell (p := ⟨g, q + 3, none⟩) hg x3)
/-- structs in memory, from a row's begin -/
structure NdRow (w : World) (g n : Nat) (F : Nat → NdI) : Prop where
  lt : g < w.heap.size
  c0 : ∀ i, i < n → w.cell? ⟨g, 4 * i, none⟩ = some (.string (F i).p)
  c1 : ∀ i, i < n → w.cell? ⟨g, 4 * i + 1, none⟩ = some (.bool (F i).r)
  c2 : ∀ i, i < n → w.cell? ⟨g, 4 * i + 2, none⟩ = some (.int .i64 (F i).m)
  c3 : ∀ i, i < n → w.cell? ⟨g, 4 * i + 3, none⟩ = some (.string (F i).d)
theorem NdRow.below {w w' : World} {g n B : Nat} {F : Nat → NdI} (h : NdRow w g n F) (hb : Below B w w') (hg : g < B) : NdRow w' g n F :=
  ⟨Nat.lt_of_lt_of_le h.lt hb.size, fun i hi => (hb.cell (p := ⟨g, 4 * i, none⟩) hg).trans (h.c0 i hi), fun i hi => (hb.cell (p := ⟨g, 4 * i + 1, none⟩) hg).trans (h.c1 i hi), fun i hi => (hb.cell (p := ⟨g, 4 * i + 2, none⟩) hg).trans (h.c2 i hi), fun i hi => (hb.cell (p := ⟨g, 4 * i + 3, none⟩) hg).trans (h.c3 i hi)⟩
def NdArg (w : World) (v : Value) (n : Nat) (F : Nat → NdI) : Prop := ∃ a c, v = .slice a n c ∧ (0 < n → ∃ g, a = some ⟨g, 0, none⟩ ∧ NdRow w g n F)
theorem NdArg.below {w w' : World} {v : Value} {n : Nat} {F : Nat → NdI} (h : NdArg w v n F) (hb : Below w.heap.size w w') : NdArg w' v n F := by
  obtain ⟨a, c, h1, h2⟩ := h
  exact ⟨a, c, h1, fun h0 => by obtain ⟨g, h3, h4⟩ := h2 h0; exact ⟨g, h3, h4.below hb h4.lt⟩⟩
/-- a list of structs that came in -/
structure NdIn (w : World) (v : Value) (n : Nat) (F : Nat → NdI) : Prop where
  form : ∃ a c, v = .slice a n c ∧ (0 < n → ∃ g off, a = some ⟨g, off, none⟩ ∧ g < w.heap.size ∧ ∀ i, i < n → w.cell? ⟨g, off + i * 4, none⟩ = some (.string (F i).p) ∧ w.cell? ⟨g, off + i * 4 + 1, none⟩ = some (.bool (F i).r) ∧ w.cell? ⟨g, off + i * 4 + 2, none⟩ = some (.int .i64 (F i).m) ∧ w.cell? ⟨g, off + i * 4 + 3, none⟩ = some (.string (F i).d))
theorem NdIn.below {w w' : World} {v : Value} {n : Nat} {F : Nat → NdI} (h : NdIn w v n F) (hb : Below w.heap.size w w') : NdIn w' v n F := by
  obtain ⟨a, c, h1, h2⟩ := h.form
  exact ⟨a, c, h1, fun h0 => by
    obtain ⟨g, off, h3, h4, h5⟩ := h2 h0
    refine ⟨g, off, h3, Nat.lt_of_lt_of_le h4 hb.size, fun i hi => ?_⟩
    rw [hb.cell (p := ⟨g, off + i * 4, none⟩) h4, hb.cell (p := ⟨g, off + i * 4 + 1, none⟩) h4, hb.cell (p := ⟨g, off + i * 4 + 2, none⟩) h4, hb.cell (p := ⟨g, off + i * 4 + 3, none⟩) h4]
    exact h5 i hi⟩
/-- how much the texts of the first ones are -/
def ndTot (F : Nat → NdI) : Nat → Nat
  | 0 => 0
  | i + 1 => ndTot F i + ((F i).p.size + (F i).d.size)
theorem ndTot_mono (F : Nat → NdI) {i n : Nat} (h : i ≤ n) : ndTot F i ≤ ndTot F n := by
  induction n with
  | zero =>
    obtain rfl : i = 0 := by omega
    exact Nat.le_refl _
  | succ n ih =>
    by_cases e : i = n + 1
    · subst e; exact Nat.le_refl _
    · exact Nat.le_trans (ih (by omega)) (Nat.le_add_right _ _)
theorem ndTot_one (F : Nat → NdI) {i n : Nat} (h : i < n) : ((F i).p.size + (F i).d.size) ≤ ndTot F n :=
  Nat.le_trans (Nat.le_add_left _ _) (ndTot_mono F (i := i + 1) (n := n) h)
def szVNd (L x : Nat) : Value := .int .i64 (if x ≤ L then ((L - x : Nat) : Int) else -1)
theorem szVNd_le {L x : Nat} (h : x ≤ L) : szVNd L x = .int .i64 ((L - x : Nat) : Int) := by unfold szVNd; rw [if_pos h]
theorem szVNd_no {L x : Nat} (h : ¬ x ≤ L) : szVNd L x = .int .i64 (-1) := by unfold szVNd; rw [if_neg h]
end Go.Proofs.YtbmcjoaigajjkaaDoor
