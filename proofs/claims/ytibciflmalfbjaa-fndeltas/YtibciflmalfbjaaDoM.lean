/-
  What DeltaOf answers: plain mathematics.
-/
import Derived.Test.YtibciflmalfbjaaPcL
import Derived.Test.YtibciflmalfbjaaLonS
import Derived.Test.YtibciflmalfbjaaLonC
namespace Go.Proofs.Ytibciflmalfbjaa
open Go.RowKit
set_option linter.unusedVariables false
set_option linter.unusedSimpArgs false
/-- how many bytes are the same from p and a on, at most m beyond i -/
def cm (bo bs : Nat → Nat) (p a : Nat) : Nat → Nat → Nat
  | 0, i => i
  | m + 1, i => if bo (p + i) = bs (a + i) then cm bo bs p a m (i + 1) else i
theorem cm_spec (bo bs : Nat → Nat) (p a : Nat) : ∀ (m i : Nat), i ≤ cm bo bs p a m i ∧ cm bo bs p a m i ≤ i + m ∧ (∀ j, i ≤ j → j < cm bo bs p a m i → bo (p + j) = bs (a + j)) ∧ (cm bo bs p a m i = i + m ∨ bo (p + cm bo bs p a m i) ≠ bs (a + cm bo bs p a m i))
  | 0, i => ⟨Nat.le_refl _, Nat.le_refl _, fun j h1 h2 => absurd h2 (by show ¬ j < i; omega), Or.inl rfl⟩
  | m + 1, i => by
    by_cases h : bo (p + i) = bs (a + i)
    · have e : cm bo bs p a (m + 1) i = cm bo bs p a m (i + 1) := by show (if _ then _ else _) = _; rw [if_pos h]
      obtain ⟨h1, h2, h3, h4⟩ := cm_spec bo bs p a m (i + 1)
      rw [e]
      refine ⟨by omega, by omega, fun j q1 q2 => ?_, ?_⟩
      · by_cases ej : j = i
        · subst ej; exact h
        · exact h3 j (by omega) q2
      · rcases h4 with h4 | h4
        · exact Or.inl (by omega)
        · exact Or.inr h4
    · have e : cm bo bs p a (m + 1) i = i := by show (if _ then _ else _) = _; rw [if_neg h]
      rw [e]
      exact ⟨Nat.le_refl _, by omega, fun j q1 q2 => absurd q2 (by omega), Or.inr h⟩
def clM (o s : ByteArray) (p a : Nat) : Nat := min (o.size - p) (s.size - a)
def cl (o s : ByteArray) (p a : Nat) : Nat := cm (bsOf o) (bsOf s) p a (clM o s p a) 0
theorem cl_spec (o s : ByteArray) (p a : Nat) : cl o s p a ≤ clM o s p a ∧ (∀ j, j < cl o s p a → bsOf o (p + j) = bsOf s (a + j)) ∧ (cl o s p a = clM o s p a ∨ bsOf o (p + cl o s p a) ≠ bsOf s (a + cl o s p a)) := by
  obtain ⟨h1, h2, h3, h4⟩ := cm_spec (bsOf o) (bsOf s) p a (clM o s p a) 0
  rw [Nat.zero_add] at h2 h4
  exact ⟨h2, fun j hj => h3 j (Nat.zero_le _) hj, h4⟩
theorem cl_eq {o s : ByteArray} {p a n : Nat} (h1 : n ≤ clM o s p a) (h2 : ∀ j, j < n → bsOf o (p + j) = bsOf s (a + j)) (h3 : n = clM o s p a ∨ bsOf o (p + n) ≠ bsOf s (a + n)) : cl o s p a = n := by
  obtain ⟨k1, k2, k3⟩ := cl_spec o s p a
  rcases Nat.lt_trichotomy (cl o s p a) n with h | h | h
  · rcases k3 with k3 | k3
    · omega
    · exact absurd (h2 _ h) k3
  · exact h
  · rcases h3 with h3 | h3
    · omega
    · exact absurd (k2 _ h) h3
def fo (o s : ByteArray) (a e : Nat) : Nat := cl o s (e - 1) a
/-- the longest that stands in the old text: one behind its place, its length -/
def bo (o s : ByteArray) (a : Nat) : Nat × Nat := best (fo o s a) o.size
theorem bo_le (o s : ByteArray) (a : Nat) : (bo o s a).1 ≤ o.size ∧ (bo o s a).2 ≤ s.size - a ∧ ((bo o s a).2 = 0 ∨ 1 ≤ (bo o s a).1 ∧ cl o s ((bo o s a).1 - 1) a = (bo o s a).2) := by
  obtain ⟨_, _, h⟩ := best_is (fo o s a) o.size
  have e : bo o s a = best (fo o s a) o.size := rfl
  rw [← e] at h
  rcases h with ⟨h1, h2⟩ | ⟨h1, h2, h3, h4⟩
  · rw [h1, h2]; exact ⟨Nat.zero_le _, Nat.zero_le _, Or.inl rfl⟩
  · have h5 : cl o s ((bo o s a).1 - 1) a = (bo o s a).2 := h3
    have h6 := (cl_spec o s ((bo o s a).1 - 1) a).1
    unfold clM at h6
    exact ⟨h2, by omega, Or.inr ⟨h1, h5⟩⟩
/-- a piece of data, where there is any -/
def wDat (acc : List PcI) (d : ByteArray) : List PcI := if d.size = 0 then acc else acc ++ [⟨0, 0, d⟩]
theorem wDat_no {acc : List PcI} {d : ByteArray} (h : d.size = 0) : wDat acc d = acc := by unfold wDat; rw [if_pos h]
theorem wDat_yes {acc : List PcI} {d : ByteArray} (h : d.size ≠ 0) : wDat acc d = acc ++ [⟨0, 0, d⟩] := by unfold wDat; rw [if_neg h]
theorem wDat_len (acc : List PcI) (d : ByteArray) : acc.length ≤ (wDat acc d).length ∧ (wDat acc d).length ≤ acc.length + 1 := by
  unfold wDat
  split
  · omega
  · rw [List.length_append]; exact ⟨Nat.le_add_right _ _, Nat.le_refl _⟩
/-- the pieces from place a on; what is told ends at t -/
def dl (o s : ByteArray) : Nat → Nat → Nat → List PcI → List PcI
  | 0, a, t, acc => wDat acc (s.extract t s.size)
  | k + 1, a, t, acc => if a < s.size then (if (bo o s a).2 < 6 then dl o s k (a + 1) t acc else dl o s k (a + (bo o s a).2) (a + (bo o s a).2) (wDat acc (s.extract t a) ++ [⟨((bo o s a).1 - 1 : Nat), ((bo o s a).2 : Nat), ⟨#[]⟩⟩])) else wDat acc (s.extract t s.size)
theorem dl_end {o s : ByteArray} {a t : Nat} {acc : List PcI} (h : ¬ a < s.size) : ∀ k, dl o s k a t acc = wDat acc (s.extract t s.size)
  | 0 => rfl
  | k + 1 => by show (if _ then _ else _) = _; rw [if_neg h]
theorem dl_byte {o s : ByteArray} {k a t : Nat} {acc : List PcI} (h : a < s.size) (h1 : (bo o s a).2 < 6) : dl o s (k + 1) a t acc = dl o s k (a + 1) t acc := by
  show (if _ then _ else _) = _
  rw [if_pos h, if_pos h1]
theorem dl_piece {o s : ByteArray} {k a t : Nat} {acc : List PcI} (h : a < s.size) (h1 : ¬ (bo o s a).2 < 6) : dl o s (k + 1) a t acc = dl o s k (a + (bo o s a).2) (a + (bo o s a).2) (wDat acc (s.extract t a) ++ [⟨((bo o s a).1 - 1 : Nat), ((bo o s a).2 : Nat), ⟨#[]⟩⟩]) := by
  show (if _ then _ else _) = _
  rw [if_pos h, if_neg h1]
def doL (o s : ByteArray) : List PcI := dl o s s.size 0 0 []
def doD (o s : ByteArray) : Option (List PcI) := if 4000 < o.size ∨ 4000 < s.size then none else if 500 < (doL o s).length then none else some (doL o s)
theorem doD_len (o s : ByteArray) : ((doD o s).getD []).length ≤ 500 := by
  unfold doD
  split
  · exact Nat.zero_le _
  · split
    · exact Nat.zero_le _
    · rename_i h
      show (doL o s).length ≤ 500
      omega
def DoPost (w : World) (R : Option (List PcI)) (e : Ending) (w' : World) : Prop := (∃ v, e = .returned (.tuple #[v, .bool R.isSome]) ∧ w'.ownsRow w.heap.size 39 3 v (R.getD []).length (pcC (R.getD []))) ∧ Below w.heap.size w w'
theorem do_nil {w w' : World} (h : Below w.heap.size w w') : DoPost w none (.returned (.tuple #[.slice none 0 0, .bool false])) w' := ⟨⟨_, rfl, rfl, Or.inl ⟨rfl, rfl⟩⟩, h⟩
theorem do_ne {d : ByteArray} (h : 1 ≤ d.size) : d.toList.isEmpty = false := by
  rw [ByteArray.toList_eq]
  cases hd : d.data.toList with
  | nil =>
    exfalso
    have e : d.size = d.data.toList.length := by show d.data.size = _; simp
    rw [hd] at e
    have e0 : ([] : List UInt8).length = 0 := rfl
    omega
  | cons x r => rfl
theorem do_zero {d : ByteArray} (h : d.size = 0) : d = ⟨#[]⟩ := by
  have e : d.data.size = 0 := h
  cases d; simp at e; subst e; rfl
theorem do_ext (s : ByteArray) (t a c : Nat) (h1 : t ≤ a) (h2 : a ≤ c) (h3 : c ≤ s.size) : s.extract t a ++ s.extract a c = s.extract t c := by
  apply ByteArray.ext
  apply Array.ext'
  have h := ext_lst s t a
  have h' := ext_lst s a c
  have h'' := ext_lst s t c
  rw [ByteArray.data_append, Array.toList_append, h, h', h'']
  have e : s.data.toList.drop a = (s.data.toList.drop t).drop (a - t) := by rw [List.drop_drop]; congr 1; omega
  rw [e, show c - t = (a - t) + (c - a) by omega, List.take_add]
/-- a list under way -/
structure DO (w wr : World) (v : Value) (acc : List PcI) : Prop where
  own : wr.ownsRow w.heap.size 39 3 v acc.length (pcC acc)
  below : Below w.heap.size w wr
theorem DO.drewN {w wr : World} {v : Value} {acc : List PcI} (h : DO w wr v acc) (n : Nat) : DO w (wr.drewN n) v acc := ⟨h.own, below_drewN h.below n⟩
theorem DO.call {w wr w' : World} {v : Value} {acc : List PcI} (h : DO w wr v acc) (hb : Below wr.heap.size wr w') : DO w w' v acc := ⟨own3_call h.own hb, bl3 h.below hb h.below.size⟩
theorem DO.put {w wr w4 : World} {v v' : Value} {acc : List PcI} {p : PcI} (h : DO w wr v acc) (X : Obj)
    (h1 : w4.ownsRow w.heap.size 39 3 v' (acc.length + 1) (pcC acc ++ [.int .i64 p.f, .int .i64 p.l, .string p.d])) (h2 : (wr.alloc X).grownBy w4 v.ownBlock) : DO w w4 v' (acc ++ [p]) := by
  have hsz := h.below.size
  refine ⟨?_, (h.below.alloc hsz _).grown h2 (by simp; omega) (fun k hk => (h.own.lt k hk).1)⟩
  rw [pcC_snoc] at h1
  rw [List.length_append]; exact h1
end Go.Proofs.Ytibciflmalfbjaa
