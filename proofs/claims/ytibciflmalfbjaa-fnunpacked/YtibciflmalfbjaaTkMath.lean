/-
  The tokens of a text, as plain mathematics.
-/
import Derived.Test.YtibciflmalfbjaaLonC
namespace Go.Proofs.Ytibciflmalfbjaa
open Go.RowKit
set_option linter.unusedVariables false

structure TkN where
  k : Nat
  b : Nat
  d : Nat
  l : Nat
def tokAt (s : ByteArray) (a : Nat) : TkN := if 3 ≤ (best (lonF s a) a).2 then ⟨1, 0, (best (lonF s a) a).1, (best (lonF s a) a).2⟩ else ⟨0, bsOf s a, 0, 0⟩
def stepAt (s : ByteArray) (a : Nat) : Nat := if 3 ≤ (best (lonF s a) a).2 then (best (lonF s a) a).2 else 1
def tkRun (s : ByteArray) : Nat → List TkN × Nat
  | 0 => ([], 0)
  | k + 1 => if (tkRun s k).2 < s.size then ((tkRun s k).1 ++ [tokAt s (tkRun s k).2], (tkRun s k).2 + stepAt s (tkRun s k).2) else tkRun s k
def tkL (s : ByteArray) : List TkN := (tkRun s s.size).1
/-- l are the tokens of the first a bytes -/
def TkS (s : ByteArray) (l : List TkN) (a : Nat) : Prop := ∃ k, tkRun s k = (l, a) ∧ l.length = k ∧ k ≤ a ∧ a ≤ s.size
theorem TkS.start (s : ByteArray) : TkS s [] 0 := ⟨0, rfl, rfl, Nat.le_refl _, Nat.zero_le _⟩
theorem step_in {s : ByteArray} {a : Nat} (ha : a < s.size) : 1 ≤ stepAt s a ∧ a + stepAt s a ≤ s.size := by
  unfold stepAt
  split
  · rename_i h
    rcases (best_is (lonF s a) a).2.2 with ⟨_, h0⟩ | ⟨_, _, h1, _⟩
    · omega
    · have h5 : lonF s a (best (lonF s a) a).1 ≤ min 66 (s.size - a) := (mlen_spec (bsOf s) (min 66 (s.size - a)) a (best (lonF s a) a).1).1
      omega
  · omega
theorem TkS.step {s : ByteArray} {l : List TkN} {a : Nat} (h : TkS s l a) (ha : a < s.size) : TkS s (l ++ [tokAt s a]) (a + stepAt s a) := by
  obtain ⟨k, h1, h2, h3, h4⟩ := h
  obtain ⟨s1, s2⟩ := step_in ha
  refine ⟨k + 1, ?_, by simp [h2], by omega, s2⟩
  show (if _ then _ else _) = _
  rw [h1, if_pos ha]
theorem run_stay {s : ByteArray} {k : Nat} (h : ¬ (tkRun s k).2 < s.size) : ∀ j, tkRun s (k + j) = tkRun s k
  | 0 => rfl
  | j + 1 => by
    have e : tkRun s (k + (j + 1)) = if (tkRun s (k + j)).2 < s.size then ((tkRun s (k + j)).1 ++ [tokAt s (tkRun s (k + j)).2], (tkRun s (k + j)).2 + stepAt s (tkRun s (k + j)).2) else tkRun s (k + j) := rfl
    rw [e, run_stay h j, if_neg h]
theorem TkS.fin {s : ByteArray} {l : List TkN} {a : Nat} (h : TkS s l a) (ha : ¬ a < s.size) : l = tkL s := by
  obtain ⟨k, h1, h2, h3, h4⟩ := h
  have := run_stay (s := s) (k := k) (by rw [h1]; exact ha) (s.size - k)
  rw [show k + (s.size - k) = s.size by omega, h1] at this
  unfold tkL
  rw [this]
theorem TkS.len {s : ByteArray} {l : List TkN} {a : Nat} (h : TkS s l a) : l.length ≤ a ∧ a ≤ s.size := by
  obtain ⟨k, h1, h2, h3, h4⟩ := h
  omega
/-- as cells -/
def tkC (l : List TkN) : List Value := l.flatMap fun t => [.int .i64 (t.k : Int), .int .i64 (t.b : Int), .int .i64 (t.d : Int), .int .i64 (t.l : Int)]
theorem tkC_len (l : List TkN) : (tkC l).length = l.length * 4 := by
  induction l with
  | nil => rfl
  | cons t r ih => simp only [tkC, List.flatMap_cons, List.length_append, List.length_cons, List.length_nil] at ih ⊢; omega
theorem tkC_snoc (l : List TkN) (t : TkN) : tkC l ++ [Value.int .i64 (t.k : Int), .int .i64 (t.b : Int), .int .i64 (t.d : Int), .int .i64 (t.l : Int)] = tkC (l ++ [t]) := by simp [tkC]
theorem tok_byte {s : ByteArray} {a d : Nat} (h : IsB (g3 (lonF s a)) a d 0) : tokAt s a = ⟨0, bsOf s a, 0, 0⟩ ∧ stepAt s a = 1 := by
  have hlt := g3_none h
  have hb : ¬ 3 ≤ (best (lonF s a) a).2 := by
    rcases (best_is (lonF s a) a).2.2 with ⟨_, h0⟩ | ⟨h1, h2, h3, _⟩
    · omega
    · have := hlt _ h1 h2; omega
  unfold tokAt stepAt
  rw [if_neg hb, if_neg hb]
  exact ⟨rfl, rfl⟩
theorem tok_copy {s : ByteArray} {a d n : Nat} (h : IsB (g3 (lonF s a)) a d n) (hn : 0 < n) : tokAt s a = ⟨1, 0, d, n⟩ ∧ stepAt s a = n := by
  have hg := g3_big h hn
  obtain ⟨u1, u2⟩ := hg.uniq (best_is (lonF s a) a)
  have h3 : 3 ≤ n := by
    rcases h.2.2 with ⟨_, h0⟩ | ⟨_, _, c, _⟩
    · omega
    · unfold g3 at c; split at c <;> omega
  unfold tokAt stepAt
  rw [← u2, ← u1, if_pos h3, if_pos h3]
  exact ⟨rfl, rfl⟩
theorem Try.infT : (Try.prog.info? 95).map (fun i => (i.zero, i.size, i.bytes)) = some (some (.agg #[.int .i64 0, .int .i64 0, .int .i64 0, .int .i64 0]), 4, 32) := by kernel_rfl
theorem cell_four_new (w : World) (x0 x1 x2 x3 : Value) (t : TypeId) : ∀ j u, [x0, x1, x2, x3][j]? = some u → (w.alloc (.cells #[x0, x1, x2, x3] t)).cell? ((⟨w.heap.size, 0, none⟩ : Addr).add j) = some u := by
  intro j u hj
  have ea : (⟨w.heap.size, 0, none⟩ : Addr).add j = ⟨w.heap.size, j, none⟩ := by
    unfold Addr.add
    by_cases h0 : j = 0
    · subst h0; simp
    · simp [h0]
  rw [ea, World.cell?_alloc_mark]
  simpa using hj
theorem four_one (a b c d : Int) : ∀ u ∈ [Value.int .i64 a, .int .i64 b, .int .i64 c, .int .i64 d], u.oneCell' = true := by
  intro u hu
  simp only [List.mem_cons, List.not_mem_nil, or_false] at hu
  rcases hu with rfl | rfl | rfl | rfl <;> rfl
theorem owns_call4 {w w' : World} {B : Nat} {e : TypeId} {v : Value} {n : Nat} {xs : List Value} (h : w.ownsRow B e 4 v n xs) (hb : Below w.heap.size w w') : w'.ownsRow B e 4 v n xs := by
  obtain ⟨h0, h1 | ⟨g, cap, cur, h1, h2, h3, h4, h5, h6, h7⟩⟩ := h
  · exact ⟨h0, Or.inl h1⟩
  · exact ⟨h0, Or.inr ⟨g, cap, cur, h1, h2, (hb.block g (Array.getElem?_eq_some_iff.1 h3).1).trans h3, h4, h5, h6, h7⟩⟩
end Go.Proofs.Ytibciflmalfbjaa
