/-
  The text of a text's tokens is the text.
-/
import Derived.Test.YtibciflmalfbjaaUnC
import Derived.Test.YtibciflmalfbjaaTkMath
namespace Go.Proofs.Ytibciflmalfbjaa
open Go.RowKit
set_option linter.unusedVariables false
def bytesL (s : ByteArray) (a : Nat) : List Nat := (List.range a).map (bsOf s)
theorem bytesL_len (s : ByteArray) (a : Nat) : (bytesL s a).length = a := by simp [bytesL]
theorem bytesL_succ (s : ByteArray) (a : Nat) : bytesL s (a + 1) = bytesL s a ++ [bsOf s a] := by simp [bytesL, List.range_succ]
theorem bytesL_at (s : ByteArray) (a i : Nat) (h : i < a) : (bytesL s a).getD i 0 = bsOf s i := by
  rw [List.getD_eq_getElem?_getD, bytesL, List.getElem?_map, List.getElem?_range h]; rfl
theorem cpI_text {s : ByteArray} {a d n : Nat} (hd1 : 1 ≤ d) (hd : d ≤ a) (h : ∀ k, k < n → bsOf s (a + k - d) = bsOf s (a + k)) : ∀ m, m ≤ n → cpI d (bytesL s a) m = bytesL s (a + m)
  | 0, _ => rfl
  | m + 1, hm => by
    have ih := cpI_text hd1 hd h m (by omega)
    show cpI d (bytesL s a) m ++ [(cpI d (bytesL s a) m).getD ((cpI d (bytesL s a) m).length - d) 0] = _
    rw [ih, bytesL_len, bytesL_at _ _ _ (by omega), h m (by omega), ← bytesL_succ]; rfl
def tkI (t : TkN) : TkI := ⟨t.k, t.b, t.d, t.l⟩
theorem tok_ok {s : ByteArray} {a : Nat} (hs : s.size ≤ 4000) (ha : a < s.size) :
    tokP (tkI (tokAt s a)).k (tkI (tokAt s a)).b (tkI (tokAt s a)).d (tkI (tokAt s a)).l (a : Int) ∧ tkOut (bytesL s a) (tkI (tokAt s a)) = bytesL s (a + stepAt s a) := by
  unfold tokAt stepAt
  by_cases h3 : 3 ≤ (best (lonF s a) a).2
  · rw [if_pos h3, if_pos h3]
    have hB := best_is (lonF s a) a
    generalize (best (lonF s a) a).1 = d at *
    generalize (best (lonF s a) a).2 = n at *
    obtain ⟨_, _, ⟨_, h0⟩ | ⟨a1, a2, a3, a4⟩⟩ := hB
    · omega
    · unfold lonF at a3
      obtain ⟨m1, m2, m3⟩ := mlen_spec (bsOf s) (min 66 (s.size - a)) a d
      rw [a3] at m1 m2 m3
      refine ⟨⟨by omega, Or.inr ⟨rfl, rfl, ?_, ?_, ?_, ?_, ?_⟩⟩, ?_⟩
      · show (1 : Int) ≤ (d : Int); omega
      · show (d : Int) ≤ 4096; omega
      · show (d : Int) ≤ (a : Int); omega
      · show (3 : Int) ≤ (n : Int); omega
      · show (n : Int) ≤ 66; omega
      · show (if ((1 : Nat) : Int) = 0 then bytesL s a ++ [((0 : Nat) : Int).toNat] else cpI ((d : Int).toNat) (bytesL s a) ((n : Int).toNat)) = _
        rw [if_neg (show ¬ ((1 : Nat) : Int) = 0 by decide)]
        rw [Int.toNat_natCast, Int.toNat_natCast]
        exact cpI_text a1 a2 m2 n (Nat.le_refl _)
  · rw [if_neg h3, if_neg h3]
    have hl := bsOf_lt s a
    refine ⟨⟨by omega, Or.inl ⟨rfl, ?_, ?_, rfl, rfl⟩⟩, ?_⟩
    · show (0 : Int) ≤ ((bsOf s a : Nat) : Int); omega
    · show ((bsOf s a : Nat) : Int) ≤ 255; omega
    · show (if ((0 : Nat) : Int) = 0 then bytesL s a ++ [((bsOf s a : Nat) : Int).toNat] else cpI (((0 : Nat) : Int).toNat) (bytesL s a) (((0 : Nat) : Int).toNat)) = _
      rw [if_pos (show ((0 : Nat) : Int) = 0 by rfl)]
      rw [Int.toNat_natCast, ← bytesL_succ]
theorem run_shape (s : ByteArray) : ∀ k, ∃ i, i ≤ k ∧ tkRun s k = tkRun s i ∧ (tkRun s i).1.length = i ∧ (∀ j, j < i → (tkRun s j).2 < s.size ∧ (tkRun s i).1[j]? = some (tokAt s (tkRun s j).2)) ∧ (i = k ∨ ¬ (tkRun s i).2 < s.size) ∧ i ≤ (tkRun s i).2 ∧ (tkRun s i).2 ≤ s.size
  | 0 => ⟨0, Nat.le_refl _, rfl, rfl, fun j hj => absurd hj (by omega), Or.inl rfl, Nat.zero_le _, Nat.zero_le _⟩
  | k + 1 => by
    obtain ⟨i, h1, h2, h3, h4, h5, h6, h7⟩ := run_shape s k
    have e : tkRun s (k + 1) = if (tkRun s k).2 < s.size then ((tkRun s k).1 ++ [tokAt s (tkRun s k).2], (tkRun s k).2 + stepAt s (tkRun s k).2) else tkRun s k := rfl
    by_cases hc : (tkRun s i).2 < s.size
    · have hik : i = k := by rcases h5 with h5 | h5; exact h5; exact absurd hc h5
      subst hik
      rw [if_pos hc] at e
      obtain ⟨s1, s2⟩ := step_in hc
      refine ⟨i + 1, Nat.le_refl _, rfl, ?_, fun j hj => ?_, Or.inl rfl, ?_, ?_⟩
      · rw [e]; simp [h3]
      · rw [e]
        by_cases hji : j < i
        · obtain ⟨q1, q2⟩ := h4 j hji
          exact ⟨q1, by rw [List.getElem?_append_left (by omega)]; exact q2⟩
        · obtain rfl : j = i := by omega
          exact ⟨hc, by rw [List.getElem?_append_right (by omega), h3]; simp⟩
      · rw [e]; show i + 1 ≤ _ + _; omega
      · rw [e]; exact s2
    · refine ⟨i, by omega, ?_, h3, h4, Or.inr hc, h6, h7⟩
      rw [e, h2, if_neg hc]
def tkF (s : ByteArray) (i : Nat) : TkI := tkI ((tkL s).getD i ⟨0, 0, 0, 0⟩)
/-- where the token i stands -/
def atS (s : ByteArray) (i : Nat) : Nat := (tkRun s i).2
theorem tkL_shape (s : ByteArray) : (∀ j, j < (tkL s).length → atS s j < s.size ∧ (tkL s)[j]? = some (tokAt s (atS s j)) ∧ atS s (j + 1) = atS s j + stepAt s (atS s j)) ∧ atS s (tkL s).length = s.size ∧ (tkL s).length ≤ s.size := by
  obtain ⟨i, h1, h2, h3, h4, h5, h6, h7⟩ := run_shape s s.size
  have hl : tkL s = (tkRun s i).1 := by unfold tkL; rw [h2]
  rw [hl, h3]
  refine ⟨fun j hj => ⟨(h4 j hj).1, (h4 j hj).2, ?_⟩, ?_, h1⟩
  · show (if _ then _ else _ : List TkN × Nat).2 = _
    rw [if_pos (h4 j hj).1]; rfl
  · show (tkRun s i).2 = _
    rcases h5 with h5 | h5 <;> omega
theorem tkF_at {s : ByteArray} {j : Nat} (h : j < (tkL s).length) : tkF s j = tkI (tokAt s (atS s j)) := by
  unfold tkF
  rw [List.getD_eq_getElem?_getD, ((tkL_shape s).1 j h).2.1]; rfl
theorem unPre_text (s : ByteArray) (hs : s.size ≤ 4000) : ∀ i, i ≤ (tkL s).length → unPre (tkF s) i = some (bytesL s (atS s i))
  | 0, _ => rfl
  | i + 1, hi => by
    have ih := unPre_text s hs i (by omega)
    obtain ⟨q1, q2, q3⟩ := (tkL_shape s).1 i (by omega)
    obtain ⟨t1, t2⟩ := tok_ok hs q1
    have hst := (step_in q1).2
    rw [unPre_step ih, tkF_at (by omega), unT_yes (by rw [bytesL_len]; exact t1) (by rw [t2, bytesL_len]; omega), t2, q3]
theorem strL_bytes (s : ByteArray) : strL (bytesL s s.size) = s := by
  obtain ⟨⟨l⟩⟩ := s
  unfold strL bytesL
  congr 1
  congr 1
  apply List.ext_getElem?
  intro i
  rw [List.getElem?_map, List.getElem?_map]
  by_cases h : i < l.length
  · have h' : i < (ByteArray.mk ⟨l⟩).size := h
    rw [List.getElem?_range h', List.getElem?_eq_getElem h]
    show some (UInt8.ofNat (l.getD i 0).toNat) = _
    rw [List.getD_eq_getElem?_getD, List.getElem?_eq_getElem h]
    simp
  · have h' : ¬ i < (ByteArray.mk ⟨l⟩).size := h
    rw [List.getElem?_eq_none (by rw [List.length_range]; omega), List.getElem?_eq_none (by omega)]; rfl
theorem un_text (s : ByteArray) (hs : s.size ≤ 4000) : unAns (unOf (tkF s) (tkL s).length) = .tuple #[.string s, .bool true] := by
  have h := tkL_shape s
  unfold unOf
  rw [if_pos (by omega), unPre_text s hs _ (Nat.le_refl _), h.2.1]
  show Value.tuple #[.string (strL (bytesL s s.size)), .bool true] = _
  rw [strL_bytes]
theorem tkC_at : ∀ (L : List TkN) (i : Nat), i < L.length → (tkC L)[4 * i]? = some (.int .i64 (tkI (L.getD i ⟨0, 0, 0, 0⟩)).k) ∧ (tkC L)[4 * i + 1]? = some (.int .i64 (tkI (L.getD i ⟨0, 0, 0, 0⟩)).b) ∧ (tkC L)[4 * i + 2]? = some (.int .i64 (tkI (L.getD i ⟨0, 0, 0, 0⟩)).d) ∧ (tkC L)[4 * i + 3]? = some (.int .i64 (tkI (L.getD i ⟨0, 0, 0, 0⟩)).l)
  | [], _, h => by simp at h
  | t :: r, 0, _ => ⟨rfl, rfl, rfl, rfl⟩
  | t :: r, i + 1, h => by
    obtain ⟨h0, h1, h2, h3⟩ := tkC_at r i (by simpa using h)
    exact ⟨h0, h1, h2, h3⟩
theorem own_arg {w : World} {B : Nat} {v : Value} {s : ByteArray} (h : w.ownsRow B 95 4 v (tkL s).length (tkC (tkL s))) : TkArg w v (tkL s).length (tkF s) := by
  obtain ⟨hl, ⟨h0, hn⟩ | ⟨g, cap, cur, h1, h2, h3, h4, h5, h6, h7⟩⟩ := h
  · exact ⟨none, 0, by rw [hn]; exact h0, fun h => absurd h (by omega)⟩
  · refine ⟨_, _, h1, fun _ => ⟨g, rfl, (Array.getElem?_eq_some_iff.1 h3).1, ?_, ?_, ?_, ?_⟩⟩
    all_goals
      intro i hi
      have hx := tkC_at (tkL s) i hi
      rw [cell_of_row w g _ _ _ _ h3]
      rw [← h7] at hx
      simp only [List.getElem?_take] at hx
      obtain ⟨x0, x1, x2, x3⟩ := hx
      rw [if_pos (by omega)] at x0 x1 x2 x3
    · simpa [tkF] using x0
    · simpa [tkF] using x1
    · simpa [tkF] using x2
    · simpa [tkF] using x3
/-- what a token says, and what stands there -/
theorem tok_says {s : ByteArray} {a : Nat} (ha : a < s.size) : ∃ d n : Nat, lonV s a = .tuple #[.int .i64 (d : Int), .int .i64 (n : Int)] ∧ n ≤ 66 ∧ ((3 ≤ n ∧ tkI (tokAt s a) = ⟨1, 0, d, n⟩ ∧ stepAt s a = n) ∨ (n < 3 ∧ (∃ b : Int, tkI (tokAt s a) = ⟨0, b, 0, 0⟩) ∧ stepAt s a = 1)) := by
  refine ⟨(best (lonF s a) a).1, (best (lonF s a) a).2, rfl, ?_, ?_⟩
  · rcases (best_is (lonF s a) a).2.2 with ⟨_, h0⟩ | ⟨_, _, h1, _⟩
    · omega
    · have h5 : lonF s a (best (lonF s a) a).1 ≤ min 66 (s.size - a) := (mlen_spec (bsOf s) (min 66 (s.size - a)) a (best (lonF s a) a).1).1
      omega
  · unfold tokAt stepAt
    by_cases h3 : 3 ≤ (best (lonF s a) a).2
    · rw [if_pos h3, if_pos h3]; exact Or.inl ⟨h3, rfl, rfl⟩
    · rw [if_neg h3, if_neg h3]; exact Or.inr ⟨by omega, ⟨_, rfl⟩, rfl⟩
end Go.Proofs.Ytibciflmalfbjaa
