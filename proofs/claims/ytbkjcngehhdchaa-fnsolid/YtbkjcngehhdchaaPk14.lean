/-
  Several texts of this seat as one: UnTk, ChoM, StepMath.
-/
import Derived.Test.YtbkjcngehhdchaaPk13
import Derived.Test.YtbkjcngehhdchaaPk09
import Derived.Test.YtbkjcngehhdchaaPk10
import Derived.Test.YtbkjcngehhdchaaPk08
import Derived.Maps.OwnSet
import Derived.Maps.Views
import Derived.WideKeyArr2
import Derived.DeepKeys5
import Derived.ChangeKeys

/-!   The text of a text's tokens is the text. -/
namespace Go.Proofs.Ytbkjcngehhdchaa
open Go.RowKit
set_option linter.unusedVariables false
def bytesL (s : ByteArray) (a : Nat) : List Nat := (List.range a).map (bsOf s)
theorem bytesL_len (s : ByteArray) (a : Nat) : (bytesL s a).length = a := by simp [bytesL]
theorem bytesL_succ (s : ByteArray) (a : Nat) : bytesL s (a + 1) = bytesL s a ++ [bsOf s a] := by simp [bytesL, List.range_succ]
theorem bytesL_at (s : ByteArray) (a i : Nat) (h : i < a) : (bytesL s a).getD i 0 = bsOf s i := by
  rw [List.getD_eq_getElem?_getD, bytesL, List.getElem?_map, List.getElem?_range h]; rfl
theorem cpI_text {s : ByteArray} {a d n : Nat} (hd1 : 1 ≤ d) (hd : d ≤ a) (h : ∀ k, k < n → bsOf s (a + k - d) = bsOf s (a + k)) : ∀ m, m ≤ n → cpI d (bytesL s a) m = bytesL s (a + m)
  | 0, _ => rfl
  | m + 1, hm => by
    have ih := cpI_text hd1 hd h m (by omega)
    show cpI d (bytesL s a) m ++ [(cpI d (bytesL s a) m).getD ((cpI d (bytesL s a) m).length - d) 0] = _
    rw [ih, bytesL_len, bytesL_at _ _ _ (by omega), h m (by omega), ← bytesL_succ]; rfl
def tkI (t : TkN) : TkI := ⟨t.k, t.b, t.d, t.l⟩
theorem tok_ok {s : ByteArray} {a : Nat} (hs : s.size ≤ 4000) (ha : a < s.size) :
    tokP (tkI (tokAt s a)).k (tkI (tokAt s a)).b (tkI (tokAt s a)).d (tkI (tokAt s a)).l (a : Int) ∧ tkOut (bytesL s a) (tkI (tokAt s a)) = bytesL s (a + stepAt s a) := by
  unfold tokAt stepAt
  by_cases h3 : 3 ≤ (best (lonF s a) a).2
  · rw [if_pos h3, if_pos h3]
    have hB := best_is (lonF s a) a
    generalize (best (lonF s a) a).1 = d at *
    generalize (best (lonF s a) a).2 = n at *
    obtain ⟨_, _, ⟨_, h0⟩ | ⟨a1, a2, a3, a4⟩⟩ := hB
    · omega
    · unfold lonF at a3
      obtain ⟨m1, m2, m3⟩ := mlen_spec (bsOf s) (min 66 (s.size - a)) a d
      rw [a3] at m1 m2 m3
      refine ⟨⟨by omega, Or.inr ⟨rfl, rfl, ?_, ?_, ?_, ?_, ?_⟩⟩, ?_⟩
      · show (1 : Int) ≤ (d : Int); omega
      · show (d : Int) ≤ 4096; omega
      · show (d : Int) ≤ (a : Int); omega
      · show (3 : Int) ≤ (n : Int); omega
      · show (n : Int) ≤ 66; omega
      · show (if ((1 : Nat) : Int) = 0 then bytesL s a ++ [((0 : Nat) : Int).toNat] else cpI ((d : Int).toNat) (bytesL s a) ((n : Int).toNat)) = _
        rw [if_neg (show ¬ ((1 : Nat) : Int) = 0 by decide)]
        rw [Int.toNat_natCast, Int.toNat_natCast]
        exact cpI_text a1 a2 m2 n (Nat.le_refl _)
  · rw [if_neg h3, if_neg h3]
    have hl := bsOf_lt s a
    refine ⟨⟨by omega, Or.inl ⟨rfl, ?_, ?_, rfl, rfl⟩⟩, ?_⟩
    · show (0 : Int) ≤ ((bsOf s a : Nat) : Int); omega
    · show ((bsOf s a : Nat) : Int) ≤ 255; omega
    · show (if ((0 : Nat) : Int) = 0 then bytesL s a ++ [((bsOf s a : Nat) : Int).toNat] else cpI (((0 : Nat) : Int).toNat) (bytesL s a) (((0 : Nat) : Int).toNat)) = _
      rw [if_pos (show ((0 : Nat) : Int) = 0 by rfl)]
      rw [Int.toNat_natCast, ← bytesL_succ]
theorem run_shape (s : ByteArray) : ∀ k, ∃ i, i ≤ k ∧ tkRun s k = tkRun s i ∧ (tkRun s i).1.length = i ∧ (∀ j, j < i → (tkRun s j).2 < s.size ∧ (tkRun s i).1[j]? = some (tokAt s (tkRun s j).2)) ∧ (i = k ∨ ¬ (tkRun s i).2 < s.size) ∧ i ≤ (tkRun s i).2 ∧ (tkRun s i).2 ≤ s.size
  | 0 => ⟨0, Nat.le_refl _, rfl, rfl, fun j hj => absurd hj (by omega), Or.inl rfl, Nat.zero_le _, Nat.zero_le _⟩
  | k + 1 => by
    obtain ⟨i, h1, h2, h3, h4, h5, h6, h7⟩ := run_shape s k
    have e : tkRun s (k + 1) = if (tkRun s k).2 < s.size then ((tkRun s k).1 ++ [tokAt s (tkRun s k).2], (tkRun s k).2 + stepAt s (tkRun s k).2) else tkRun s k := rfl
    by_cases hc : (tkRun s i).2 < s.size
    · have hik : i = k := by rcases h5 with h5 | h5; exact h5; exact absurd hc h5
      subst hik
      rw [if_pos hc] at e
      obtain ⟨s1, s2⟩ := step_in hc
      refine ⟨i + 1, Nat.le_refl _, rfl, ?_, fun j hj => ?_, Or.inl rfl, ?_, ?_⟩
      · rw [e]; simp [h3]
      · rw [e]
        by_cases hji : j < i
        · obtain ⟨q1, q2⟩ := h4 j hji
          exact ⟨q1, by rw [List.getElem?_append_left (by omega)]; exact q2⟩
        · obtain rfl : j = i := by omega
          exact ⟨hc, by rw [List.getElem?_append_right (by omega), h3]; simp⟩
      · rw [e]; show i + 1 ≤ _ + _; omega
      · rw [e]; exact s2
    · refine ⟨i, by omega, ?_, h3, h4, Or.inr hc, h6, h7⟩
      rw [e, h2, if_neg hc]
def tkF (s : ByteArray) (i : Nat) : TkI := tkI ((tkL s).getD i ⟨0, 0, 0, 0⟩)
/-- where the token i stands -/
def atS (s : ByteArray) (i : Nat) : Nat := (tkRun s i).2
theorem tkL_shape (s : ByteArray) : (∀ j, j < (tkL s).length → atS s j < s.size ∧ (tkL s)[j]? = some (tokAt s (atS s j)) ∧ atS s (j + 1) = atS s j + stepAt s (atS s j)) ∧ atS s (tkL s).length = s.size ∧ (tkL s).length ≤ s.size := by
  obtain ⟨i, h1, h2, h3, h4, h5, h6, h7⟩ := run_shape s s.size
  have hl : tkL s = (tkRun s i).1 := by unfold tkL; rw [h2]
  rw [hl, h3]
  refine ⟨fun j hj => ⟨(h4 j hj).1, (h4 j hj).2, ?_⟩, ?_, h1⟩
  · show (if _ then _ else _ : List TkN × Nat).2 = _
    rw [if_pos (h4 j hj).1]; rfl
  · show (tkRun s i).2 = _
    rcases h5 with h5 | h5 <;> omega
theorem tkF_at {s : ByteArray} {j : Nat} (h : j < (tkL s).length) : tkF s j = tkI (tokAt s (atS s j)) := by
  unfold tkF
  rw [List.getD_eq_getElem?_getD, ((tkL_shape s).1 j h).2.1]; rfl
theorem unPre_text (s : ByteArray) (hs : s.size ≤ 4000) : ∀ i, i ≤ (tkL s).length → unPre (tkF s) i = some (bytesL s (atS s i))
  | 0, _ => rfl
  | i + 1, hi => by
    have ih := unPre_text s hs i (by omega)
    obtain ⟨q1, q2, q3⟩ := (tkL_shape s).1 i (by omega)
    obtain ⟨t1, t2⟩ := tok_ok hs q1
    have hst := (step_in q1).2
    rw [unPre_step ih, tkF_at (by omega), unT_yes (by rw [bytesL_len]; exact t1) (by rw [t2, bytesL_len]; omega), t2, q3]
theorem strL_bytes (s : ByteArray) : strL (bytesL s s.size) = s := by
  obtain ⟨⟨l⟩⟩ := s
  unfold strL bytesL
  congr 1
  congr 1
  apply List.ext_getElem?
  intro i
  rw [List.getElem?_map, List.getElem?_map]
  by_cases h : i < l.length
  · have h' : i < (ByteArray.mk ⟨l⟩).size := h
    rw [List.getElem?_range h', List.getElem?_eq_getElem h]
    show some (UInt8.ofNat (l.getD i 0).toNat) = _
    rw [List.getD_eq_getElem?_getD, List.getElem?_eq_getElem h]
    simp
  · have h' : ¬ i < (ByteArray.mk ⟨l⟩).size := h
    rw [List.getElem?_eq_none (by rw [List.length_range]; omega), List.getElem?_eq_none (by omega)]; rfl
theorem un_text (s : ByteArray) (hs : s.size ≤ 4000) : unAns (unOf (tkF s) (tkL s).length) = .tuple #[.string s, .bool true] := by
  have h := tkL_shape s
  unfold unOf
  rw [if_pos (by omega), unPre_text s hs _ (Nat.le_refl _), h.2.1]
  show Value.tuple #[.string (strL (bytesL s s.size)), .bool true] = _
  rw [strL_bytes]
theorem tkC_at : ∀ (L : List TkN) (i : Nat), i < L.length → (tkC L)[4 * i]? = some (.int .i64 (tkI (L.getD i ⟨0, 0, 0, 0⟩)).k) ∧ (tkC L)[4 * i + 1]? = some (.int .i64 (tkI (L.getD i ⟨0, 0, 0, 0⟩)).b) ∧ (tkC L)[4 * i + 2]? = some (.int .i64 (tkI (L.getD i ⟨0, 0, 0, 0⟩)).d) ∧ (tkC L)[4 * i + 3]? = some (.int .i64 (tkI (L.getD i ⟨0, 0, 0, 0⟩)).l)
  | [], _, h => by simp at h
  | t :: r, 0, _ => ⟨rfl, rfl, rfl, rfl⟩
  | t :: r, i + 1, h => by
    obtain ⟨h0, h1, h2, h3⟩ := tkC_at r i (by simpa using h)
    exact ⟨h0, h1, h2, h3⟩
theorem own_arg {w : World} {B : Nat} {v : Value} {s : ByteArray} (h : w.ownsRow B 106 4 v (tkL s).length (tkC (tkL s))) : TkArg w v (tkL s).length (tkF s) := by
  obtain ⟨hl, ⟨h0, hn⟩ | ⟨g, cap, cur, h1, h2, h3, h4, h5, h6, h7⟩⟩ := h
  · exact ⟨none, 0, by rw [hn]; exact h0, fun h => absurd h (by omega)⟩
  · refine ⟨_, _, h1, fun _ => ⟨g, rfl, (Array.getElem?_eq_some_iff.1 h3).1, ?_, ?_, ?_, ?_⟩⟩
    all_goals
      intro i hi
      have hx := tkC_at (tkL s) i hi
      rw [cell_of_row w g _ _ _ _ h3]
      rw [← h7] at hx
      simp only [List.getElem?_take] at hx
      obtain ⟨x0, x1, x2, x3⟩ := hx
      rw [if_pos (by omega)] at x0 x1 x2 x3
    · simpa [tkF] using x0
    · simpa [tkF] using x1
    · simpa [tkF] using x2
    · simpa [tkF] using x3
/-- what a token says, and what stands there -/
theorem tok_says {s : ByteArray} {a : Nat} (ha : a < s.size) : ∃ d n : Nat, lonV s a = .tuple #[.int .i64 (d : Int), .int .i64 (n : Int)] ∧ n ≤ 66 ∧ ((3 ≤ n ∧ tkI (tokAt s a) = ⟨1, 0, d, n⟩ ∧ stepAt s a = n) ∨ (n < 3 ∧ (∃ b : Int, tkI (tokAt s a) = ⟨0, b, 0, 0⟩) ∧ stepAt s a = 1)) := by
  refine ⟨(best (lonF s a) a).1, (best (lonF s a) a).2, rfl, ?_, ?_⟩
  · rcases (best_is (lonF s a) a).2.2 with ⟨_, h0⟩ | ⟨_, _, h1, _⟩
    · omega
    · have h5 : lonF s a (best (lonF s a) a).1 ≤ min 66 (s.size - a) := (mlen_spec (bsOf s) (min 66 (s.size - a)) a (best (lonF s a) a).1).1
      omega
  · unfold tokAt stepAt
    by_cases h3 : 3 ≤ (best (lonF s a) a).2
    · rw [if_pos h3, if_pos h3]; exact Or.inl ⟨h3, rfl, rfl⟩
    · rw [if_neg h3, if_neg h3]; exact Or.inr ⟨by omega, ⟨_, rfl⟩, rfl⟩
end Go.Proofs.Ytbkjcngehhdchaa

/-!   The tokens of a text are such as may stand; its choices. -/
namespace Go.Proofs.Ytbkjcngehhdchaa
open Go.RowKit
set_option linter.unusedVariables false
def tkG (s : ByteArray) (i : Nat) : TkN := (tkL s).getD i ⟨0, 0, 0, 0⟩
theorem tkG_ok {s : ByteArray} (hs : s.size ≤ 4000) (i : Nat) (h : i < (tkL s).length) : TkOk (tkG s i) := by
  obtain ⟨q1, q2, _⟩ := (tkL_shape s).1 i h
  have e : tkG s i = tokAt s (atS s i) := by unfold tkG; rw [List.getD_eq_getElem?_getD, q2]; rfl
  obtain ⟨⟨_, h1⟩, _⟩ := tok_ok hs q1
  rw [← e] at h1
  generalize tkG s i = t at h1
  obtain ⟨k, b, d, l⟩ := t
  simp only [tkI] at h1
  unfold TkOk
  rcases h1 with ⟨h1, h2, h3, _⟩ | ⟨h1, h2, h3, h4, _, h5, h6⟩
  · exact Or.inl ⟨by show k = 0; omega, by show b < 256; omega⟩
  · exact Or.inr ⟨by show k = 1; omega, by show 1 ≤ d; omega, by show d ≤ 4096; omega, by show 3 ≤ l; omega, by show l ≤ 66; omega⟩
theorem tkF_G (s : ByteArray) (i : Nat) : tkF s i = tkI (tkG s i) := rfl
/-- the choices of a text -/
def choS (s : ByteArray) : List (Nat × Nat) := (choUp (tkG s) (tkL s).length).1
theorem choUp_len (F : Nat → TkN) : ∀ i, (choUp F i).1.length ≤ 19 * i
  | 0 => Nat.zero_le _
  | i + 1 => by
    show ((choUp F i).1 ++ tokCh (choUp F i).2 (F i)).length ≤ _
    rw [List.length_append, tokCh_len]
    have := choUp_len F i
    split <;> omega
/-- nine of a byte, nineteen of a copy, which makes three bytes or more -/
theorem choUp_few {s : ByteArray} : ∀ i, i ≤ (tkL s).length → (choUp (tkG s) i).1.length ≤ 9 * atS s i
  | 0, _ => Nat.zero_le _
  | i + 1, hi => by
    have ih := choUp_few (s := s) i (by omega)
    obtain ⟨q1, q2, q3⟩ := (tkL_shape s).1 i (by omega)
    have e : tkG s i = tokAt s (atS s i) := by unfold tkG; rw [List.getD_eq_getElem?_getD, q2]; rfl
    show ((choUp (tkG s) i).1 ++ tokCh (choUp (tkG s) i).2 (tkG s i)).length ≤ _
    rw [List.length_append, tokCh_len, q3, e]
    unfold tokAt stepAt
    split
    · rename_i h
      rw [if_neg (show ¬ (1 : Nat) = 0 by decide)]; omega
    · rename_i h
      rw [if_pos rfl]; omega
theorem choS_len {s : ByteArray} (hs : s.size ≤ 4000) : (choS s).length ≤ 36000 := by
  have h := choUp_few (s := s) (tkL s).length (Nat.le_refl _)
  rw [(tkL_shape s).2.1] at h
  unfold choS; omega
theorem choS_ok {s : ByteArray} (hs : s.size ≤ 4000) : ∀ c ∈ choS s, c.1 < 512 ∧ (c.2 = 0 ∨ c.2 = 1) := choUp_ok (tkG s) (tkL s).length (fun i h => tkG_ok hs i h) _ (Nat.le_refl _)
end Go.Proofs.Ytbkjcngehhdchaa

/-!   Places of three bytes: what a map of them holds, and how far ahead they stood last. -/
namespace Go.Proofs.Ytbkjcngehhdchaa
open Go.RowKit
set_option linter.unusedVariables false

instance (bs : Nat → Nat) (j q : Nat) : Decidable (T3 bs j q) := inferInstanceAs (Decidable (_ ∧ _ ∧ _))
/-- how far ahead, of the first n places -/
def prevP (bs : Nat → Nat) (j : Nat) : Nat → Nat
  | 0 => 0
  | n + 1 => if T3 bs j n then j - n else prevP bs j n
theorem prevP_none {bs : Nat → Nat} {j : Nat} : ∀ n, (∀ q, q < n → ¬ T3 bs j q) → prevP bs j n = 0
  | 0, _ => rfl
  | n + 1, h => by
    show (if _ then _ else _) = _
    rw [if_neg (h n (by omega))]
    exact prevP_none n fun q hq => h q (by omega)
theorem prevP_some {bs : Nat → Nat} {j q : Nat} (hq : T3 bs j q) : ∀ n, q < n → (∀ r, q < r → r < n → ¬ T3 bs j r) → prevP bs j n = j - q
  | 0, h, _ => by omega
  | n + 1, h, hr => by
    show (if _ then _ else _) = _
    by_cases e : q = n
    · subst e; rw [if_pos hq]
    · rw [if_neg (hr n (by omega) (by omega))]
      exact prevP_some hq n (by omega) fun r h1 h2 => hr r h1 (by omega)
theorem prevP_cases (bs : Nat → Nat) (j : Nat) : ∀ n, (∀ q, q < n → ¬ T3 bs j q) ∨ ∃ q, q < n ∧ T3 bs j q ∧ ∀ r, q < r → r < n → ¬ T3 bs j r
  | 0 => Or.inl fun q h => by omega
  | n + 1 => by
    by_cases h : T3 bs j n
    · exact Or.inr ⟨n, by omega, h, fun r h1 h2 => by omega⟩
    · rcases prevP_cases bs j n with h1 | ⟨q, h1, h2, h3⟩
      · refine Or.inl fun q hq => ?_
        by_cases e : q = n
        · subst e; exact h
        · exact h1 q (by omega)
      · refine Or.inr ⟨q, by omega, h2, fun r a b => ?_⟩
        by_cases e : r = n
        · subst e; exact h
        · exact h3 r a (by omega)
def stF (bs : Nat → Nat) (L j : Nat) : Nat := if j + 3 ≤ L then prevP bs j j else 0
theorem stF_ok (bs : Nat → Nat) (L : Nat) : StOk bs L (stF bs L) := fun j hj => by
  refine ⟨fun h3 => ?_, fun h3 => by unfold stF; rw [if_neg h3]⟩
  unfold stF
  rw [if_pos h3]
  rcases prevP_cases bs j j with h | ⟨q, h1, h2, h4⟩
  · exact Or.inl ⟨prevP_none j h, h⟩
  · rw [prevP_some h2 j h1 h4]
    refine Or.inr ⟨by omega, by omega, by rwa [show j - (j - q) = q by omega], fun r a b => h4 r (by omega) b⟩
theorem stF_le (bs : Nat → Nat) (L j : Nat) : stF bs L j ≤ j := by
  unfold stF; split
  · rcases prevP_cases bs j j with h | ⟨q, h1, h2, h4⟩
    · rw [prevP_none j h]; omega
    · rw [prevP_some h2 j h1 h4]; omega
  · omega
/-- three bytes as a key -/
def kL3 (bs : Nat → Nat) (j : Nat) : List Lit := [.int .u8 (bs j : Nat), .int .u8 (bs (j + 1) : Nat), .int .u8 (bs (j + 2) : Nat)]
def kl3 (bs : Nat → Nat) (j : Nat) : Lit := .string (keyBytes (kL3 bs j))
theorem u8_wf {x : Nat} (h : x < 256) : (Lit.int .u8 (x : Int)).wf = true := by
  simp [Lit.wf, IntKind.min, IntKind.max, IntKind.signed, IntKind.bits]; omega
theorem kl3_iff {bs : Nat → Nat} (hb : ∀ i, bs i < 256) (j q : Nat) : kl3 bs q = kl3 bs j ↔ T3 bs j q := by
  constructor
  · intro h
    have h1 : keyBytes (kL3 bs q) = keyBytes (kL3 bs j) := by injection h
    have h2 := keyBytes_inj (l := kL3 bs q) (l' := kL3 bs j) ⟨rfl, rfl, rfl, trivial⟩ (by
      intro a ha
      simp only [kL3, List.mem_cons, List.not_mem_nil, or_false] at ha
      rcases ha with rfl | rfl | rfl <;> exact u8_wf (hb _)) (by
      intro a ha
      simp only [kL3, List.mem_cons, List.not_mem_nil, or_false] at ha
      rcases ha with rfl | rfl | rfl <;> exact u8_wf (hb _)) h1
    simp only [kL3, List.cons.injEq, Lit.int.injEq, true_and, and_true] at h2
    exact ⟨by omega, by omega, by omega⟩
  · rintro ⟨h1, h2, h3⟩
    unfold kl3 kL3
    rw [h1, h2, h3]
theorem kl3_key (bs : Nat → Nat) (j : Nat) : WideAt.IsKeyLit (kl3 bs j) := trivial
/-- what the map holds behind n places -/
def C3 (bs : Nat → Nat) : Nat → DataW Unit
  | 0 => .map []
  | n + 1 => (C3 bs n).put (kl3 bs n) (.lit (.int .i64 (n : Int)))
theorem C3_map (bs : Nat → Nat) : ∀ n, Maps.IsMap (C3 bs n)
  | 0 => Maps.isMap_empty
  | n + 1 => (C3_map bs n).put _ _
theorem C3_none {bs : Nat → Nat} (hb : ∀ i, bs i < 256) {j : Nat} : ∀ n, (∀ q, q < n → ¬ T3 bs j q) → Maps.has (C3 bs n) (kl3 bs j) = false
  | 0, _ => rfl
  | n + 1, h => by
    have hne : kl3 bs j ≠ kl3 bs n := fun e => h n (by omega) ((kl3_iff hb j n).1 e.symm)
    show Maps.has ((C3 bs n).put _ _) _ = _
    rw [Maps.has_put_other hne]
    exact C3_none hb n fun q hq => h q (by omega)
theorem C3_some {bs : Nat → Nat} (hb : ∀ i, bs i < 256) {j q : Nat} (hq : T3 bs j q) : ∀ n, q < n → (∀ r, q < r → r < n → ¬ T3 bs j r) →
    Maps.has (C3 bs n) (kl3 bs j) = true ∧ ∀ z, (C3 bs n).atKey (kl3 bs j) z = .lit (.int .i64 (q : Int))
  | 0, h, _ => by omega
  | n + 1, h, hr => by
    by_cases e : q = n
    · subst e
      have hk : kl3 bs q = kl3 bs j := (kl3_iff hb j q).2 hq
      show Maps.has ((C3 bs q).put (kl3 bs q) _) _ = _ ∧ ∀ z, ((C3 bs q).put (kl3 bs q) _).atKey _ z = _
      rw [← hk]
      exact ⟨Maps.has_put_same (C3_map bs q) (kl3_key bs q) _, fun z => Maps.atKey_put_same (C3_map bs q) (kl3_key bs q) _ z⟩
    · have hne : kl3 bs j ≠ kl3 bs n := fun x => hr n (by omega) (by omega) ((kl3_iff hb j n).1 x.symm)
      obtain ⟨h1, h2⟩ := C3_some hb hq n (by omega) fun r a b => hr r a (by omega)
      refine ⟨?_, fun z => ?_⟩
      · show Maps.has ((C3 bs n).put _ _) _ = _
        rw [Maps.has_put_other hne]; exact h1
      · show ((C3 bs n).put _ _).atKey _ z = _
        rw [Maps.atKey_put_other hne]; exact h2 z
/-- what the look-up tells at place j -/
theorem look3 {bs : Nat → Nat} (hb : ∀ i, bs i < 256) (j : Nat) (c : Int) (hc : (C3 bs j).atKey (kl3 bs j) (.lit (.int .i64 0)) = .lit (.int .i64 c)) :
    (Maps.has (C3 bs j) (kl3 bs j) = false ∧ prevP bs j j = 0) ∨ (Maps.has (C3 bs j) (kl3 bs j) = true ∧ ∃ q : Nat, q < j ∧ c = (q : Int) ∧ prevP bs j j = j - q) := by
  rcases prevP_cases bs j j with h | ⟨q, h1, h2, h4⟩
  · exact Or.inl ⟨C3_none hb j h, prevP_none j h⟩
  · obtain ⟨a1, a2⟩ := C3_some hb h2 j h1 h4
    refine Or.inr ⟨a1, q, h1, ?_, prevP_some h2 j h1 h4⟩
    rw [a2] at hc
    injection hc with hc
    injection hc with _ hc
    exact hc.symm
theorem keyOf_three {P : Program} {k e : TypeId} (A : WideMaps.ArrKey P k e 3) (he : P.underlying e = some (.int .u8)) (hsz : ∃ m, P.types.size = m + 1) {bs : Nat → Nat} (hb : ∀ i, bs i < 256) (j : Nat) :
    keyOf P k (.agg #[.int .u8 (bs j : Nat), .int .u8 (bs (j + 1) : Nat), .int .u8 (bs (j + 2) : Nat)]) = some (kl3 bs j) := by
  have hkt := A.keyType hsz
  obtain ⟨m, hm⟩ := hsz
  have wa := u8_wf (hb j)
  have wb := u8_wf (hb (j + 1))
  have wc := u8_wf (hb (j + 2))
  unfold keyOf kl3 kL3
  simp only [A.hu]
  rw [if_pos (by simp [hkt, Value.formed, A.hu, A.size]), hm]
  unfold Program.keyLits
  simp only [A.hu, Value.cells]
  rw [if_pos (by rw [A.size]; rfl), show List.range 3 = [0, 1, 2] from rfl, List.mapM_cons, List.mapM_cons, List.mapM_cons, List.mapM_nil]
  simp [A.one, Program.keyLits, he, wa, wb, wc]
end Go.Proofs.Ytbkjcngehhdchaa
