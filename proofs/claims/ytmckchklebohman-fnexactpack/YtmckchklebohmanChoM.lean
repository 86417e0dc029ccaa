/-
  The tokens of a text are such as may stand; its choices.
-/
import Derived.Test.YtmckchklebohmanChC
import Derived.Test.YtmckchklebohmanUnTk
namespace Go.Proofs.Ytmckchklebohman
open Go.RowKit
set_option linter.unusedVariables false
def tkG (s : ByteArray) (i : Nat) : TkN := (tkL s).getD i ⟨0, 0, 0, 0⟩
theorem tkG_ok {s : ByteArray} (hs : s.size ≤ 4000) (i : Nat) (h : i < (tkL s).length) : TkOk (tkG s i) := by
  obtain ⟨q1, q2, _⟩ := (tkL_shape s).1 i h
  have e : tkG s i = tokAt s (atS s i) := by unfold tkG; rw [List.getD_eq_getElem?_getD, q2]; rfl
  obtain ⟨⟨_, h1⟩, _⟩ := tok_ok hs q1
  rw [← e] at h1
  generalize tkG s i = t at h1
  obtain ⟨k, b, d, l⟩ := t
  simp only [tkI] at h1
  unfold TkOk
  rcases h1 with ⟨h1, h2, h3, _⟩ | ⟨h1, h2, h3, h4, _, h5, h6⟩
  · exact Or.inl ⟨by show k = 0; omega, by show b < 256; omega⟩
  · exact Or.inr ⟨by show k = 1; omega, by show 1 ≤ d; omega, by show d ≤ 4096; omega, by show 3 ≤ l; omega, by show l ≤ 66; omega⟩
theorem tkF_G (s : ByteArray) (i : Nat) : tkF s i = tkI (tkG s i) := rfl
/-- the choices of a text -/
def choS (s : ByteArray) : List (Nat × Nat) := (choUp (tkG s) (tkL s).length).1
theorem choUp_len (F : Nat → TkN) : ∀ i, (choUp F i).1.length ≤ 19 * i
  | 0 => Nat.zero_le _
  | i + 1 => by
    show ((choUp F i).1 ++ tokCh (choUp F i).2 (F i)).length ≤ _
    rw [List.length_append, tokCh_len]
    have := choUp_len F i
    split <;> omega
/-- nine of a byte, nineteen of a copy, which makes three bytes or more -/
theorem choUp_few {s : ByteArray} : ∀ i, i ≤ (tkL s).length → (choUp (tkG s) i).1.length ≤ 9 * atS s i
  | 0, _ => Nat.zero_le _
  | i + 1, hi => by
    have ih := choUp_few (s := s) i (by omega)
    obtain ⟨q1, q2, q3⟩ := (tkL_shape s).1 i (by omega)
    have e : tkG s i = tokAt s (atS s i) := by unfold tkG; rw [List.getD_eq_getElem?_getD, q2]; rfl
    show ((choUp (tkG s) i).1 ++ tokCh (choUp (tkG s) i).2 (tkG s i)).length ≤ _
    rw [List.length_append, tokCh_len, q3, e]
    unfold tokAt stepAt
    split
    · rename_i h
      rw [if_neg (show ¬ (1 : Nat) = 0 by decide)]; omega
    · rename_i h
      rw [if_pos rfl]; omega
theorem choS_len {s : ByteArray} (hs : s.size ≤ 4000) : (choS s).length ≤ 36000 := by
  have h := choUp_few (s := s) (tkL s).length (Nat.le_refl _)
  rw [(tkL_shape s).2.1] at h
  unfold choS; omega
theorem choS_ok {s : ByteArray} (hs : s.size ≤ 4000) : ∀ c ∈ choS s, c.1 < 512 ∧ (c.2 = 0 ∨ c.2 = 1) := choUp_ok (tkG s) (tkL s).length (fun i h => tkG_ok hs i h) _ (Nat.le_refl _)
end Go.Proofs.Ytmckchklebohman
