/-
  Chunks as plain mathematics.
-/
import Derived.Test.YtneeledgokccgadCutMath
namespace Go.Proofs.Ytneeledgokccgad
set_option linter.unusedVariables false
def chkL (s : ByteArray) : Nat → List Nat → List ByteArray
  | _, [] => []
  | f, c :: l => s.extract f c :: chkL s c l
def lastC : Nat → List Nat → Nat
  | f, [] => f
  | _, c :: l => lastC c l
def chkC (l : List ByteArray) : List Value := l.map Value.string
theorem chkL_len (s : ByteArray) (f : Nat) (l : List Nat) : (chkL s f l).length = l.length := by
  induction l generalizing f with
  | nil => rfl
  | cons c l ih => simp [chkL, ih]
theorem lastC_snoc (f : Nat) (l : List Nat) (x : Nat) : lastC f (l ++ [x]) = x := by
  induction l generalizing f with
  | nil => rfl
  | cons c l ih => exact ih c
theorem chkL_snoc (s : ByteArray) (f : Nat) (l : List Nat) (x : Nat) : chkL s f (l ++ [x]) = chkL s f l ++ [s.extract (lastC f l) x] := by
  induction l generalizing f with
  | nil => rfl
  | cons c l ih => show s.extract f c :: chkL s c (l ++ [x]) = _; rw [ih]; rfl
variable {L B M : Nat}
/-- each cut stands behind the one ahead, and within the text -/
theorem cut_order {l pre : List Nat} {x : Nat} (h : pre ++ [x] <+: cutL L B M 0 0 0 l) : lastC 0 pre < x ∧ x ≤ l.length := by
  obtain ⟨post, he⟩ := h
  have hx : x ∈ cutL L B M 0 0 0 l := by rw [← he]; simp
  have h1 := cutL_in 0 0 0 l x hx
  refine ⟨?_, by omega⟩
  rcases List.eq_nil_or_concat pre with rfl | ⟨pre', c, rfl⟩
  · exact h1.1
  · have e : List.concat pre' c = pre' ++ [c] := by simp
    rw [e] at he ⊢
    rw [lastC_snoc]
    have he' : cutL L B M 0 0 0 l = pre' ++ c :: (x :: post) := by rw [← he]; simp
    obtain ⟨_, _, h3⟩ := cutL_behind 0 0 0 l pre' (x :: post) c he'
    have hx2 : x ∈ cutL L B M c 0 0 (l.drop (c - 0)) := by rw [← h3]; simp
    exact (cutL_in _ _ _ _ x hx2).1
end Go.Proofs.Ytneeledgokccgad
