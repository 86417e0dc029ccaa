/-
  Lists of choices in memory that are one's own; the choices of tokens, as plain mathematics.
-/
import Derived.Test.YtmckchklebohmanRngF
import Derived.Test.YtmckchklebohmanTkMath
namespace Go.Proofs.Ytmckchklebohman
open Go.RowKit
set_option linter.unusedVariables false
def cC (L : List (Nat × Nat)) : List Value := L.flatMap fun c => [.int .i64 (c.1 : Int), .int .i64 (c.2 : Int)]
theorem cC_snoc (L : List (Nat × Nat)) (x b : Nat) : cC (L ++ [(x, b)]) = cC L ++ [.int .i64 (x : Int), .int .i64 (b : Int)] := by simp [cC]
theorem cC_len (L : List (Nat × Nat)) : (cC L).length = L.length * 2 := by
  induction L with
  | nil => rfl
  | cons t r ih => simp only [cC, List.flatMap_cons, List.length_append, List.length_cons, List.length_nil] at ih ⊢; omega
theorem cC_at (L : List (Nat × Nat)) (i : Nat) (h : i < L.length) : (cC L)[2 * i]? = some (.int .i64 (L[i].1 : Int)) ∧ (cC L)[2 * i + 1]? = some (.int .i64 (L[i].2 : Int)) := by
  induction L generalizing i with
  | nil => simp at h
  | cons c L ih =>
    have e : cC (c :: L) = .int .i64 (c.1 : Int) :: .int .i64 (c.2 : Int) :: cC L := by simp [cC]
    rw [e]
    cases i with
    | zero => exact ⟨rfl, rfl⟩
    | succ i =>
      have h2 := ih i (by simpa using h)
      have e1 : 2 * (i + 1) = 2 * i + 1 + 1 := by omega
      rw [e1]
      simpa using h2
/-- the choices of a number in a tree -/
def treeL (f v : Nat) : Nat → Nat → List (Nat × Nat)
  | 0, _ => []
  | k + 1, nd => (f + nd, v / 2 ^ k % 2) :: treeL f v k (2 * nd + v / 2 ^ k % 2)
/-- where a tree ends -/
def treeN (v : Nat) : Nat → Nat → Nat
  | 0, nd => nd
  | k + 1, nd => treeN v k (2 * nd + v / 2 ^ k % 2)
def tokCh (a : Nat) (t : TkN) : List (Nat × Nat) :=
  (a, t.k) :: if t.k = 0 then treeL 1 t.b 8 1 else treeL 260 (t.l - 3) 6 1 ++ treeL 330 ((t.d - 1) / 64) 6 1 ++ treeL 400 ((t.d - 1) % 64) 6 1
/-- of the first tokens: their choices, and the kind of the last one -/
def choUp (F : Nat → TkN) : Nat → List (Nat × Nat) × Nat
  | 0 => ([], 0)
  | i + 1 => ((choUp F i).1 ++ tokCh (choUp F i).2 (F i), (F i).k)
/-- a token that may stand -/
def TkOk (t : TkN) : Prop := (t.k = 0 ∧ t.b < 256) ∨ (t.k = 1 ∧ 1 ≤ t.d ∧ t.d ≤ 4096 ∧ 3 ≤ t.l ∧ t.l ≤ 66)
theorem treeL_len (f v : Nat) : ∀ k nd, (treeL f v k nd).length = k
  | 0, _ => rfl
  | k + 1, nd => by simp [treeL, treeL_len f v k]
theorem treeL_ok (f v : Nat) : ∀ k nd m, nd < 2 ^ m → (k = 0 ∨ f + 2 ^ (m + k - 1) ≤ 512) → ∀ c ∈ treeL f v k nd, c.1 < 512 ∧ (c.2 = 0 ∨ c.2 = 1)
  | 0, _, _, _, _ => fun c hc => by simp [treeL] at hc
  | k + 1, nd, m, h1, h2 => fun c hc => by
    have h3 : f + 2 ^ (m + k) ≤ 512 := by rcases h2 with h2 | h2; omega; exact h2
    have hp : 2 ^ m ≤ 2 ^ (m + k) := Nat.pow_le_pow_right (by omega) (by omega)
    rcases List.mem_cons.1 hc with rfl | hc
    · exact ⟨by show f + nd < 512; omega, by show v / 2 ^ k % 2 = 0 ∨ v / 2 ^ k % 2 = 1; omega⟩
    · exact treeL_ok f v k _ (m + 1) (by rw [Nat.pow_succ]; omega) (by rw [show m + 1 + k - 1 = m + k by omega]; exact Or.inr h3) c hc
theorem tokCh_ok {a : Nat} {t : TkN} (ha : a < 512) (h : TkOk t) : ∀ c ∈ tokCh a t, c.1 < 512 ∧ (c.2 = 0 ∨ c.2 = 1) := by
  intro c hc
  unfold tokCh at hc
  rcases List.mem_cons.1 hc with rfl | hc
  · exact ⟨ha, by rcases h with h | h; exact Or.inl h.1; exact Or.inr h.1⟩
  · split at hc
    · exact treeL_ok 1 _ 8 1 1 (by omega) (Or.inr (by decide)) c hc
    · rcases List.mem_append.1 hc with hc | hc
      · rcases List.mem_append.1 hc with hc | hc
        · exact treeL_ok 260 _ 6 1 1 (by omega) (Or.inr (by decide)) c hc
        · exact treeL_ok 330 _ 6 1 1 (by omega) (Or.inr (by decide)) c hc
      · exact treeL_ok 400 _ 6 1 1 (by omega) (Or.inr (by decide)) c hc
theorem tokCh_len (a : Nat) (t : TkN) : (tokCh a t).length = if t.k = 0 then 9 else 19 := by
  unfold tokCh
  split
  · simp [treeL_len]
  · simp [treeL_len]
theorem choUp_kind (F : Nat → TkN) (n : Nat) (h : ∀ i, i < n → TkOk (F i)) : ∀ i, i ≤ n → (choUp F i).2 ≤ 1
  | 0, _ => Nat.zero_le _
  | i + 1, hi => by
    show (F i).k ≤ 1
    rcases h i (by omega) with h | h <;> omega
theorem choUp_ok (F : Nat → TkN) (n : Nat) (h : ∀ i, i < n → TkOk (F i)) : ∀ i, i ≤ n → ∀ c ∈ (choUp F i).1, c.1 < 512 ∧ (c.2 = 0 ∨ c.2 = 1)
  | 0, _ => fun c hc => by cases hc
  | i + 1, hi => fun c hc => by
    rcases List.mem_append.1 hc with hc | hc
    · exact choUp_ok F n h i (by omega) c hc
    · exact tokCh_ok (by have := choUp_kind F n h i (by omega); omega) (h i (by omega)) c hc
end Go.Proofs.Ytmckchklebohman
