/-
  Cuts as plain mathematics.
-/
import Derived.Test.YtneeledgokccgadGear
namespace Go.Proofs.Ytneeledgokccgad
set_option linter.unusedVariables false
def gearN (x : Nat) : Nat := (gearI (x : Int)).toNat
theorem wrap_nat (z : Int) : ∃ m : Nat, IntKind.u64.wrap z = (m : Int) ∧ m < 18446744073709551616 := by
  refine ⟨(IntKind.u64.wrap z).toNat, ?_, ?_⟩ <;> rw [IntKind.wrap_u64] <;> omega
theorem xor_shift (m k : Nat) (hm : m < 18446744073709551616) : bits BinOp.xor IntKind.u64 (m : Int) ((m : Int) / (k : Int)) = ((m ^^^ m / k : Nat) : Int) ∧ m ^^^ m / k < 18446744073709551616 := by
  have hk : m / k < 18446744073709551616 := Nat.lt_of_le_of_lt (Nat.div_le_self ..) hm
  have e : (m : Int) / (k : Int) = ((m / k : Nat) : Int) := by simp
  rw [e, bits_xor_u64_nat m (m / k) hm hk]
  exact ⟨rfl, Nat.xor_lt_two_pow (n := 64) hm hk⟩
theorem gear_nat (x : Nat) : gearI (x : Int) = (gearN x : Int) ∧ gearN x < 18446744073709551616 := by
  have key : ∃ m : Nat, gearI (x : Int) = (m : Int) ∧ m < 18446744073709551616 := by
    unfold gearI
    obtain ⟨a, ha, ha2⟩ := wrap_nat (IntKind.u64.wrap (IntKind.u64.wrap (x : Int) * 11400714819323198485) + 7046029254386353131)
    obtain ⟨b, hb, hb2⟩ := wrap_nat (bits BinOp.xor IntKind.u64 (a : Int) ((a : Int) / 1073741824) * 13787848793156543929)
    obtain ⟨c, hc, hc2⟩ := wrap_nat (bits BinOp.xor IntKind.u64 (b : Int) ((b : Int) / 134217728) * 10723151780598845931)
    have e0 : gz0 (x : Int) = (a : Int) := ha
    have e1 : gz1 (a : Int) = (b : Int) := hb
    have e2 : gz2 (b : Int) = (c : Int) := hc
    rw [e0, e1, e2]
    exact ⟨c ^^^ c / 2147483648, (xor_shift c 2147483648 hc2).1, (xor_shift c 2147483648 hc2).2⟩
  obtain ⟨m, h1, h2⟩ := key
  have : gearN x = m := by unfold gearN; rw [h1]; rfl
  rw [this]; exact ⟨h1, h2⟩
def hashN (h x : Nat) : Nat := (2 * h + gearN x) % 18446744073709551616
theorem hashN_lt (h x : Nat) : hashN h x < 18446744073709551616 := Nat.mod_lt _ (by decide)
def endsN (L B M n h : Nat) : Prop := M ≤ n ∨ (L ≤ n ∧ h / 2 ^ (64 - B) = 0)
instance (L B M n h : Nat) : Decidable (endsN L B M n h) := by unfold endsN; infer_instance
def cutL (L B M : Nat) (at' n h : Nat) : List Nat → List Nat
  | [] => []
  | x :: l => if l = [] ∨ endsN L B M (n + 1) (hashN h x) then (at' + 1) :: cutL L B M (at' + 1) 0 0 l else cutL L B M (at' + 1) (n + 1) (hashN h x) l
variable {L B M : Nat}
theorem cutL_cut {a n h x : Nat} {l : List Nat} (hc : l = [] ∨ endsN L B M (n + 1) (hashN h x)) : cutL L B M a n h (x :: l) = (a + 1) :: cutL L B M (a + 1) 0 0 l := by
  rw [cutL, if_pos hc]
theorem cutL_on {a n h x : Nat} {l : List Nat} (hc : ¬ (l = [] ∨ endsN L B M (n + 1) (hashN h x))) : cutL L B M a n h (x :: l) = cutL L B M (a + 1) (n + 1) (hashN h x) l := by
  rw [cutL, if_neg hc]
theorem cutL_len (a n h : Nat) (l : List Nat) : (cutL L B M a n h l).length ≤ l.length := by
  induction l generalizing a n h with
  | nil => simp [cutL]
  | cons x l ih =>
    by_cases hc : l = [] ∨ endsN L B M (n + 1) (hashN h x)
    · rw [cutL_cut hc]; have := ih (a + 1) 0 0; simp; omega
    · rw [cutL_on hc]; have := ih (a + 1) (n + 1) (hashN h x); simp; omega
theorem cutL_in (a n h : Nat) (l : List Nat) : ∀ c ∈ cutL L B M a n h l, a < c ∧ c ≤ a + l.length := by
  induction l generalizing a n h with
  | nil => intro c hc; simp [cutL] at hc
  | cons x l ih =>
    intro c hc
    by_cases hq : l = [] ∨ endsN L B M (n + 1) (hashN h x)
    · rw [cutL_cut hq] at hc
      rcases List.mem_cons.1 hc with rfl | hc
      · simp
      · have := ih _ _ _ c hc; simp; omega
    · rw [cutL_on hq] at hc
      have := ih _ _ _ c hc; simp; omega
/-- the cuts do not ask where the bytes lie -/
theorem cutL_shift (d a n h : Nat) (l : List Nat) : cutL L B M (a + d) n h l = (cutL L B M a n h l).map (· + d) := by
  induction l generalizing a n h with
  | nil => rfl
  | cons x l ih =>
    have e : a + d + 1 = a + 1 + d := by omega
    by_cases hq : l = [] ∨ endsN L B M (n + 1) (hashN h x)
    · rw [cutL_cut hq, cutL_cut hq, e, ih]; rfl
    · rw [cutL_on hq, cutL_on hq, e, ih]
/-- behind a cut the cuts are those of what stands behind it -/
theorem cutL_behind (a n h : Nat) (l pre post : List Nat) (c : Nat) (he : cutL L B M a n h l = pre ++ c :: post) : a < c ∧ c ≤ a + l.length ∧ post = cutL L B M c 0 0 (l.drop (c - a)) := by
  induction l generalizing a n h pre with
  | nil => simp [cutL] at he
  | cons x l ih =>
    by_cases hq : l = [] ∨ endsN L B M (n + 1) (hashN h x)
    · rw [cutL_cut hq] at he
      cases pre with
      | nil =>
        simp only [List.nil_append, List.cons.injEq] at he
        obtain ⟨rfl, he⟩ := he
        refine ⟨by omega, by simp, ?_⟩
        have : a + 1 - a = 1 := by omega
        rw [this, ← he]; rfl
      | cons y pre =>
        simp only [List.cons_append, List.cons.injEq] at he
        obtain ⟨h1, h2, h3⟩ := ih _ _ _ _ he.2
        refine ⟨by omega, by simp; omega, ?_⟩
        have : c - a = (c - (a + 1)) + 1 := by omega
        rw [this, h3]; rfl
    · rw [cutL_on hq] at he
      obtain ⟨h1, h2, h3⟩ := ih _ _ _ _ he
      refine ⟨by omega, by simp; omega, ?_⟩
      have : c - a = (c - (a + 1)) + 1 := by omega
      rw [this, h3]; rfl
/-- the last cut is the end -/
theorem cutL_last (a n h : Nat) (l : List Nat) (hl : l ≠ []) : (cutL L B M a n h l).getLast? = some (a + l.length) := by
  induction l generalizing a n h with
  | nil => exact absurd rfl hl
  | cons x l ih =>
    by_cases hq : l = [] ∨ endsN L B M (n + 1) (hashN h x)
    · rw [cutL_cut hq]
      by_cases hn : l = []
      · subst hn; simp [cutL]
      · have := ih (a + 1) 0 0 hn
        rw [List.getLast?_cons, this]; simp; omega
    · rw [cutL_on hq]
      have hn : l ≠ [] := fun e => hq (.inl e)
      rw [ih _ _ _ hn]; simp; omega
end Go.Proofs.Ytneeledgokccgad
