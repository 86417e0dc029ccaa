/-
  Several texts of this seat as one: LonMath, LonS, ShelfL.
-/
import Derived.Test.YtpeddaljgmkomaaPk18
import Derived.Test.YtpeddaljgmkomaaPk00
import Derived.BigQuiet
import Derived.OwnWalk
import Derived.Shelf.Lay
import Derived.Shelf.LaySoft
import Derived.Shelf.Strings.Builder1
import Derived.Shelf.Strings.BuilderF
import Derived.Shelf.Strings.BuilderK
import Derived.Test.YtpeddaljgmkomaaRows

/-!   What stood before, as plain mathematics: how many bytes are alike, and the best of all places. -/
namespace Go.Proofs.Ytpeddaljgmkomaa
set_option linter.unusedVariables false

/-- at most m more bytes alike, from i on, so far back as d -/
def mrun (bs : Nat → Nat) (a d : Nat) : Nat → Nat → Nat
  | 0, i => i
  | m + 1, i => if bs (a + i - d) = bs (a + i) then mrun bs a d m (i + 1) else i
def mlen (bs : Nat → Nat) (M a d : Nat) : Nat := mrun bs a d M 0
theorem mrun_eq {bs : Nat → Nat} {a d n : Nat} : ∀ (m i : Nat), i ≤ n → n ≤ i + m → (∀ j, i ≤ j → j < n → bs (a + j - d) = bs (a + j)) → (n = i + m ∨ bs (a + n - d) ≠ bs (a + n)) → mrun bs a d m i = n
  | 0, i, h1, h2, _, _ => by show i = n; omega
  | m + 1, i, h1, h2, h3, h4 => by
    unfold mrun
    by_cases e : i = n
    · subst e
      rcases h4 with h4 | h4
      · omega
      · rw [if_neg h4]
    · rw [if_pos (h3 i (Nat.le_refl _) (by omega))]
      exact mrun_eq m (i + 1) (by omega) (by omega) (fun j hj hn => h3 j (by omega) hn) (by omega)
theorem mlen_eq {bs : Nat → Nat} {M a d n : Nat} (h1 : n ≤ M) (h2 : ∀ j, j < n → bs (a + j - d) = bs (a + j)) (h3 : n = M ∨ bs (a + n - d) ≠ bs (a + n)) : mlen bs M a d = n :=
  mrun_eq M 0 (by omega) (by omega) (fun j _ hj => h2 j hj) (by omega)
theorem mrun_spec (bs : Nat → Nat) (a d : Nat) : ∀ (m i : Nat), i ≤ mrun bs a d m i ∧ mrun bs a d m i ≤ i + m ∧ (∀ j, i ≤ j → j < mrun bs a d m i → bs (a + j - d) = bs (a + j)) ∧ (mrun bs a d m i = i + m ∨ bs (a + mrun bs a d m i - d) ≠ bs (a + mrun bs a d m i))
  | 0, i => ⟨Nat.le_refl _, Nat.le_refl _, fun j h1 h2 => absurd h2 (by show ¬ j < i; omega), Or.inl rfl⟩
  | m + 1, i => by
    unfold mrun
    by_cases h : bs (a + i - d) = bs (a + i)
    · rw [if_pos h]
      obtain ⟨h1, h2, h3, h4⟩ := mrun_spec bs a d m (i + 1)
      refine ⟨by omega, by omega, fun j hj1 hj2 => ?_, by omega⟩
      by_cases e : j = i
      · subst e; exact h
      · exact h3 j (by omega) hj2
    · rw [if_neg h]
      exact ⟨Nat.le_refl _, by omega, fun j h1 h2 => absurd h2 (by omega), Or.inr h⟩
theorem mlen_spec (bs : Nat → Nat) (M a d : Nat) : mlen bs M a d ≤ M ∧ (∀ j, j < mlen bs M a d → bs (a + j - d) = bs (a + j)) ∧ (mlen bs M a d = M ∨ bs (a + mlen bs M a d - d) ≠ bs (a + mlen bs M a d)) := by
  obtain ⟨_, h2, h3, h4⟩ := mrun_spec bs a d M 0
  exact ⟨by unfold mlen; omega, fun j hj => h3 j (by omega) hj, by unfold mlen; omega⟩
/-- the best of the first k: the most, of these the first -/
def IsB (f : Nat → Nat) (k d n : Nat) : Prop := (∀ e, 1 ≤ e → e ≤ k → f e ≤ n) ∧ (∀ e, 1 ≤ e → e < d → f e < n) ∧ ((d = 0 ∧ n = 0) ∨ (1 ≤ d ∧ d ≤ k ∧ f d = n ∧ 0 < n))
theorem IsB.uniq {f : Nat → Nat} {k d n d' n' : Nat} (h : IsB f k d n) (h' : IsB f k d' n') : d = d' ∧ n = n' := by
  obtain ⟨h1, h2, h3⟩ := h
  obtain ⟨g1, g2, g3⟩ := h'
  rcases h3 with ⟨rfl, rfl⟩ | ⟨a1, a2, a3, a4⟩
  · rcases g3 with ⟨rfl, rfl⟩ | ⟨b1, b2, b3, b4⟩
    · exact ⟨rfl, rfl⟩
    · have := h1 d' b1 b2; omega
  · rcases g3 with ⟨rfl, rfl⟩ | ⟨b1, b2, b3, b4⟩
    · have := g1 d a1 a2; omega
    · have p1 := h1 d' b1 b2
      have p2 := g1 d a1 a2
      have : n = n' := by omega
      subst this
      refine ⟨?_, rfl⟩
      rcases Nat.lt_trichotomy d d' with l | l | l
      · have := g2 d a1 l; omega
      · exact l
      · have := h2 d' b1 l; omega
theorem IsB.zero (f : Nat → Nat) : IsB f 0 0 0 := ⟨fun e h1 h2 => by omega, fun e h1 h2 => by omega, Or.inl ⟨rfl, rfl⟩⟩
theorem IsB.more {f : Nat → Nat} {k d n : Nat} (h : IsB f k d n) (hg : n < f (k + 1)) : IsB f (k + 1) (k + 1) (f (k + 1)) := by
  obtain ⟨h1, h2, h3⟩ := h
  refine ⟨fun e he1 he2 => ?_, fun e he1 he2 => ?_, Or.inr ⟨by omega, by omega, rfl, by omega⟩⟩
  · by_cases c : e = k + 1
    · subst c; exact Nat.le_refl _
    · have := h1 e he1 (by omega); omega
  · have := h1 e he1 (by omega); omega
theorem IsB.less {f : Nat → Nat} {k d n : Nat} (h : IsB f k d n) (hg : f (k + 1) ≤ n) : IsB f (k + 1) d n := by
  obtain ⟨h1, h2, h3⟩ := h
  refine ⟨fun e he1 he2 => ?_, h2, ?_⟩
  · by_cases c : e = k + 1
    · subst c; exact hg
    · exact h1 e he1 (by omega)
  · rcases h3 with h3 | ⟨a1, a2, a3, a4⟩
    · exact Or.inl h3
    · exact Or.inr ⟨a1, by omega, a3, a4⟩
theorem IsB.upto {f : Nat → Nat} {k d n : Nat} (h : IsB f k d n) : ∀ j, (∀ e, k < e → e ≤ k + j → f e ≤ n) → IsB f (k + j) d n
  | 0, _ => h
  | j + 1, hj => (h.upto j fun e h1 h2 => hj e h1 (by omega)).less (hj (k + j + 1) (by omega) (by omega))
/-- the best, by trying all -/
def best (f : Nat → Nat) : Nat → Nat × Nat
  | 0 => (0, 0)
  | k + 1 => if (best f k).2 < f (k + 1) then (k + 1, f (k + 1)) else best f k
theorem best_is (f : Nat → Nat) : ∀ k, IsB f k (best f k).1 (best f k).2
  | 0 => IsB.zero f
  | k + 1 => by
    have h := best_is f k
    by_cases c : (best f k).2 < f (k + 1)
    · have e : best f (k + 1) = (k + 1, f (k + 1)) := by show (if _ then _ else _) = _; rw [if_pos c]
      rw [e]; exact h.more c
    · have e : best f (k + 1) = best f k := by show (if _ then _ else _) = _; rw [if_neg c]
      rw [e]; exact h.less (by omega)
/-- three bytes alike -/
def T3 (bs : Nat → Nat) (j q : Nat) : Prop := bs q = bs j ∧ bs (q + 1) = bs (j + 1) ∧ bs (q + 2) = bs (j + 2)
theorem T3.trans {bs : Nat → Nat} {j p q : Nat} (h : T3 bs j p) (k : T3 bs p q) : T3 bs j q := ⟨k.1.trans h.1, k.2.1.trans h.2.1, k.2.2.trans h.2.2⟩
theorem T3.refl (bs : Nat → Nat) (j : Nat) : T3 bs j j := ⟨rfl, rfl, rfl⟩
theorem T3.symm {bs : Nat → Nat} {j p : Nat} (h : T3 bs j p) : T3 bs p j := ⟨h.1.symm, h.2.1.symm, h.2.2.symm⟩
theorem mlen_three {bs : Nat → Nat} {M a e : Nat} (he : e ≤ a) (hM : 3 ≤ M) : 3 ≤ mlen bs M a e ↔ T3 bs a (a - e) := by
  obtain ⟨h1, h2, h3⟩ := mlen_spec bs M a e
  constructor
  · intro h
    have a0 := h2 0 (by omega)
    have a1 := h2 1 (by omega)
    have a2 := h2 2 (by omega)
    rw [show a + 0 - e = a - e by omega, show a + 0 = a by omega] at a0
    rw [show a + 1 - e = a - e + 1 by omega] at a1
    rw [show a + 2 - e = a - e + 2 by omega] at a2
    exact ⟨a0, a1, a2⟩
  · rintro ⟨a0, a1, a2⟩
    by_cases c : 3 ≤ mlen bs M a e
    · exact c
    · exfalso
      rcases h3 with h3 | h3
      · omega
      · have hc : mlen bs M a e = 0 ∨ mlen bs M a e = 1 ∨ mlen bs M a e = 2 := by omega
        rcases hc with hc | hc | hc <;> rw [hc] at h3
        · exact h3 (by rw [show a + 0 - e = a - e by omega, show a + 0 = a by omega]; exact a0)
        · exact h3 (by rw [show a + 1 - e = a - e + 1 by omega]; exact a1)
        · exact h3 (by rw [show a + 2 - e = a - e + 2 by omega]; exact a2)
/-- of three bytes or more, else none -/
def g3 (f : Nat → Nat) (e : Nat) : Nat := if 3 ≤ f e then f e else 0
theorem g3_big {f : Nat → Nat} {k d n : Nat} (h : IsB (g3 f) k d n) (hn : 0 < n) : IsB f k d n := by
  obtain ⟨h1, h2, h3⟩ := h
  rcases h3 with ⟨_, h0⟩ | ⟨a1, a2, a3, a4⟩
  · omega
  · have hf : f d = n ∧ 3 ≤ n := by
      unfold g3 at a3
      split at a3 <;> omega
    refine ⟨fun e he1 he2 => ?_, fun e he1 he2 => ?_, Or.inr ⟨a1, a2, hf.1, a4⟩⟩
    · have := h1 e he1 he2
      unfold g3 at this
      split at this <;> omega
    · have := h2 e he1 he2
      unfold g3 at this
      split at this <;> omega
theorem g3_none {f : Nat → Nat} {k d : Nat} (h : IsB (g3 f) k d 0) : ∀ e, 1 ≤ e → e ≤ k → f e < 3 := fun e he1 he2 => by
  have := h.1 e he1 he2
  unfold g3 at this
  split at this <;> omega
/-- how far ahead of each place its three bytes stood last -/
def StOk (bs : Nat → Nat) (L : Nat) (st : Nat → Nat) : Prop := ∀ j, j < L →
  (j + 3 ≤ L → (st j = 0 ∧ ∀ q, q < j → ¬ T3 bs j q) ∨ (1 ≤ st j ∧ st j ≤ j ∧ T3 bs j (j - st j) ∧ ∀ q, j - st j < q → q < j → ¬ T3 bs j q)) ∧ (¬ j + 3 ≤ L → st j = 0)
/-- one step along the chain -/
theorem chain_step {bs st : Nat → Nat} {L M a p d n : Nat} (hst : StOk bs L st) (ha : a < L) (hM : M = min 66 (L - a)) (hp : p ≤ a) (ht : p = a ∨ (3 ≤ M ∧ T3 bs a p)) (hs : 0 < st p) (hb : IsB (g3 (mlen bs M a)) (a - p) d n) :
    st p ≤ p ∧ 3 ≤ M ∧ T3 bs a (p - st p) ∧ IsB (g3 (mlen bs M a)) (a - (p - st p) - 1) d n ∧ g3 (mlen bs M a) (a - (p - st p)) = mlen bs M a (a - (p - st p)) := by
  obtain ⟨h1, h2⟩ := hst p (by omega)
  have h3 : p + 3 ≤ L := by
    by_cases c : p + 3 ≤ L
    · exact c
    · have := h2 c; omega
  rcases h1 h3 with ⟨h0, _⟩ | ⟨b1, b2, b3, b4⟩
  · omega
  · have hM3 : 3 ≤ M := by
      rcases ht with rfl | ⟨h, _⟩
      · omega
      · exact h
    have hta : T3 bs a p := by
      rcases ht with rfl | ⟨_, h⟩
      · exact T3.refl _ _
      · exact h
    have htq := hta.trans b3
    refine ⟨b2, hM3, htq, ?_, ?_⟩
    · have := hb.upto (st p - 1) (fun e he1 he2 => by
        unfold g3
        split
        · rename_i hc
          exfalso
          have := (mlen_three (bs := bs) (M := M) (a := a) (e := e) (by omega) hM3).1 hc
          exact b4 (a - e) (by omega) (by omega) (hta.symm.trans this)
        · omega)
      rwa [show a - p + (st p - 1) = a - (p - st p) - 1 by omega] at this
    · unfold g3
      rw [if_pos ((mlen_three (bs := bs) (M := M) (a := a) (by omega) hM3).2 (by rwa [show a - (a - (p - st p)) = p - st p by omega]))]
theorem chain_end {bs st : Nat → Nat} {L M a p d n : Nat} (hst : StOk bs L st) (ha : a < L) (hM : M = min 66 (L - a)) (hp : p ≤ a) (ht : p = a ∨ (3 ≤ M ∧ T3 bs a p)) (hs : M ≤ n ∨ st p = 0) (hb : IsB (g3 (mlen bs M a)) (a - p) d n) : IsB (g3 (mlen bs M a)) a d n := by
  have hle : ∀ e, g3 (mlen bs M a) e ≤ M := fun e => by
    have := (mlen_spec bs M a e).1
    unfold g3; split <;> omega
  have key := hb.upto p (fun e he1 he2 => by
    rcases hs with hs | hs
    · have := hle e; omega
    · unfold g3
      split
      · rename_i hc
        exfalso
        have hM3 : 3 ≤ M := by have := (mlen_spec bs M a e).1; omega
        have hta : T3 bs a p := by
          rcases ht with rfl | ⟨_, h⟩
          · exact T3.refl _ _
          · exact h
        obtain ⟨h1, h2⟩ := hst p (by omega)
        have h3 : p + 3 ≤ L := by omega
        have hte := (mlen_three (bs := bs) (M := M) (a := a) (e := e) (by omega) hM3).1 hc
        rcases h1 h3 with ⟨_, b⟩ | ⟨b1, _⟩
        · exact b (a - e) (by omega) (hta.symm.trans hte)
        · omega
      · omega)
  rwa [show a - p + p = a by omega] at key
end Go.Proofs.Ytpeddaljgmkomaa

/-!   The longest that stood before: the specification's. -/
namespace Go.Proofs.Ytpeddaljgmkomaa
open Go.RowKit
set_option linter.unusedVariables false
set_option linter.unusedSimpArgs false

def lonIntOf : Value → Int | .int _ q => q | _ => 0
def lonF (s : ByteArray) (a : Nat) : Nat → Nat := mlen (bsOf s) (min 66 (s.size - a)) a
def lonV (s : ByteArray) (a : Nat) : Value := .tuple #[.int .i64 ((best (lonF s a) a).1 : Nat), .int .i64 ((best (lonF s a) a).2 : Nat)]
theorem below_drewN {B : Nat} {a w : World} (h : Below B a w) : ∀ n, Below B a (w.drewN n) := fun n => ⟨h.os, h.tape, h.output, h.size, h.block⟩
theorem best_more {f : Nat → Nat} {k : Nat} (h : (best f k).2 < f (k + 1)) : best f (k + 1) = (k + 1, f (k + 1)) := by show (if _ then _ else _) = _; rw [if_pos h]
theorem best_less {f : Nat → Nat} {k : Nat} (h : ¬ (best f k).2 < f (k + 1)) : best f (k + 1) = best f k := by show (if _ then _ else _) = _; rw [if_neg h]

end Go.Proofs.Ytpeddaljgmkomaa

/-!   DERIVED: LAID BY THE SHELF's lay-shelf.mjs AT THE DUMP 'toys/ytpeddaljgmkomaa/ytpeddaljgmkomaa.cut.gsa' (alias 'Try'): THE LIBRARY CONTRACTS THAT ARE PROVED ONCE, OVER ANY PROGRAM AND ANY NUMBERING, AS THEOREMS OF THIS PROGRAM: WITHOUT A WALK: 'shelf_lay' reads the table of numbers off the bodies and has the kernel compare each body; then each contract is ONE APPLICATION. EACH COMMAND STANDS UNDER 'shelf_try': one that errs is rolled back and told in the build's print ('SHELF: NOT LAID: <name>: ..'); THE MODULE's LAST ROW OF PRINT COUNTS THEM ('SHELF: n LAID, m NOT LAID'): READ IT: a contract that is not laid is not there to be used. -/
namespace Go.Proofs
open Go.Shelf
shelf_tried
end Go.Proofs
