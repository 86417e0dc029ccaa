/-
  Several texts of this seat as one: ShaWord, LonMath, LonS.
-/
import Derived.Test.YtbkjcngehhdchaaPk07
import Derived.Laws.Rows
import Derived.Lib.Strings
import Derived.Deep.WholeRow
import Derived.WalkSmall
import Derived.Test.YtbkjcngehhdchaaPk00
import Derived.BigQuiet
import Derived.OwnWalk

/-!   What wordAt answers: four bytes as a word. -/
namespace Go.Proofs.Ytbkjcngehhdchaa
open Go.RowKit

def bsOf (s : ByteArray) (j : Nat) : Nat := (s.data.toList.getD j 0).toNat
theorem bsOf_lt (s : ByteArray) (j : Nat) : bsOf s j < 256 := UInt8.toNat_lt _
theorem bsOf_at (s : ByteArray) (j : Nat) (h : j < s.size) : s[j].toNat = bsOf s j := by
  unfold bsOf
  rw [List.getD_eq_getElem?_getD, List.getElem?_eq_getElem (by rw [← Lib.size_eq]; exact h)]; rfl
/-- the first bytes of a word -/
def pt (bs : Nat → Nat) (i : Nat) : Nat → Nat
  | 0 => 0
  | j + 1 => pt bs i j * 256 + bs (4 * i + j)
theorem pt_lt {bs : Nat → Nat} (hb : ∀ j, bs j < 256) (i : Nat) : ∀ j, j < 4 → pt bs i j < 16777216 := by
  intro j hj
  have h0 := hb (4 * i + 0)
  have h1 := hb (4 * i + 1)
  have h2 := hb (4 * i + 2)
  match j, hj with
  | 0, _ => simp [pt]
  | 1, _ => simp only [pt]; omega
  | 2, _ => simp only [pt]; omega
  | 3, _ => simp only [pt]; omega

set_option maxRecDepth 100000 in
set_option maxHeartbeats 1000000 in
theorem word_any (s : ByteArray) (i : Nat) (w : World) (hs : 4 * i + 4 ≤ s.size) (hi : i < 1000000) :
    Calls Try.prog 101 #[.string s, .int .i64 (i : Int)] w fun e w' => e = .returned (.int .u32 (pt (bsOf s) i 4 : Nat)) ∧ w' = w := by
  go_enter Try.func101, Try.ntmps101
  go_wp2_with fail
  go_loop [5, 7] (fun p c => ∃ j : Nat, j ≤ 4 ∧ c = .int .i64 (j : Int) ∧ p = .int .u32 (pt (bsOf s) i j : Nat)) (fun _ c => 4 - (shaIntOf c).toNat)
  case atStart => exact ⟨0, by omega, rfl, rfl⟩
  case round =>
    obtain ⟨j, hj, rfl, rfl⟩ := hrel
    by_cases hj4 : j < 4
    · have hp := pt_lt (bsOf_lt s) i j hj4
      have hx1 : 4 * i + j < s.size := by omega
      have hx2 : 4 * (i : Int) + j < s.size := by omega
      have hx3 : 0 ≤ 4 * (i : Int) + j := by omega
      have hb := bsOf_at s (4 * i + j) hx1
      have hbl := bsOf_lt s (4 * i + j)
      have hor := or_byte (pt (bsOf s) i j) (bsOf s (4 * i + j)) hp hbl
      have HPT : Hid (pt (bsOf s) i (j + 1) = pt (bsOf s) i j * 256 + bsOf s (4 * i + j)) := rfl
      generalize pt (bsOf s) i j = p at hp hor HPT
      generalize bsOf s (4 * i + j) = b at hb hbl hor HPT
      go_wp2_with fail
      go_round
      case rel => exact ⟨j + 1, by omega, by go_num, by rw [HPT.out]; rfl⟩
      case measure => simp [shaIntOf]; omega
    · obtain rfl : j = 4 := by omega
      go_wp2_with fail
      go_ret
      exact ⟨rfl, rfl⟩
end Go.Proofs.Ytbkjcngehhdchaa

/-!   What stood before, as plain mathematics: how many bytes are alike, and the best of all places. -/
namespace Go.Proofs.Ytbkjcngehhdchaa
set_option linter.unusedVariables false

/-- at most m more bytes alike, from i on, so far back as d -/
def mrun (bs : Nat → Nat) (a d : Nat) : Nat → Nat → Nat
  | 0, i => i
  | m + 1, i => if bs (a + i - d) = bs (a + i) then mrun bs a d m (i + 1) else i
def mlen (bs : Nat → Nat) (M a d : Nat) : Nat := mrun bs a d M 0
theorem mrun_eq {bs : Nat → Nat} {a d n : Nat} : ∀ (m i : Nat), i ≤ n → n ≤ i + m → (∀ j, i ≤ j → j < n → bs (a + j - d) = bs (a + j)) → (n = i + m ∨ bs (a + n - d) ≠ bs (a + n)) → mrun bs a d m i = n
  | 0, i, h1, h2, _, _ => by show i = n; omega
  | m + 1, i, h1, h2, h3, h4 => by
    unfold mrun
    by_cases e : i = n
    · subst e
      rcases h4 with h4 | h4
      · omega
      · rw [if_neg h4]
    · rw [if_pos (h3 i (Nat.le_refl _) (by omega))]
      exact mrun_eq m (i + 1) (by omega) (by omega) (fun j hj hn => h3 j (by omega) hn) (by omega)
theorem mlen_eq {bs : Nat → Nat} {M a d n : Nat} (h1 : n ≤ M) (h2 : ∀ j, j < n → bs (a + j - d) = bs (a + j)) (h3 : n = M ∨ bs (a + n - d) ≠ bs (a + n)) : mlen bs M a d = n :=
  mrun_eq M 0 (by omega) (by omega) (fun j _ hj => h2 j hj) (by omega)
theorem mrun_spec (bs : Nat → Nat) (a d : Nat) : ∀ (m i : Nat), i ≤ mrun bs a d m i ∧ mrun bs a d m i ≤ i + m ∧ (∀ j, i ≤ j → j < mrun bs a d m i → bs (a + j - d) = bs (a + j)) ∧ (mrun bs a d m i = i + m ∨ bs (a + mrun bs a d m i - d) ≠ bs (a + mrun bs a d m i))
  | 0, i => ⟨Nat.le_refl _, Nat.le_refl _, fun j h1 h2 => absurd h2 (by show ¬ j < i; omega), Or.inl rfl⟩
  | m + 1, i => by
    unfold mrun
    by_cases h : bs (a + i - d) = bs (a + i)
    · rw [if_pos h]
      obtain ⟨h1, h2, h3, h4⟩ := mrun_spec bs a d m (i + 1)
      refine ⟨by omega, by omega, fun j hj1 hj2 => ?_, by omega⟩
      by_cases e : j = i
      · subst e; exact h
      · exact h3 j (by omega) hj2
    · rw [if_neg h]
      exact ⟨Nat.le_refl _, by omega, fun j h1 h2 => absurd h2 (by omega), Or.inr h⟩
theorem mlen_spec (bs : Nat → Nat) (M a d : Nat) : mlen bs M a d ≤ M ∧ (∀ j, j < mlen bs M a d → bs (a + j - d) = bs (a + j)) ∧ (mlen bs M a d = M ∨ bs (a + mlen bs M a d - d) ≠ bs (a + mlen bs M a d)) := by
  obtain ⟨_, h2, h3, h4⟩ := mrun_spec bs a d M 0
  exact ⟨by unfold mlen; omega, fun j hj => h3 j (by omega) hj, by unfold mlen; omega⟩
/-- the best of the first k: the most, of these the first -/
def IsB (f : Nat → Nat) (k d n : Nat) : Prop := (∀ e, 1 ≤ e → e ≤ k → f e ≤ n) ∧ (∀ e, 1 ≤ e → e < d → f e < n) ∧ ((d = 0 ∧ n = 0) ∨ (1 ≤ d ∧ d ≤ k ∧ f d = n ∧ 0 < n))
theorem IsB.uniq {f : Nat → Nat} {k d n d' n' : Nat} (h : IsB f k d n) (h' : IsB f k d' n') : d = d' ∧ n = n' := by
  obtain ⟨h1, h2, h3⟩ := h
  obtain ⟨g1, g2, g3⟩ := h'
  rcases h3 with ⟨rfl, rfl⟩ | ⟨a1, a2, a3, a4⟩
  · rcases g3 with ⟨rfl, rfl⟩ | ⟨b1, b2, b3, b4⟩
    · exact ⟨rfl, rfl⟩
    · have := h1 d' b1 b2; omega
  · rcases g3 with ⟨rfl, rfl⟩ | ⟨b1, b2, b3, b4⟩
    · have := g1 d a1 a2; omega
    · have p1 := h1 d' b1 b2
      have p2 := g1 d a1 a2
      have : n = n' := by omega
      subst this
      refine ⟨?_, rfl⟩
      rcases Nat.lt_trichotomy d d' with l | l | l
      · have := g2 d a1 l; omega
      · exact l
      · have := h2 d' b1 l; omega
theorem IsB.zero (f : Nat → Nat) : IsB f 0 0 0 := ⟨fun e h1 h2 => by omega, fun e h1 h2 => by omega, Or.inl ⟨rfl, rfl⟩⟩
theorem IsB.more {f : Nat → Nat} {k d n : Nat} (h : IsB f k d n) (hg : n < f (k + 1)) : IsB f (k + 1) (k + 1) (f (k + 1)) := by
  obtain ⟨h1, h2, h3⟩ := h
  refine ⟨fun e he1 he2 => ?_, fun e he1 he2 => ?_, Or.inr ⟨by omega, by omega, rfl, by omega⟩⟩
  · by_cases c : e = k + 1
    · subst c; exact Nat.le_refl _
    · have := h1 e he1 (by omega); omega
  · have := h1 e he1 (by omega); omega
theorem IsB.less {f : Nat → Nat} {k d n : Nat} (h : IsB f k d n) (hg : f (k + 1) ≤ n) : IsB f (k + 1) d n := by
  obtain ⟨h1, h2, h3⟩ := h
  refine ⟨fun e he1 he2 => ?_, h2, ?_⟩
  · by_cases c : e = k + 1
    · subst c; exact hg
    · exact h1 e he1 (by omega)
  · rcases h3 with h3 | ⟨a1, a2, a3, a4⟩
    · exact Or.inl h3
    · exact Or.inr ⟨a1, by omega, a3, a4⟩
theorem IsB.upto {f : Nat → Nat} {k d n : Nat} (h : IsB f k d n) : ∀ j, (∀ e, k < e → e ≤ k + j → f e ≤ n) → IsB f (k + j) d n
  | 0, _ => h
  | j + 1, hj => (h.upto j fun e h1 h2 => hj e h1 (by omega)).less (hj (k + j + 1) (by omega) (by omega))
/-- the best, by trying all -/
def best (f : Nat → Nat) : Nat → Nat × Nat
  | 0 => (0, 0)
  | k + 1 => if (best f k).2 < f (k + 1) then (k + 1, f (k + 1)) else best f k
theorem best_is (f : Nat → Nat) : ∀ k, IsB f k (best f k).1 (best f k).2
  | 0 => IsB.zero f
  | k + 1 => by
    have h := best_is f k
    by_cases c : (best f k).2 < f (k + 1)
    · have e : best f (k + 1) = (k + 1, f (k + 1)) := by show (if _ then _ else _) = _; rw [if_pos c]
      rw [e]; exact h.more c
    · have e : best f (k + 1) = best f k := by show (if _ then _ else _) = _; rw [if_neg c]
      rw [e]; exact h.less (by omega)
/-- three bytes alike -/
def T3 (bs : Nat → Nat) (j q : Nat) : Prop := bs q = bs j ∧ bs (q + 1) = bs (j + 1) ∧ bs (q + 2) = bs (j + 2)
theorem T3.trans {bs : Nat → Nat} {j p q : Nat} (h : T3 bs j p) (k : T3 bs p q) : T3 bs j q := ⟨k.1.trans h.1, k.2.1.trans h.2.1, k.2.2.trans h.2.2⟩
theorem T3.refl (bs : Nat → Nat) (j : Nat) : T3 bs j j := ⟨rfl, rfl, rfl⟩
theorem T3.symm {bs : Nat → Nat} {j p : Nat} (h : T3 bs j p) : T3 bs p j := ⟨h.1.symm, h.2.1.symm, h.2.2.symm⟩
theorem mlen_three {bs : Nat → Nat} {M a e : Nat} (he : e ≤ a) (hM : 3 ≤ M) : 3 ≤ mlen bs M a e ↔ T3 bs a (a - e) := by
  obtain ⟨h1, h2, h3⟩ := mlen_spec bs M a e
  constructor
  · intro h
    have a0 := h2 0 (by omega)
    have a1 := h2 1 (by omega)
    have a2 := h2 2 (by omega)
    rw [show a + 0 - e = a - e by omega, show a + 0 = a by omega] at a0
    rw [show a + 1 - e = a - e + 1 by omega] at a1
    rw [show a + 2 - e = a - e + 2 by omega] at a2
    exact ⟨a0, a1, a2⟩
  · rintro ⟨a0, a1, a2⟩
    by_cases c : 3 ≤ mlen bs M a e
    · exact c
    · exfalso
      rcases h3 with h3 | h3
      · omega
      · have hc : mlen bs M a e = 0 ∨ mlen bs M a e = 1 ∨ mlen bs M a e = 2 := by omega
        rcases hc with hc | hc | hc <;> rw [hc] at h3
        · exact h3 (by rw [show a + 0 - e = a - e by omega, show a + 0 = a by omega]; exact a0)
        · exact h3 (by rw [show a + 1 - e = a - e + 1 by omega]; exact a1)
        · exact h3 (by rw [show a + 2 - e = a - e + 2 by omega]; exact a2)
/-- of three bytes or more, else none -/
def g3 (f : Nat → Nat) (e : Nat) : Nat := if 3 ≤ f e then f e else 0
theorem g3_big {f : Nat → Nat} {k d n : Nat} (h : IsB (g3 f) k d n) (hn : 0 < n) : IsB f k d n := by
  obtain ⟨h1, h2, h3⟩ := h
  rcases h3 with ⟨_, h0⟩ | ⟨a1, a2, a3, a4⟩
  · omega
  · have hf : f d = n ∧ 3 ≤ n := by
      unfold g3 at a3
      split at a3 <;> omega
    refine ⟨fun e he1 he2 => ?_, fun e he1 he2 => ?_, Or.inr ⟨a1, a2, hf.1, a4⟩⟩
    · have := h1 e he1 he2
      unfold g3 at this
      split at this <;> omega
    · have := h2 e he1 he2
      unfold g3 at this
      split at this <;> omega
theorem g3_none {f : Nat → Nat} {k d : Nat} (h : IsB (g3 f) k d 0) : ∀ e, 1 ≤ e → e ≤ k → f e < 3 := fun e he1 he2 => by
  have := h.1 e he1 he2
  unfold g3 at this
  split at this <;> omega
/-- how far ahead of each place its three bytes stood last -/
def StOk (bs : Nat → Nat) (L : Nat) (st : Nat → Nat) : Prop := ∀ j, j < L →
  (j + 3 ≤ L → (st j = 0 ∧ ∀ q, q < j → ¬ T3 bs j q) ∨ (1 ≤ st j ∧ st j ≤ j ∧ T3 bs j (j - st j) ∧ ∀ q, j - st j < q → q < j → ¬ T3 bs j q)) ∧ (¬ j + 3 ≤ L → st j = 0)
/-- one step along the chain -/
theorem chain_step {bs st : Nat → Nat} {L M a p d n : Nat} (hst : StOk bs L st) (ha : a < L) (hM : M = min 66 (L - a)) (hp : p ≤ a) (ht : p = a ∨ (3 ≤ M ∧ T3 bs a p)) (hs : 0 < st p) (hb : IsB (g3 (mlen bs M a)) (a - p) d n) :
    st p ≤ p ∧ 3 ≤ M ∧ T3 bs a (p - st p) ∧ IsB (g3 (mlen bs M a)) (a - (p - st p) - 1) d n ∧ g3 (mlen bs M a) (a - (p - st p)) = mlen bs M a (a - (p - st p)) := by
  obtain ⟨h1, h2⟩ := hst p (by omega)
  have h3 : p + 3 ≤ L := by
    by_cases c : p + 3 ≤ L
    · exact c
    · have := h2 c; omega
  rcases h1 h3 with ⟨h0, _⟩ | ⟨b1, b2, b3, b4⟩
  · omega
  · have hM3 : 3 ≤ M := by
      rcases ht with rfl | ⟨h, _⟩
      · omega
      · exact h
    have hta : T3 bs a p := by
      rcases ht with rfl | ⟨_, h⟩
      · exact T3.refl _ _
      · exact h
    have htq := hta.trans b3
    refine ⟨b2, hM3, htq, ?_, ?_⟩
    · have := hb.upto (st p - 1) (fun e he1 he2 => by
        unfold g3
        split
        · rename_i hc
          exfalso
          have := (mlen_three (bs := bs) (M := M) (a := a) (e := e) (by omega) hM3).1 hc
          exact b4 (a - e) (by omega) (by omega) (hta.symm.trans this)
        · omega)
      rwa [show a - p + (st p - 1) = a - (p - st p) - 1 by omega] at this
    · unfold g3
      rw [if_pos ((mlen_three (bs := bs) (M := M) (a := a) (by omega) hM3).2 (by rwa [show a - (a - (p - st p)) = p - st p by omega]))]
theorem chain_end {bs st : Nat → Nat} {L M a p d n : Nat} (hst : StOk bs L st) (ha : a < L) (hM : M = min 66 (L - a)) (hp : p ≤ a) (ht : p = a ∨ (3 ≤ M ∧ T3 bs a p)) (hs : M ≤ n ∨ st p = 0) (hb : IsB (g3 (mlen bs M a)) (a - p) d n) : IsB (g3 (mlen bs M a)) a d n := by
  have hle : ∀ e, g3 (mlen bs M a) e ≤ M := fun e => by
    have := (mlen_spec bs M a e).1
    unfold g3; split <;> omega
  have key := hb.upto p (fun e he1 he2 => by
    rcases hs with hs | hs
    · have := hle e; omega
    · unfold g3
      split
      · rename_i hc
        exfalso
        have hM3 : 3 ≤ M := by have := (mlen_spec bs M a e).1; omega
        have hta : T3 bs a p := by
          rcases ht with rfl | ⟨_, h⟩
          · exact T3.refl _ _
          · exact h
        obtain ⟨h1, h2⟩ := hst p (by omega)
        have h3 : p + 3 ≤ L := by omega
        have hte := (mlen_three (bs := bs) (M := M) (a := a) (e := e) (by omega) hM3).1 hc
        rcases h1 h3 with ⟨_, b⟩ | ⟨b1, _⟩
        · exact b (a - e) (by omega) (hta.symm.trans hte)
        · omega
      · omega)
  rwa [show a - p + p = a by omega] at key
end Go.Proofs.Ytbkjcngehhdchaa

/-!   The longest that stood before: the specification's. -/
namespace Go.Proofs.Ytbkjcngehhdchaa
open Go.RowKit
set_option linter.unusedVariables false
set_option linter.unusedSimpArgs false

def lonIntOf : Value → Int | .int _ q => q | _ => 0
def lonF (s : ByteArray) (a : Nat) : Nat → Nat := mlen (bsOf s) (min 66 (s.size - a)) a
def lonV (s : ByteArray) (a : Nat) : Value := .tuple #[.int .i64 ((best (lonF s a) a).1 : Nat), .int .i64 ((best (lonF s a) a).2 : Nat)]
theorem below_drewN {B : Nat} {a w : World} (h : Below B a w) : ∀ n, Below B a (w.drewN n) := fun n => ⟨h.os, h.tape, h.output, h.size, h.block⟩
theorem best_more {f : Nat → Nat} {k : Nat} (h : (best f k).2 < f (k + 1)) : best f (k + 1) = (k + 1, f (k + 1)) := by show (if _ then _ else _) = _; rw [if_pos h]
theorem best_less {f : Nat → Nat} {k : Nat} (h : ¬ (best f k).2 < f (k + 1)) : best f (k + 1) = best f k := by show (if _ then _ else _) = _; rw [if_neg h]

set_option maxRecDepth 100000 in
set_option maxHeartbeats 2000000 in
theorem sl6_any (s : ByteArray) (a : Nat) (w : World) (ha : a < s.size) (hs : s.size ≤ 4000) :
    Calls Try.prog 93 #[.string s, .int .i64 (a : Int)] w fun e w' => e = .returned (lonV s a) ∧ Below w.heap.size w w' := by
  have HF : Hid (∀ k n, n ≤ min 66 (s.size - a) → (∀ j, j < n → bsOf s (a + j - (k + 1)) = bsOf s (a + j)) → (n = min 66 (s.size - a) ∨ bsOf s (a + n - (k + 1)) ≠ bsOf s (a + n)) → lonF s a (k + 1) = n) := fun k n h1 h2 h3 => mlen_eq h1 h2 h3
  obtain ⟨B, hB⟩ : ∃ B : Nat → Nat × Nat, B = best (lonF s a) := ⟨_, rfl⟩
  have HM : Hid (∀ k, (B k).2 < lonF s a (k + 1) → B (k + 1) = (k + 1, lonF s a (k + 1))) := fun k h => by rw [hB] at h ⊢; exact best_more h
  have HL : Hid (∀ k, ¬ (B k).2 < lonF s a (k + 1) → B (k + 1) = B k) := fun k h => by rw [hB] at h ⊢; exact best_less h
  have HV : Hid (lonV s a = .tuple #[.int .i64 ((B a).1 : Nat), .int .i64 ((B a).2 : Nat)]) := by rw [hB]; rfl
  have HBZ : Hid (B 0 = (0, 0)) := by rw [hB]; rfl
  clear hB
  generalize lonF s a = f at HF HM HL
  have hsz : (s.size : Int) ≤ 4000 := by omega
  have haI : (a : Int) < (s.size : Int) := by omega
  go_enter Try.func93, Try.ntmps93
  go_wp2_with fail
  go_loopw [6, 7, 8] (fun x y c wr => ∃ k : Nat, k ≤ a ∧ x = .int .i64 ((B k).1 : Nat) ∧ y = .int .i64 ((B k).2 : Nat) ∧ c = .int .i64 ((k + 1 : Nat) : Int) ∧ Below w.heap.size w wr) (fun _ _ c _ => a + 1 - (lonIntOf c).toNat)
  case atStart => exact ⟨0, by omega, by rw [HBZ.out]; rfl, by rw [HBZ.out]; rfl, rfl, Below.refl _ _⟩
  case round =>
    obtain ⟨k, hk, rfl, rfl, rfl, hb⟩ := hrel
    by_cases hlt : k < a
    · have h1 : (k : Int) + 1 ≤ (a : Int) := by omega
      have h2 : (k : Int) + 1 ≤ 4096 := by omega
      have HM1 := HM.out k
      have HL1 := HL.out k
      have HF1 : Hid _ := HF.out k
      have HMM : Hid _ := HM1
      have HLL : Hid _ := HL1
      clear HM1 HL1
      have HB0 : Hid (Below w.heap.size w wr) := hb
      generalize hD : (B k).1 = D at *
      generalize hN : (B k).2 = N0 at *
      clear hb
      rename World => wx
      go_wp2_with fail
      go_loopw [9] (fun c wr => ∃ n : Nat, n ≤ min 66 (s.size - a) ∧ c = .int .i64 (n : Int) ∧ Hid (∀ j, j < n → bsOf s (a + j - (k + 1)) = bsOf s (a + j)) ∧ Below w.heap.size w wr) (fun c _ => 66 - (lonIntOf c).toNat)
      case atStart => exact ⟨0, by omega, rfl, fun j hj => absurd hj (by omega), HB0.out⟩
      case round =>
        obtain ⟨n, hn, rfl, HE, hb⟩ := hrel
        by_cases h66 : n < 66
        · have h66' : (n : Int) < 66 := by omega
          by_cases hL : a + n < s.size
          · obtain ⟨q1, hq1⟩ : ∃ q, q = a + n - (k + 1) := ⟨_, rfl⟩
            obtain ⟨q2, hq2⟩ : ∃ q, q = a + n := ⟨_, rfl⟩
            have hw2 : IntKind.i64.wrap ((a : Int) + (n : Int)) = (q2 : Int) := by rw [IntKind.wrap_i64]; omega
            have hw1 : IntKind.i64.wrap ((q2 : Int) - ((k : Int) + 1)) = (q1 : Int) := by rw [IntKind.wrap_i64]; omega
            have hx1 : q1 < s.size := by omega
            have hx2 : q2 < s.size := by omega
            have hy1 : (q1 : Int) < (s.size : Int) := by omega
            have hy2 : (q2 : Int) < (s.size : Int) := by omega
            have b1 := bsOf_at s q1 hx1
            have b2 := bsOf_at s q2 hx2
            have l1 := bsOf_lt s q1
            have l2 := bsOf_lt s q2
            by_cases heq : bsOf s q1 = bsOf s q2
            · have HE2 : Hid (∀ j, j < n + 1 → bsOf s (a + j - (k + 1)) = bsOf s (a + j)) := fun j hj => by
                by_cases e : j = n
                · subst e; rw [← hq1, ← hq2]; exact heq
                · exact HE.out j (by omega)
              rw [heq] at b1
              generalize bsOf s q2 = c2 at b1 b2 l2
              clear heq l1 HE hq1 hq2
              go_wp2_with fail
              go_quiet (fail)
              go_wp2_with fail
              go_roundw
              case rel => exact ⟨n + 1, by omega, by go_num, HE2, below_drewN hb _⟩
              case measure => simp [lonIntOf]; omega
            · have hne : ¬ ((bsOf s q1 : Nat) : Int) = ((bsOf s q2 : Nat) : Int) := by omega
              have hne' : (((bsOf s q1 : Nat) : Int) == ((bsOf s q2 : Nat) : Int)) = false := beq_eq_false_iff_ne.2 hne
              have hpf : n = min 66 (s.size - a) ∨ bsOf s (a + n - (k + 1)) ≠ bsOf s (a + n) := Or.inr (by rw [← hq1, ← hq2]; exact heq)
              clear hq1 hq2
              generalize bsOf s q1 = c1 at b1 l1 hne hne'
              generalize bsOf s q2 = c2 at b2 l2 hne hne'
              have hf : f (k + 1) = n := HF1.out n hn HE.out (hpf)
              by_cases hl : N0 < n
              · have hl1 : (N0 : Int) < (n : Int) := by omega
                have hnew := HMM.out (by rw [hf]; exact hl)
                rw [hf] at hnew
                have HNEW : Hid _ := hnew
                clear hnew hf
                go_wp2_with fail
                go_quiet (fail)
                go_wp2_with fail
                go_roundw
                case rel => exact ⟨k + 1, by omega, by first | (rw [HNEW.out]; done) | (rw [HNEW.out]; go_num) | (rw [HNEW.out]; rfl), by first | (rw [HNEW.out]; done) | (rw [HNEW.out]; rfl), by go_num, below_drewN hb _⟩
                case measure => simp [lonIntOf]; omega
              · have hl1 : ¬ (N0 : Int) < (n : Int) := by omega
                have hnew := HLL.out (by rw [hf]; exact hl)
                have HNEW : Hid _ := hnew
                clear hnew hf
                go_wp2_with fail
                go_quiet (fail)
                go_wp2_with fail
                go_roundw
                case rel => exact ⟨k + 1, by omega, by rw [HNEW.out, hD], by rw [HNEW.out, hN], by go_num, below_drewN hb _⟩
                case measure => simp [lonIntOf]; omega
          · obtain ⟨q2, hq2⟩ : ∃ q, q = a + n := ⟨_, rfl⟩
            have hw2 : IntKind.i64.wrap ((a : Int) + (n : Int)) = (q2 : Int) := by rw [IntKind.wrap_i64]; omega
            have hL' : ¬ (q2 : Int) < (s.size : Int) := by omega
            have hLd : decide ((q2 : Int) < (s.size : Int)) = false := decide_eq_false hL'
            have hLd2 : decide (q2 < s.size) = false := decide_eq_false (by omega)
            clear hq2
            have hpf : n = min 66 (s.size - a) ∨ bsOf s (a + n - (k + 1)) ≠ bsOf s (a + n) := Or.inl (by omega)
            have hf : f (k + 1) = n := HF1.out n hn HE.out (hpf)
            by_cases hl : N0 < n
            · have hl1 : (N0 : Int) < (n : Int) := by omega
              have hnew := HMM.out (by rw [hf]; exact hl)
              rw [hf] at hnew
              have HNEW : Hid _ := hnew
              clear hnew hf
              go_wp2_with fail
              go_quiet (fail)
              go_wp2_with fail
              go_roundw
              case rel => exact ⟨k + 1, by omega, by first | (rw [HNEW.out]; done) | (rw [HNEW.out]; go_num) | (rw [HNEW.out]; rfl), by first | (rw [HNEW.out]; done) | (rw [HNEW.out]; rfl), by go_num, below_drewN hb _⟩
              case measure => simp [lonIntOf]; omega
            · have hl1 : ¬ (N0 : Int) < (n : Int) := by omega
              have hnew := HLL.out (by rw [hf]; exact hl)
              have HNEW : Hid _ := hnew
              clear hnew hf
              go_wp2_with fail
              go_quiet (fail)
              go_wp2_with fail
              go_roundw
              case rel => exact ⟨k + 1, by omega, by rw [HNEW.out, hD], by rw [HNEW.out, hN], by go_num, below_drewN hb _⟩
              case measure => simp [lonIntOf]; omega
        · have h66' : ¬ (n : Int) < 66 := by omega
          have h66d : decide ((n : Int) < 66) = false := decide_eq_false h66'
          have h66d2 : decide (n < 66) = false := decide_eq_false h66
          have hpf : n = min 66 (s.size - a) ∨ bsOf s (a + n - (k + 1)) ≠ bsOf s (a + n) := Or.inl (by omega)
          have hf : f (k + 1) = n := HF1.out n hn HE.out (hpf)
          by_cases hl : N0 < n
          · have hl1 : (N0 : Int) < (n : Int) := by omega
            have hnew := HMM.out (by rw [hf]; exact hl)
            rw [hf] at hnew
            have HNEW : Hid _ := hnew
            clear hnew hf
            go_wp2_with fail
            go_quiet (fail)
            go_wp2_with fail
            go_roundw
            case rel => exact ⟨k + 1, by omega, by first | (rw [HNEW.out]; done) | (rw [HNEW.out]; go_num) | (rw [HNEW.out]; rfl), by first | (rw [HNEW.out]; done) | (rw [HNEW.out]; rfl), by go_num, below_drewN hb _⟩
            case measure => simp [lonIntOf]; omega
          · have hl1 : ¬ (N0 : Int) < (n : Int) := by omega
            have hnew := HLL.out (by rw [hf]; exact hl)
            have HNEW : Hid _ := hnew
            clear hnew hf
            go_wp2_with fail
            go_quiet (fail)
            go_wp2_with fail
            go_roundw
            case rel => exact ⟨k + 1, by omega, by rw [HNEW.out, hD], by rw [HNEW.out, hN], by go_num, below_drewN hb _⟩
            case measure => simp [lonIntOf]; omega
    · obtain rfl : k = a := by omega
      have h1 : ¬ ((k + 1 : Nat) : Int) ≤ (k : Int) := by omega
      have HVV := HV
      generalize B k = P at *
      go_wp2_with fail
      go_ret2
      exact ⟨HVV.out.symm ▸ rfl, hb⟩
end Go.Proofs.Ytbkjcngehhdchaa
