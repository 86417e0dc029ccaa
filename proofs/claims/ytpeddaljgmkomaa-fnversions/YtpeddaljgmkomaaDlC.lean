/-
  The longest that an old text holds of what comes: the code's walk along the places with the same six bytes.
-/
import Derived.Test.YtpeddaljgmkomaaDpC
namespace Go.Proofs.Ytpeddaljgmkomaa
open Go.RowKit
open Go.Maps (Keyed)
set_option linter.unusedVariables false
set_option linter.unusedSimpArgs false
def g6 (f : Nat → Nat) (e : Nat) : Nat := if 6 ≤ f e then f e else 0
theorem g6_big {f : Nat → Nat} {k d n : Nat} (h : IsB (g6 f) k d n) (hn : 0 < n) : IsB f k d n ∧ 6 ≤ n := by
  obtain ⟨h1, h2, h3⟩ := h
  rcases h3 with ⟨_, h3⟩ | ⟨h4, h5, h6, h7⟩
  · omega
  · have e6 : 6 ≤ f d := by
      unfold g6 at h6
      split at h6
      · assumption
      · omega
    have ed : f d = n := by unfold g6 at h6; rw [if_pos e6] at h6; exact h6
    refine ⟨⟨fun e q1 q2 => ?_, fun e q1 q2 => ?_, Or.inr ⟨h4, h5, ed, h7⟩⟩, by omega⟩
    · have := h1 e q1 q2
      unfold g6 at this
      split at this <;> omega
    · have := h2 e q1 q2
      unfold g6 at this
      split at this <;> omega
theorem g6_none {f : Nat → Nat} {k d : Nat} (h : IsB (g6 f) k d 0) : ∀ e, 1 ≤ e → e ≤ k → f e < 6 := fun e h1 h2 => by
  have := h.1 e h1 h2
  unfold g6 at this
  split at this <;> omega
def lg (o s : ByteArray) (a : Nat) : Nat × Nat := if (bo o s a).2 < 6 then (0, 0) else ((bo o s a).1 - 1, (bo o s a).2)
theorem lg_of {o s : ByteArray} {a d n : Nat} (h : IsB (g6 (fo o s a)) o.size d n) : lg o s a = (d - 1, n) := by
  have hb := best_is (fo o s a) o.size
  have eb : bo o s a = best (fo o s a) o.size := rfl
  rw [← eb] at hb
  by_cases hn : 0 < n
  · obtain ⟨h1, h6⟩ := g6_big h hn
    obtain ⟨e1, e2⟩ := hb.uniq h1
    unfold lg
    rw [if_neg (by omega), e1, e2]
  · obtain rfl : n = 0 := by omega
    have h0 := g6_none h
    have hd : d = 0 := by
      rcases h.2.2 with ⟨q, _⟩ | ⟨_, _, _, q⟩
      · exact q
      · omega
    have hb2 : (bo o s a).2 < 6 := by
      rcases hb.2.2 with ⟨_, q⟩ | ⟨q1, q2, q3, _⟩
      · omega
      · have := h0 _ q1 q2; omega
    unfold lg
    rw [if_pos hb2, hd]
theorem fo_key {o s : ByteArray} {a q : Nat} (ha : a + 6 ≤ s.size) (hq : q < o.size - 5) (h : kl6 (bsOf o) q = kl6 (bsOf s) a) : 6 ≤ fo o s a (q + 1) := by
  have hk := (kl6_iff (bsOf_lt o) (bsOf_lt s) q a).1 h
  obtain ⟨h1, h2, h3⟩ := cl_spec o s q a
  have e : fo o s a (q + 1) = cl o s q a := by show cl o s (q + 1 - 1) a = _; rw [Nat.add_sub_cancel]
  rw [e]
  unfold clM at h1 h3
  rcases h3 with h3 | h3
  · omega
  · by_cases c : cl o s q a < 6
    · exact absurd (hk _ c) h3
    · omega
theorem g6_off {o s : ByteArray} {a q : Nat} (ha : a + 6 ≤ s.size) (h : q < o.size - 5 → kl6 (bsOf o) q ≠ kl6 (bsOf s) a) : g6 (fo o s a) (q + 1) = 0 := by
  unfold g6
  rw [if_neg]
  intro c
  have e : fo o s a (q + 1) = cl o s q a := by show cl o s (q + 1 - 1) a = _; rw [Nat.add_sub_cancel]
  rw [e] at c
  obtain ⟨h1, h2, h3⟩ := cl_spec o s q a
  unfold clM at h1
  refine h (by omega) ((kl6_iff (bsOf_lt o) (bsOf_lt s) q a).2 fun i hi => h2 i (by omega))
theorem isB_skip {o s : ByteArray} {a k m d n : Nat} (ha : a + 6 ≤ s.size) (h : IsB (g6 (fo o s a)) k d n) (hkm : k ≤ m) (hq : ∀ q, k ≤ q → q < m → q < o.size - 5 → kl6 (bsOf o) q ≠ kl6 (bsOf s) a) : IsB (g6 (fo o s a)) m d n := by
  have h2 := h.upto (m - k) (fun e h1 h2 => by
    have := g6_off (o := o) (s := s) (a := a) (q := e - 1) ha (hq (e - 1) (by omega) (by omega))
    rw [show e - 1 + 1 = e by omega] at this
    omega)
  rw [show k + (m - k) = m by omega] at h2
  exact h2
theorem same_cl {o s : ByteArray} {a p n : Nat} (hp : p ≤ o.size) (ha : a ≤ s.size) (h1 : n ≤ clM o s p a) (h2 : ∀ j, j < n → bsOf (o.extract p o.size) j = bsOf ((s.extract a s.size).extract 0 (clM o s p a)) j) (h3 : n = clM o s p a ∨ bsOf (o.extract p o.size) n ≠ bsOf ((s.extract a s.size).extract 0 (clM o s p a)) n) : fo o s a (p + 1) = n := by
  have e : fo o s a (p + 1) = cl o s p a := by show cl o s (p + 1 - 1) a = _; rw [Nat.add_sub_cancel]
  have hc : clM o s p a = min (o.size - p) (s.size - a) := rfl
  have hx : ∀ j, j < clM o s p a → bsOf (o.extract p o.size) j = bsOf o (p + j) := fun j hj => bsOf_ext _ _ _ _ (by omega)
  have hy : ∀ j, j < clM o s p a → bsOf ((s.extract a s.size).extract 0 (clM o s p a)) j = bsOf s (a + j) := fun j hj => by
    rw [bsOf_ext _ _ _ _ (by omega), Nat.zero_add, bsOf_ext _ _ _ _ (by omega)]
  rw [e]
  refine cl_eq h1 (fun j hj => ?_) ?_
  · rw [← hx j (by omega), ← hy j (by omega)]; exact h2 j hj
  · by_cases c : n = clM o s p a
    · exact Or.inl c
    · rcases h3 with h3 | h3
      · exact Or.inl h3
      · refine Or.inr ?_
        rw [← hx n (by omega), ← hy n (by omega)]; exact h3
/-- what a round of the way along the places knows -/
def LS (o s : ByteArray) (a d n p : Nat) (b : Bool) : Prop := (b = true → p < o.size - 5 ∧ kl6 (bsOf o) p = kl6 (bsOf s) a ∧ IsB (g6 (fo o s a)) p d n) ∧ (b = false → IsB (g6 (fo o s a)) o.size d n)
theorem LS.next {o s : ByteArray} {a d n d' n' p v : Nat} (ha : a + 6 ≤ s.size) (hp : p < o.size - 5) (hk : kl6 (bsOf o) p = kl6 (bsOf s) a) (h : IsB (g6 (fo o s a)) (p + 1) d' n') (hv : NX (bsOf o) (o.size - 5) p v) : LS o s a d' n' v (decide (0 < v)) := by
  rcases hv with ⟨rfl, hq⟩ | ⟨h1, h2, h3, h4⟩
  · refine ⟨fun c => by simp at c, fun _ => isB_skip ha h (by omega) fun q q1 q2 q3 => ?_⟩
    rw [← hk]; exact hq q (by omega) q3
  · refine ⟨fun _ => ⟨h2, h3.trans hk, isB_skip ha h (by omega) fun q q1 q2 q3 => ?_⟩, fun c => ?_⟩
    · rw [← hk]; exact h4 q (by omega) q2
    · have : decide (0 < v) = true := decide_eq_true (by omega)
      rw [this] at c; cases c
theorem LS.full {o s : ByteArray} {a d n p : Nat} {b : Bool} (ha : a ≤ s.size) (h : LS o s a d n p b) (hn : s.size - a ≤ n) : IsB (g6 (fo o s a)) o.size d n := by
  cases b with
  | false => exact h.2 rfl
  | true =>
    obtain ⟨h1, _, h3⟩ := h.1 rfl
    have h2 := h3.upto (o.size - p) (fun e q1 q2 => by
      have := (cl_spec o s (e - 1) a).1
      unfold clM at this
      have e2 : fo o s a e = cl o s (e - 1) a := rfl
      unfold g6
      split <;> omega)
    rw [show p + (o.size - p) = o.size by omega] at h2
    exact h2
end Go.Proofs.Ytpeddaljgmkomaa
