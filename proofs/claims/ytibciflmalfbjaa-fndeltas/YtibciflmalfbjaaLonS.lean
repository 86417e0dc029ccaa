/-
  The longest that stood before: the specification's.
-/
import Derived.Test.YtibciflmalfbjaaLonMath
import Derived.Test.YtibciflmalfbjaaIn
import Derived.BigQuiet
import Derived.OwnWalk
namespace Go.Proofs.Ytibciflmalfbjaa
open Go.RowKit
set_option linter.unusedVariables false
set_option linter.unusedSimpArgs false

def lonIntOf : Value → Int | .int _ q => q | _ => 0
def lonF (s : ByteArray) (a : Nat) : Nat → Nat := mlen (bsOf s) (min 66 (s.size - a)) a
def lonV (s : ByteArray) (a : Nat) : Value := .tuple #[.int .i64 ((best (lonF s a) a).1 : Nat), .int .i64 ((best (lonF s a) a).2 : Nat)]
theorem below_drewN {B : Nat} {a w : World} (h : Below B a w) : ∀ n, Below B a (w.drewN n) := fun n => ⟨h.os, h.tape, h.output, h.size, h.block⟩
theorem best_more {f : Nat → Nat} {k : Nat} (h : (best f k).2 < f (k + 1)) : best f (k + 1) = (k + 1, f (k + 1)) := by show (if _ then _ else _) = _; rw [if_pos h]
theorem best_less {f : Nat → Nat} {k : Nat} (h : ¬ (best f k).2 < f (k + 1)) : best f (k + 1) = best f k := by show (if _ then _ else _) = _; rw [if_neg h]

set_option maxRecDepth 100000 in
set_option maxHeartbeats 2000000 in
theorem sl6_any (s : ByteArray) (a : Nat) (w : World) (ha : a < s.size) (hs : s.size ≤ 4000) :
    Calls Try.prog 84 #[.string s, .int .i64 (a : Int)] w fun e w' => e = .returned (lonV s a) ∧ Below w.heap.size w w' := by
  have HF : Hid (∀ k n, n ≤ min 66 (s.size - a) → (∀ j, j < n → bsOf s (a + j - (k + 1)) = bsOf s (a + j)) → (n = min 66 (s.size - a) ∨ bsOf s (a + n - (k + 1)) ≠ bsOf s (a + n)) → lonF s a (k + 1) = n) := fun k n h1 h2 h3 => mlen_eq h1 h2 h3
  obtain ⟨B, hB⟩ : ∃ B : Nat → Nat × Nat, B = best (lonF s a) := ⟨_, rfl⟩
  have HM : Hid (∀ k, (B k).2 < lonF s a (k + 1) → B (k + 1) = (k + 1, lonF s a (k + 1))) := fun k h => by rw [hB] at h ⊢; exact best_more h
  have HL : Hid (∀ k, ¬ (B k).2 < lonF s a (k + 1) → B (k + 1) = B k) := fun k h => by rw [hB] at h ⊢; exact best_less h
  have HV : Hid (lonV s a = .tuple #[.int .i64 ((B a).1 : Nat), .int .i64 ((B a).2 : Nat)]) := by rw [hB]; rfl
  have HBZ : Hid (B 0 = (0, 0)) := by rw [hB]; rfl
  clear hB
  generalize lonF s a = f at HF HM HL
  have hsz : (s.size : Int) ≤ 4000 := by omega
  have haI : (a : Int) < (s.size : Int) := by omega
  go_enter Try.func84, Try.ntmps84
  go_wp2_with fail
  go_loopw [6, 7, 8] (fun x y c wr => ∃ k : Nat, k ≤ a ∧ x = .int .i64 ((B k).1 : Nat) ∧ y = .int .i64 ((B k).2 : Nat) ∧ c = .int .i64 ((k + 1 : Nat) : Int) ∧ Below w.heap.size w wr) (fun _ _ c _ => a + 1 - (lonIntOf c).toNat)
  case atStart => exact ⟨0, by omega, by rw [HBZ.out]; rfl, by rw [HBZ.out]; rfl, rfl, Below.refl _ _⟩
  case round =>
    obtain ⟨k, hk, rfl, rfl, rfl, hb⟩ := hrel
    by_cases hlt : k < a
    · have h1 : (k : Int) + 1 ≤ (a : Int) := by omega
      have h2 : (k : Int) + 1 ≤ 4096 := by omega
      have HM1 := HM.out k
      have HL1 := HL.out k
      have HF1 : Hid _ := HF.out k
      have HMM : Hid _ := HM1
      have HLL : Hid _ := HL1
      clear HM1 HL1
      have HB0 : Hid (Below w.heap.size w wr) := hb
      generalize hD : (B k).1 = D at *
      generalize hN : (B k).2 = N0 at *
      clear hb
      rename World => wx
      go_wp2_with fail
      go_loopw [9] (fun c wr => ∃ n : Nat, n ≤ min 66 (s.size - a) ∧ c = .int .i64 (n : Int) ∧ Hid (∀ j, j < n → bsOf s (a + j - (k + 1)) = bsOf s (a + j)) ∧ Below w.heap.size w wr) (fun c _ => 66 - (lonIntOf c).toNat)
      case atStart => exact ⟨0, by omega, rfl, fun j hj => absurd hj (by omega), HB0.out⟩
      case round =>
        obtain ⟨n, hn, rfl, HE, hb⟩ := hrel
        by_cases h66 : n < 66
        · have h66' : (n : Int) < 66 := by omega
          by_cases hL : a + n < s.size
          · obtain ⟨q1, hq1⟩ : ∃ q, q = a + n - (k + 1) := ⟨_, rfl⟩
            obtain ⟨q2, hq2⟩ : ∃ q, q = a + n := ⟨_, rfl⟩
            have hw2 : IntKind.i64.wrap ((a : Int) + (n : Int)) = (q2 : Int) := by rw [IntKind.wrap_i64]; omega
            have hw1 : IntKind.i64.wrap ((q2 : Int) - ((k : Int) + 1)) = (q1 : Int) := by rw [IntKind.wrap_i64]; omega
            have hx1 : q1 < s.size := by omega
            have hx2 : q2 < s.size := by omega
            have hy1 : (q1 : Int) < (s.size : Int) := by omega
            have hy2 : (q2 : Int) < (s.size : Int) := by omega
            have b1 := bsOf_at s q1 hx1
            have b2 := bsOf_at s q2 hx2
            have l1 := bsOf_lt s q1
            have l2 := bsOf_lt s q2
            by_cases heq : bsOf s q1 = bsOf s q2
            · have HE2 : Hid (∀ j, j < n + 1 → bsOf s (a + j - (k + 1)) = bsOf s (a + j)) := fun j hj => by
                by_cases e : j = n
                · subst e; rw [← hq1, ← hq2]; exact heq
                · exact HE.out j (by omega)
              rw [heq] at b1
              generalize bsOf s q2 = c2 at b1 b2 l2
              clear heq l1 HE hq1 hq2
              go_wp2_with fail
              go_quiet (fail)
              go_wp2_with fail
              go_roundw
              case rel => exact ⟨n + 1, by omega, by go_num, HE2, below_drewN hb _⟩
              case measure => simp [lonIntOf]; omega
            · have hne : ¬ ((bsOf s q1 : Nat) : Int) = ((bsOf s q2 : Nat) : Int) := by omega
              have hne' : (((bsOf s q1 : Nat) : Int) == ((bsOf s q2 : Nat) : Int)) = false := beq_eq_false_iff_ne.2 hne
              have hpf : n = min 66 (s.size - a) ∨ bsOf s (a + n - (k + 1)) ≠ bsOf s (a + n) := Or.inr (by rw [← hq1, ← hq2]; exact heq)
              clear hq1 hq2
              generalize bsOf s q1 = c1 at b1 l1 hne hne'
              generalize bsOf s q2 = c2 at b2 l2 hne hne'
              have hf : f (k + 1) = n := HF1.out n hn HE.out (hpf)
              by_cases hl : N0 < n
              · have hl1 : (N0 : Int) < (n : Int) := by omega
                have hnew := HMM.out (by rw [hf]; exact hl)
                rw [hf] at hnew
                have HNEW : Hid _ := hnew
                clear hnew hf
                go_wp2_with fail
                go_quiet (fail)
                go_wp2_with fail
                go_roundw
                case rel => exact ⟨k + 1, by omega, by first | (rw [HNEW.out]; done) | (rw [HNEW.out]; go_num) | (rw [HNEW.out]; rfl), by first | (rw [HNEW.out]; done) | (rw [HNEW.out]; rfl), by go_num, below_drewN hb _⟩
                case measure => simp [lonIntOf]; omega
              · have hl1 : ¬ (N0 : Int) < (n : Int) := by omega
                have hnew := HLL.out (by rw [hf]; exact hl)
                have HNEW : Hid _ := hnew
                clear hnew hf
                go_wp2_with fail
                go_quiet (fail)
                go_wp2_with fail
                go_roundw
                case rel => exact ⟨k + 1, by omega, by rw [HNEW.out, hD], by rw [HNEW.out, hN], by go_num, below_drewN hb _⟩
                case measure => simp [lonIntOf]; omega
          · obtain ⟨q2, hq2⟩ : ∃ q, q = a + n := ⟨_, rfl⟩
            have hw2 : IntKind.i64.wrap ((a : Int) + (n : Int)) = (q2 : Int) := by rw [IntKind.wrap_i64]; omega
            have hL' : ¬ (q2 : Int) < (s.size : Int) := by omega
            have hLd : decide ((q2 : Int) < (s.size : Int)) = false := decide_eq_false hL'
            have hLd2 : decide (q2 < s.size) = false := decide_eq_false (by omega)
            clear hq2
            have hpf : n = min 66 (s.size - a) ∨ bsOf s (a + n - (k + 1)) ≠ bsOf s (a + n) := Or.inl (by omega)
            have hf : f (k + 1) = n := HF1.out n hn HE.out (hpf)
            by_cases hl : N0 < n
            · have hl1 : (N0 : Int) < (n : Int) := by omega
              have hnew := HMM.out (by rw [hf]; exact hl)
              rw [hf] at hnew
              have HNEW : Hid _ := hnew
              clear hnew hf
              go_wp2_with fail
              go_quiet (fail)
              go_wp2_with fail
              go_roundw
              case rel => exact ⟨k + 1, by omega, by first | (rw [HNEW.out]; done) | (rw [HNEW.out]; go_num) | (rw [HNEW.out]; rfl), by first | (rw [HNEW.out]; done) | (rw [HNEW.out]; rfl), by go_num, below_drewN hb _⟩
              case measure => simp [lonIntOf]; omega
            · have hl1 : ¬ (N0 : Int) < (n : Int) := by omega
              have hnew := HLL.out (by rw [hf]; exact hl)
              have HNEW : Hid _ := hnew
              clear hnew hf
              go_wp2_with fail
              go_quiet (fail)
              go_wp2_with fail
              go_roundw
              case rel => exact ⟨k + 1, by omega, by rw [HNEW.out, hD], by rw [HNEW.out, hN], by go_num, below_drewN hb _⟩
              case measure => simp [lonIntOf]; omega
        · have h66' : ¬ (n : Int) < 66 := by omega
          have h66d : decide ((n : Int) < 66) = false := decide_eq_false h66'
          have h66d2 : decide (n < 66) = false := decide_eq_false h66
          have hpf : n = min 66 (s.size - a) ∨ bsOf s (a + n - (k + 1)) ≠ bsOf s (a + n) := Or.inl (by omega)
          have hf : f (k + 1) = n := HF1.out n hn HE.out (hpf)
          by_cases hl : N0 < n
          · have hl1 : (N0 : Int) < (n : Int) := by omega
            have hnew := HMM.out (by rw [hf]; exact hl)
            rw [hf] at hnew
            have HNEW : Hid _ := hnew
            clear hnew hf
            go_wp2_with fail
            go_quiet (fail)
            go_wp2_with fail
            go_roundw
            case rel => exact ⟨k + 1, by omega, by first | (rw [HNEW.out]; done) | (rw [HNEW.out]; go_num) | (rw [HNEW.out]; rfl), by first | (rw [HNEW.out]; done) | (rw [HNEW.out]; rfl), by go_num, below_drewN hb _⟩
            case measure => simp [lonIntOf]; omega
          · have hl1 : ¬ (N0 : Int) < (n : Int) := by omega
            have hnew := HLL.out (by rw [hf]; exact hl)
            have HNEW : Hid _ := hnew
            clear hnew hf
            go_wp2_with fail
            go_quiet (fail)
            go_wp2_with fail
            go_roundw
            case rel => exact ⟨k + 1, by omega, by rw [HNEW.out, hD], by rw [HNEW.out, hN], by go_num, below_drewN hb _⟩
            case measure => simp [lonIntOf]; omega
    · obtain rfl : k = a := by omega
      have h1 : ¬ ((k + 1 : Nat) : Int) ≤ (k : Int) := by omega
      have HVV := HV
      generalize B k = P at *
      go_wp2_with fail
      go_ret2
      exact ⟨HVV.out.symm ▸ rfl, hb⟩
end Go.Proofs.Ytibciflmalfbjaa
