/-
  The reader of drawn bytes: what 'number' answers: some number of 64 bits.
-/
import Derived.Test.YtfngknnjdcgciaaBelow
import Derived.Laws.IdiomStrings
namespace Go.Proofs.Ytfngknnjdcgciaa
open Go.RowKit

theorem div_bd {y : Int} (h1 : 0 ≤ y) (h2 : y < 18446744073709551616) (k : Nat) : 0 ≤ y / 2 ^ k ∧ y / 2 ^ k < 18446744073709551616 := by
  have hp : (0 : Int) < 2 ^ k := Int.pow_pos (by omega)
  refine ⟨Int.ediv_nonneg h1 (by omega), ?_⟩
  have := Int.ediv_le_self (2 ^ k : Int) h1
  omega
theorem nine (n : Nat) (h : n < 9) : ∃ v : Int, 0 ≤ v ∧ v < 18446744073709551616 ∧
    (#[Value.int .u64 0, .int .u64 1, .int .u64 127, .int .u64 128, .int .u64 16383, .int .u64 16384, .int .u64 9223372036854775807, .int .u64 9223372036854775808, .int .u64 18446744073709551615] : Array Value)[n]? = some (.int .u64 v) := by
  match n, h with
  | 0, _ => exact ⟨_, by decide, by decide, rfl⟩
  | 1, _ => exact ⟨_, by decide, by decide, rfl⟩
  | 2, _ => exact ⟨_, by decide, by decide, rfl⟩
  | 3, _ => exact ⟨_, by decide, by decide, rfl⟩
  | 4, _ => exact ⟨_, by decide, by decide, rfl⟩
  | 5, _ => exact ⟨_, by decide, by decide, rfl⟩
  | 6, _ => exact ⟨_, by decide, by decide, rfl⟩
  | 7, _ => exact ⟨_, by decide, by decide, rfl⟩
  | 8, _ => exact ⟨_, by decide, by decide, rfl⟩

set_option maxRecDepth 100000 in
set_option maxHeartbeats 1000000 in
theorem number_any {w0 : World} {a : Option Addr} {len cap g : Nat} {W : World} (hS : Src w0 a len) (h : RD w0 a len cap g W) :
    Calls Try.prog 33 #[.pointer (some ⟨g, 0, none⟩)] W fun e w' => (∃ x : Int, 0 ≤ x ∧ x < 18446744073709551616 ∧ e = .returned (.int .u64 x)) ∧ Rd3 w0 a len cap g W w' := by
  go_enter Try.func33, Try.ntmps33
  go_wp2_with fail
  refine (below_any hS h 6 (by omega) (by omega)).mono ?_
  rintro e w1 ⟨⟨x, hx1, hx2, rfl⟩, hr⟩
  clear h
  by_cases h0 : x = 0
  · subst h0
    go_wp2_with fail
    have hne : w1.heap.size ≠ g := by have := hr.rd.lt; omega
    refine (below_any hS (hr.rd.alloc _) 9 (by omega) (by omega)).mono ?_
    rintro e w2 ⟨⟨y, hy1, hy2, rfl⟩, hr2⟩
    obtain ⟨n, rfl⟩ := Int.eq_ofNat_of_zero_le hy1
    obtain ⟨v, hv1, hv2, hv3⟩ : ∃ v : Int, 0 ≤ v ∧ v < 18446744073709551616 ∧ w2.cell? ⟨w1.heap.size, n, none⟩ = some (.int .u64 v) := by
      have hn : n < 9 := by omega
      obtain ⟨v, h1, h2, h3⟩ := nine n hn
      exact ⟨v, h1, h2, hr2.grown.cell (by rw [World.cell?_alloc_mark]; exact h3) (by simpa using hne)⟩
    have hr3 := (hr.alloc _).trans hr2
    clear hr hr2 hne
    go_wp2_with fail
    go_ret
    exact ⟨⟨v, hv1, hv2, rfl⟩, hr3⟩
  · have h0' : (x == 0) = false := beq_eq_false_iff_ne.2 h0
    by_cases h1 : x = 1
    · subst h1
      go_wp2_with fail
      refine (word_any hS hr.rd).mono ?_
      rintro e w2 ⟨⟨y, hy1, hy2, rfl⟩, hr2⟩
      go_wp2_with fail
      go_ret
      exact ⟨⟨y, hy1, hy2, rfl⟩, hr.trans hr2⟩
    · have h1' : (x == 1) = false := beq_eq_false_iff_ne.2 h1
      by_cases h2 : x = 2
      · subst h2
        go_wp2_with fail
        refine (word_any hS hr.rd).mono ?_
        rintro e w2 ⟨⟨y, hy1, hy2, rfl⟩, hr2⟩
        go_wp2_with fail
        refine (below_any hS hr2.rd 64 (by omega) (by omega)).mono ?_
        rintro e w3 ⟨⟨z, hz1, hz2, rfl⟩, hr3⟩
        have hd := div_bd hy1 hy2 z.toNat
        go_wp2_with fail
        go_ret
        exact ⟨⟨_, hd.1, hd.2, rfl⟩, (hr.trans hr2).trans hr3⟩
      · have h2' : (x == 2) = false := beq_eq_false_iff_ne.2 h2
        clear h0 h1 h2
        go_wp2_with fail
        refine (below_any hS hr.rd 300 (by omega) (by omega)).mono ?_
        rintro e w2 ⟨⟨y, hy1, hy2, rfl⟩, hr2⟩
        go_wp2_with fail
        go_ret
        exact ⟨⟨y, hy1, by omega, rfl⟩, hr.trans hr2⟩
end Go.Proofs.Ytfngknnjdcgciaa
