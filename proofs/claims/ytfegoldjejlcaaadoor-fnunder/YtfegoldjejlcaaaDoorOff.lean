/-
  The reader of drawn bytes: what 'near' and 'off' answer: some number.
-/
import Derived.Test.YtfegoldjejlcaaaDoorDrw
import Derived.OwnWalk
namespace Go.Proofs.YtfegoldjejlcaaaDoor
open Go.RowKit

set_option maxRecDepth 100000 in
set_option maxHeartbeats 1000000 in
theorem near_any {w0 : World} {a : Option Addr} {len cap g : Nat} {W : World} (hS : Src w0 a len) (h : RD w0 a len cap g W) (lo hi : Int) (h1 : 0 ≤ lo) (h2 : lo ≤ hi) (h3 : hi ≤ 5000) :
    Calls Tryd.prog 109 #[.pointer (some ⟨g, 0, none⟩), .int .i64 lo, .int .i64 hi] W fun e w' => (∃ x : Int, 0 ≤ x ∧ x ≤ 10000 ∧ e = .returned (.int .i64 x)) ∧ Rd3 w0 a len cap g W w' := by
  have hlt : ¬ hi < lo := by omega
  go_enter Tryd.func109, Tryd.ntmps109
  go_wp2_with fail
  refine (below_any hS h 8 (by omega) (by omega)).mono ?_
  rintro e w1 ⟨⟨x, hx1, hx2, rfl⟩, hr⟩
  clear h
  by_cases h0 : x = 0
  · subst h0
    go_wp2_with fail
    go_ret
    exact ⟨⟨lo, h1, by omega, rfl⟩, hr⟩
  · by_cases h10 : x = 1
    · subst h10
      go_wp2_with fail
      go_ret
      exact ⟨⟨hi, by omega, by omega, rfl⟩, hr⟩
    · have hne0 : (x == 0) = false := beq_eq_false_iff_ne.2 h0
      have hne1 : (x == 1) = false := beq_eq_false_iff_ne.2 h10
      go_wp2_with fail
      refine (rword_any hS hr.rd).mono ?_
      rintro e w2 ⟨⟨y, hy1, hy2, rfl⟩, hr2⟩
      have hm1 := Int.emod_nonneg (y / 2) (by omega : hi - lo + 1 ≠ 0)
      have hm2 := Int.emod_lt_of_pos (y / 2) (by omega : 0 < hi - lo + 1)
      have hnz : ¬ hi - lo + 1 = 0 := by omega
      go_wp2_with fail
      go_ret
      exact ⟨⟨lo + y / 2 % (hi - lo + 1), by omega, by omega, rfl⟩, hr.trans hr2⟩
theorem four (lo hi : Int) (n : Nat) (h : n < 4) (h1 : 0 ≤ lo) (h2 : lo ≤ hi) (h3 : hi ≤ 5000) : ∃ v : Int, -9223372036854775808 ≤ v ∧ v ≤ 9223372036854775807 ∧
    (#[Value.int .i64 (lo - 1), .int .i64 (hi + 1), .int .i64 (-9223372036854775808), .int .i64 9223372036854775807] : Array Value)[n]? = some (.int .i64 v) := by
  match n, h with
  | 0, _ => exact ⟨_, by omega, by omega, rfl⟩
  | 1, _ => exact ⟨_, by omega, by omega, rfl⟩
  | 2, _ => exact ⟨_, by decide, by decide, rfl⟩
  | 3, _ => exact ⟨_, by decide, by decide, rfl⟩

set_option maxRecDepth 100000 in
set_option maxHeartbeats 1000000 in
theorem off_any {w0 : World} {a : Option Addr} {len cap g : Nat} {W : World} (hS : Src w0 a len) (h : RD w0 a len cap g W) (lo hi : Int) (h1 : 0 ≤ lo) (h2 : lo ≤ hi) (h3 : hi ≤ 5000) :
    Calls Tryd.prog 86 #[.pointer (some ⟨g, 0, none⟩), .int .i64 lo, .int .i64 hi] W fun e w' => (∃ x : Int, -9223372036854775808 ≤ x ∧ x ≤ 9223372036854775807 ∧ e = .returned (.int .i64 x)) ∧ Rd3 w0 a len cap g W w' := by
  go_enter Tryd.func86, Tryd.ntmps86
  go_wp2_with fail
  refine (once_any hS h 24 (by omega) (by omega)).mono ?_
  rintro e w1 ⟨⟨b, rfl⟩, hr⟩
  clear h
  cases b with
  | true =>
    have hne : w1.heap.size ≠ g := by have := hr.rd.lt; omega
    go_wp2_with fail
    refine (below_any hS (hr.rd.alloc _) 4 (by omega) (by omega)).mono ?_
    rintro e w2 ⟨⟨x, hx1, hx2, rfl⟩, hr2⟩
    obtain ⟨n, rfl⟩ := Int.eq_ofNat_of_zero_le hx1
    obtain ⟨v, hv1, hv2, hv⟩ := four lo hi n (by omega) h1 h2 h3
    have hc := six hr2.grown hne n _ hv
    have hr3 : Rd3 w0 a len cap g W w2 := (hr.alloc _).trans hr2
    clear hr hr2
    go_wp2_with fail
    go_ret
    exact ⟨⟨v, hv1, hv2, rfl⟩, hr3⟩
  | false =>
    go_wp2_with fail
    refine (near_any hS hr.rd lo hi h1 h2 h3).mono ?_
    rintro e w2 ⟨⟨x, hx1, hx2, rfl⟩, hr2⟩
    go_wp2_with fail
    go_ret
    exact ⟨⟨x, by omega, by omega, rfl⟩, hr.trans hr2⟩
end Go.Proofs.YtfegoldjejlcaaaDoor
