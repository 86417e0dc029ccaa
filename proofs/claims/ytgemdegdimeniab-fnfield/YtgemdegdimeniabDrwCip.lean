/-
  What is drawn for products of bytes: some numbers.
-/
import Derived.Test.YtgemdegdimeniabDrw
namespace Go.Proofs.Ytgemdegdimeniab
open Go.RowKit

set_option maxRecDepth 100000 in
theorem drawTimes {w0 : World} {a : Option Addr} {len cap : Nat} {W : World} (hS : Src w0 a len) (hb : Below w0.heap.size w0 W) :
    Calls Try.prog 8 #[.slice a len cap] W fun e w' => (∃ x y : Nat, x < 4294967296 ∧ y < 4294967296 ∧ e = .returned (.tuple #[.int .u32 (x : Int), .int .u32 (y : Int)])) ∧ Below w0.heap.size w0 w' := by
  go_enter Try.func8, Try.ntmps8
  go_wp2_with fail
  refine (open_any hb).mono ?_
  rintro e w1 ⟨rfl, hr, _⟩
  go_wp2_with fail
  refine (below_any hS hr 300 (by omega) (by omega)).mono ?_
  rintro e w2 ⟨⟨x, hx1, hx2, rfl⟩, hr2⟩
  obtain ⟨n, rfl⟩ := Int.eq_ofNat_of_zero_le hx1
  go_wp2_with fail
  refine (rword_any hS hr2.rd).mono ?_
  rintro e w3 ⟨⟨y, hy1, hy2, rfl⟩, hr3⟩
  obtain ⟨m, hm⟩ := Int.eq_ofNat_of_zero_le (by omega : 0 ≤ y / 1048576 % 4294967296)
  go_wp2_with fail
  go_ret2
  exact ⟨⟨n, m, by omega, by omega, by rw [← hm]; rfl⟩, hr3.rd.below⟩
set_option maxRecDepth 100000 in
theorem drawSub {w0 : World} {a : Option Addr} {len cap : Nat} {W : World} (hS : Src w0 a len) (hb : Below w0.heap.size w0 W) :
    Calls Try.prog 9 #[.slice a len cap] W fun e w' => (∃ x : Nat, x < 4294967296 ∧ e = .returned (.int .u32 (x : Int))) ∧ Below w0.heap.size w0 w' := by
  go_enter Try.func9, Try.ntmps9
  go_wp2_with fail
  refine (open_any hb).mono ?_
  rintro e w1 ⟨rfl, hr, _⟩
  go_wp2_with fail
  refine (below_any hS hr 300 (by omega) (by omega)).mono ?_
  rintro e w2 ⟨⟨x, hx1, hx2, rfl⟩, hr2⟩
  obtain ⟨n, rfl⟩ := Int.eq_ofNat_of_zero_le hx1
  go_wp2_with fail
  go_ret
  exact ⟨⟨n, by omega, by go_num⟩, hr2.rd.below⟩
end Go.Proofs.Ytgemdegdimeniab
