/-
  Pieces: as values, and what the law makes of one.
-/
import Derived.Test.YtpeddaljgmkomaaIn
import Derived.Below
import Derived.Deep.MidRow
import Derived.Laws.MakeOwn
namespace Go.Proofs.Ytpeddaljgmkomaa
open Go.RowKit
set_option linter.unusedVariables false
set_option linter.unusedSimpArgs false
structure PcI where
  f : Int
  l : Int
  d : ByteArray
def pcV (f l : Int) (d : ByteArray) : Value := .agg #[.int .i64 f, .int .i64 l, .string d]
theorem Try.infP : (Try.prog.info? 89).map (fun i => (i.zero, i.size, i.bytes)) = some (some (.agg #[.int .i64 0, .int .i64 0, .string ⟨#[]⟩]), 3, 32) := by kernel_rfl
def intN : Value → Int | .int _ q => q | _ => 0
theorem bl3 {B C : Nat} {a b c : World} (h : Below B a b) (k : Below C b c) (hBC : B ≤ C) : Below B a c := ⟨k.os.trans h.os, k.tape.trans h.tape, k.output.trans h.output, Nat.le_trans h.size k.size, fun i hi => (k.block i (Nat.lt_of_lt_of_le hi hBC)).trans (h.block i hi)⟩
set_option maxRecDepth 100000 in
set_option maxHeartbeats 1000000 in
theorem toPc_any (f l : Int) (d : ByteArray) (w : World) :
    Calls Try.prog 94 #[pcV f l d] w fun e w' => e = .returned (pcV f l d) ∧ Below w.heap.size w w' := by
  unfold pcV
  go_enter Try.func94, Try.ntmps94
  go_wp2_with fail
  refine bodyPost_ret (results_cell_row rfl _ _ (w.heap.size + 1) 89 #[.int .i64 f, .int .i64 l, .string d] (0, 0) _ rfl ?_ Try.underlying89 rfl (by kernel_rfl)) rfl ⟨rfl, (((Below.refl _ _).alloc (Nat.le_refl _) _).alloc (by simp) _).alloc (by simp; omega) _⟩
  rw [Below.heap_alloc _ _ _ (by simp)]
  have h := heap_alloc_new (w.alloc (.cells #[.int .i64 f, .int .i64 l, .string d] 111)) (.cells #[.int .i64 f, .int .i64 l, .string d] 89)
  simpa using h
set_option maxRecDepth 100000 in
theorem eqPc_same (f l : Int) (d : ByteArray) (w : World) :
    Calls Try.prog 96 #[pcV f l d, pcV f l d] w fun e w' => e = .returned (.bool true) ∧ Below w.heap.size w w' := by
  unfold pcV
  go_enter Try.func96, Try.ntmps96
  go_wp2_with fail
  go_ret
  exact ⟨rfl, ((Below.refl _ _).alloc (Nat.le_refl _) _).alloc (by simp) _⟩
set_option maxRecDepth 100000 in
theorem szPc_any (f l : Int) (d : ByteArray) (L : Nat) (w : World) (hd : d.size ≤ maxLen) (hL : L ≤ 1048576) :
    Calls Try.prog 93 #[pcV f l d, .int .i64 (L : Int)] w fun e w' => e = .returned (.int .i64 (if d.size ≤ L then ((L - d.size : Nat) : Int) else -1)) ∧ Below w.heap.size w w' := by
  unfold pcV
  have hd' : d.size ≤ 9223372036854775807 := hd
  by_cases h : d.size ≤ L
  · rw [if_pos h]
    have hw : IntKind.i64.wrap ((L : Int) - (d.size : Int)) = ((L - d.size : Nat) : Int) := by rw [IntKind.wrap_i64]; omega
    have hl : ¬ ((L - d.size : Nat) : Int) < 0 := by omega
    go_enter Try.func93, Try.ntmps93
    go_wp2_with fail
    go_ret
    exact ⟨rfl, (Below.refl _ _).alloc (Nat.le_refl _) _⟩
  · rw [if_neg h]
    have hw : IntKind.i64.wrap ((L : Int) - (d.size : Int)) = (L : Int) - (d.size : Int) := by rw [IntKind.wrap_i64]; omega
    have hl : (L : Int) - (d.size : Int) < 0 := by omega
    go_enter Try.func93, Try.ntmps93
    go_wp2_with fail
    go_ret
    exact ⟨rfl, (Below.refl _ _).alloc (Nat.le_refl _) _⟩
end Go.Proofs.Ytpeddaljgmkomaa
