/-
  Pieces: as values, and what the law makes of one.
-/
import Derived.Test.YtibciflmalfbjaaIn
import Derived.Below
import Derived.Deep.MidRow
import Derived.Laws.MakeOwn
namespace Go.Proofs.Ytibciflmalfbjaa
open Go.RowKit
set_option linter.unusedVariables false
set_option linter.unusedSimpArgs false
structure PcI where
  f : Int
  l : Int
  d : ByteArray
def pcV (f l : Int) (d : ByteArray) : Value := .agg #[.int .i64 f, .int .i64 l, .string d]
theorem Try.infP : (Try.prog.info? 39).map (fun i => (i.zero, i.size, i.bytes)) = some (some (.agg #[.int .i64 0, .int .i64 0, .string ⟨#[]⟩]), 3, 32) := by kernel_rfl
def intN : Value → Int | .int _ q => q | _ => 0
theorem bl3 {B C : Nat} {a b c : World} (h : Below B a b) (k : Below C b c) (hBC : B ≤ C) : Below B a c := ⟨k.os.trans h.os, k.tape.trans h.tape, k.output.trans h.output, Nat.le_trans h.size k.size, fun i hi => (k.block i (Nat.lt_of_lt_of_le hi hBC)).trans (h.block i hi)⟩
set_option maxRecDepth 100000 in
theorem eqPc_same (f l : Int) (d : ByteArray) (w : World) :
    Calls Try.prog 37 #[pcV f l d, pcV f l d] w fun e w' => e = .returned (.bool true) ∧ Below w.heap.size w w' := by
  unfold pcV
  go_enter Try.func37, Try.ntmps37
  go_wp2_with fail
  go_ret
  exact ⟨rfl, ((Below.refl _ _).alloc (Nat.le_refl _) _).alloc (by simp) _⟩
end Go.Proofs.Ytibciflmalfbjaa
