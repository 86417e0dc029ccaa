/-
  Pieces: as values, and what the law makes of one.
-/
import Derived.Test.YtadimakdjndcdaeIn
import Derived.Below
import Derived.Deep.MidRow
import Derived.Laws.MakeOwn
namespace Go.Proofs.Ytadimakdjndcdae
open Go.RowKit
set_option linter.unusedVariables false
set_option linter.unusedSimpArgs false
structure PcI where
  f : Int
  l : Int
  d : ByteArray
def pcV (f l : Int) (d : ByteArray) : Value := .agg #[.int .i64 f, .int .i64 l, .string d]
theorem Try.infP : (Try.prog.info? 43).map (fun i => (i.zero, i.size, i.bytes)) = some (some (.agg #[.int .i64 0, .int .i64 0, .string ⟨#[]⟩]), 3, 32) := by kernel_rfl
def intN : Value → Int | .int _ q => q | _ => 0
theorem bl3 {B C : Nat} {a b c : World} (h : Below B a b) (k : Below C b c) (hBC : B ≤ C) : Below B a c := ⟨k.os.trans h.os, k.tape.trans h.tape, k.output.trans h.output, Nat.le_trans h.size k.size, fun i hi => (k.block i (Nat.lt_of_lt_of_le hi hBC)).trans (h.block i hi)⟩
end Go.Proofs.Ytadimakdjndcdae
