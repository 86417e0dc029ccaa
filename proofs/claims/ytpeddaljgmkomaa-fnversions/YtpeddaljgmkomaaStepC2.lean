/-
  How far ahead of each place its three bytes stood last: the code's, by a map.
-/
import Derived.Test.YtpeddaljgmkomaaStepMath
import Derived.Test.YtpeddaljgmkomaaPk20
import Derived.Test.YtpeddaljgmkomaaPk01
import Derived.Test.YtpeddaljgmkomaaPk02
import Derived.Laws.Rows
import Derived.Laws.MakeOwn
import Derived.Laws.OwnMore
import Derived.Lib.LazyBuf
import Derived.Lib.SlBuf
import Derived.Maps.OwnOps
namespace Go.Proofs.Ytpeddaljgmkomaa
open Go.RowKit
open Go.Maps (Keyed)
set_option linter.unusedVariables false
set_option linter.unusedSimpArgs false

theorem Try.infi : (Try.prog.info? 3).map (fun i => (i.zero, i.size, i.bytes)) = some (some (.int .i64 0), 1, 8) := by kernel_rfl
def zI (m : Nat) : Array Value := madeCells #[Value.int .i64 0] m
theorem zI_at {m j : Nat} (h : j < m) : (zI m)[j]? = some (.int .i64 0) := by
  rw [← Array.getElem?_toList, zI, toList_madeCells_one, List.getElem?_replicate, if_pos h]
theorem zI_made (m : Nat) (hm : m ≤ 4000) (W : World) : (Instr.makeSlice 116 (.int .i64 (m : Int)) (.int .i64 (m : Int))).run Try.prog W = .ok (.slice (some ⟨W.heap.size, 0, none⟩) m m) (W.alloc (.cells (zI m) 3)) := by
  obtain ⟨i0, hi, hz0, hz1, hz2⟩ := info_parts Try.infi
  have h := run_make (P := Try.prog) W 116 3 i0 (.int .i64 0) Try.underlying116 hi hz0 .i64 .i64 (m : Int) (m : Int) (by omega) (by omega) (by rw [hz2]; omega) (by omega)
  have e : madeCells (Value.int .i64 0).cells ((m : Int).toNat * i0.size) = zI m := by rw [hz1, Int.toNat_natCast, Nat.mul_one]; rfl
  rw [e] at h
  simpa using h
theorem types_some : ∃ m, Try.prog.types.size = m + 1 := ⟨Try.prog.types.size - 1, by kernel_rfl⟩
theorem zeroI (w : World) : (zeroValue 3).run Try.prog w = .ok (.int .i64 0) w := by kernel_rfl
theorem three_set {X : Array Value} (hX : X.size = 3) (a b c : Value) : ((X.setIfInBounds 0 a).setIfInBounds 1 b).setIfInBounds 2 c = #[a, b, c] := by
  obtain ⟨l⟩ := X
  match l, hX with
  | [x, y, z], _ => rfl
theorem hold_goal {p : Prop} (h : Hid p) : p := h.out
end Go.Proofs.Ytpeddaljgmkomaa
