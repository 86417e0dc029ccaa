/-
  Encrypt: the code's.
-/
import Derived.Test.YtnkahdidelhdaalDoorEncAll
import Derived.Lib.BytesEntry
import Derived.Lib.UnsafeStr
namespace Go.Proofs.YtnkahdidelhdaalDoor
open Go.RowKit
set_option linter.unusedVariables false

/-- sixteen bytes as a text -/
def outL (s : Nat → Nat) : List UInt8 := (List.range 16).map fun i => UInt8.ofNat (s i)
theorem outL_len (s : Nat → Nat) : (outL s).length = 16 := by simp [outL]
theorem outL_cells {s : Nat → Nat} (hs : ∀ i, s i < 256) {j : Nat} (hj : j < 16) : (Lib.byteCells (outL s))[j]? = some (.int .u8 (s j : Nat)) := by
  rw [Lib.byteCells, List.getElem?_map, outL, List.getElem?_map, List.getElem?_range hj]
  simp [UInt8.toNat_ofNat', Nat.mod_eq_of_lt (hs j)]
def encB (blk W : Nat → Nat) : ByteArray := ⟨(outL (stB blk W 14)).toArray⟩

theorem kw_all {bs : Nat → Nat} (hb : ∀ j, bs j < 256) : ∀ j, j < 60 → kw bs j < 4294967296 := fun j hj => kw_lt hb j hj

end Go.Proofs.YtnkahdidelhdaalDoor
