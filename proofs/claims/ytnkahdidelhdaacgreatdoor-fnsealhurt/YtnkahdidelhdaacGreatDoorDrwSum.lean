/-
  What is drawn for digests: some text.
-/
import Derived.Test.YtnkahdidelhdaacGreatDoorDrwA
import Derived.Laws.MakeOwn
import Derived.Laws.OwnMore
import Derived.RegionTactic
namespace Go.Proofs.YtnkahdidelhdaacGreatDoor
open Go.RowKit

/-- so many noughts -/
def nz (m : Nat) : ByteArray := ⟨(List.replicate m (0 : UInt8)).toArray⟩
theorem nz_size (m : Nat) : (nz m).size = m := by show (List.replicate m (0 : UInt8)).toArray.size = m; simp
def nzM (m : Nat) : Array Value := madeCells #[Value.int .u8 0] m
theorem nz_made (m : Nat) (hm : m ≤ 1000) (W : World) : (Instr.makeSlice 22 (.int .i64 (m : Int)) (.int .i64 (m : Int))).run Tryz.prog W = .ok (.slice (some ⟨W.heap.size, 0, none⟩) m m) (W.alloc (.cells (nzM m) 5)) := by
  obtain ⟨i0, hi, hz0, hz1, hz2⟩ := info_parts Tryz.inf5b
  have h := run_make (P := Tryz.prog) W 22 5 i0 (.int .u8 0) Tryz.underlying22 hi hz0 .i64 .i64 (m : Int) (m : Int) (by omega) (by omega) (by rw [hz2]; omega) (by omega)
  have e : madeCells (Value.int .u8 0).cells ((m : Int).toNat * i0.size) = nzM m := by rw [hz1, Int.toNat_natCast, Nat.mul_one]; rfl
  rw [e] at h
  simpa using h
theorem nz_conv (m g : Nat) (W : World) (hc : W.heap[g]? = some (.cells (nzM m) 5 (0, 0))) : (convert 22 9 (.slice (some ⟨g, 0, none⟩) m m)).run Tryz.prog W = .ok (.string (nz m)) W := by
  have key := run_convert_bytes_back (P := Tryz.prog) W 22 9 5 ⟨g, 0, none⟩ m (List.replicate m (0 : UInt8)) Tryz.underlying22 Tryz.underlying5 Tryz.underlying9 (fun j hj => by
    rw [List.length_replicate] at hj
    have ea : (⟨g, 0, none⟩ : Addr).add j = ⟨g, j, none⟩ := by
      unfold Addr.add
      by_cases h0 : j = 0
      · subst h0; simp
      · simp [h0]
    rw [ea, cell_of_row W g j _ _ _ hc, ← Array.getElem?_toList, nzM, toList_madeCells_one, List.getElem?_replicate, if_pos hj]
    simp)
  rw [List.length_replicate] at key
  exact key

end Go.Proofs.YtnkahdidelhdaacGreatDoor
