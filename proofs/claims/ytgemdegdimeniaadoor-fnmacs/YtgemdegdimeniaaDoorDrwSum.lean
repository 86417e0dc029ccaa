/-
  What is drawn for digests: some text.
-/
import Derived.Test.YtgemdegdimeniaaDoorDrw
import Derived.Laws.MakeOwn
import Derived.Laws.OwnMore
import Derived.RegionTactic
namespace Go.Proofs.YtgemdegdimeniaaDoor
open Go.RowKit

/-- so many noughts -/
def nz (m : Nat) : ByteArray := ⟨(List.replicate m (0 : UInt8)).toArray⟩
theorem nz_size (m : Nat) : (nz m).size = m := by show (List.replicate m (0 : UInt8)).toArray.size = m; simp
def nzM (m : Nat) : Array Value := madeCells #[Value.int .u8 0] m
theorem nz_made (m : Nat) (hm : m ≤ 1000) (W : World) : (Instr.makeSlice 22 (.int .i64 (m : Int)) (.int .i64 (m : Int))).run Tryd.prog W = .ok (.slice (some ⟨W.heap.size, 0, none⟩) m m) (W.alloc (.cells (nzM m) 5)) := by
  obtain ⟨i0, hi, hz0, hz1, hz2⟩ := info_parts Tryd.inf5b
  have h := run_make (P := Tryd.prog) W 22 5 i0 (.int .u8 0) Tryd.underlying22 hi hz0 .i64 .i64 (m : Int) (m : Int) (by omega) (by omega) (by rw [hz2]; omega) (by omega)
  have e : madeCells (Value.int .u8 0).cells ((m : Int).toNat * i0.size) = nzM m := by rw [hz1, Int.toNat_natCast, Nat.mul_one]; rfl
  rw [e] at h
  simpa using h
theorem nz_conv (m g : Nat) (W : World) (hc : W.heap[g]? = some (.cells (nzM m) 5 (0, 0))) : (convert 22 9 (.slice (some ⟨g, 0, none⟩) m m)).run Tryd.prog W = .ok (.string (nz m)) W := by
  have key := run_convert_bytes_back (P := Tryd.prog) W 22 9 5 ⟨g, 0, none⟩ m (List.replicate m (0 : UInt8)) Tryd.underlying22 Tryd.underlying5 Tryd.underlying9 (fun j hj => by
    rw [List.length_replicate] at hj
    have ea : (⟨g, 0, none⟩ : Addr).add j = ⟨g, j, none⟩ := by
      unfold Addr.add
      by_cases h0 : j = 0
      · subst h0; simp
      · simp [h0]
    rw [ea, cell_of_row W g j _ _ _ hc, ← Array.getElem?_toList, nzM, toList_madeCells_one, List.getElem?_replicate, if_pos hj]
    simp)
  rw [List.length_replicate] at key
  exact key

set_option maxRecDepth 100000 in
set_option maxHeartbeats 1000000 in
theorem drawSum {w0 : World} {a : Option Addr} {len cap : Nat} {W : World} (hS : Src w0 a len) (hb : Below w0.heap.size w0 W) :
    Calls Tryd.prog 6 #[.slice a len cap] W fun e w' => (∃ s : ByteArray, s.size ≤ 1000 ∧ e = .returned (.string s)) ∧ Below w0.heap.size w0 w' := by
  go_enter Tryd.func6, Tryd.ntmps6
  go_wp2_with fail
  refine (open_any hb).mono ?_
  rintro e w1 ⟨rfl, hr, _⟩
  go_wp2_with fail
  refine (once_any hS hr 6 (by omega) (by omega)).mono ?_
  rintro e w2 ⟨⟨b, rfl⟩, hr2⟩
  clear hr
  cases b with
  | true =>
    go_wp2_with fail
    refine (below_any hS hr2.rd 20 (by omega) (by omega)).mono ?_
    rintro e w3 ⟨⟨x, hx1, hx2, rfl⟩, hr3⟩
    obtain ⟨m, hm⟩ := Int.eq_ofNat_of_zero_le (by omega : 0 ≤ 50 + x)
    have hm2 : m ≤ 1000 := by omega
    have hmk := fun W => nz_made m hm2 W
    have hcz := fun W : World => nz_conv m W.heap.size (W.alloc (.cells (nzM m) 5)) (heap_alloc_new W _)
    have hns := nz_size m
    generalize nz m = Z at hcz hns
    generalize nzM m = M at hmk hcz
    go_wp2_with fail
    go_ret
    exact ⟨⟨Z, by omega, rfl⟩, hr3.rd.below.alloc hr3.rd.below.size _⟩
  | false =>
    go_wp2_with fail
    refine (data_any hS hr2.rd 6 (by omega) (by omega)).mono ?_
    rintro e w3 ⟨⟨s, hs, rfl⟩, hr3⟩
    go_wp2_with fail
    go_ret
    exact ⟨⟨s, by omega, rfl⟩, hr3.rd.below⟩
end Go.Proofs.YtgemdegdimeniaaDoor
