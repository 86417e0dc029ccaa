/-
  The reader of drawn bytes: what 'bytes' answers: some bytes, at most so many.
-/
import Derived.Test.YtpolplemjaibgaaBelow
import Derived.Test.YtpolplemjaibgaaConv
import Derived.Maps.AppendAt
namespace Go.Proofs.Ytpolplemjaibgaa
open Go.RowKit

theorem Rd3.app {w0 : World} {a : Option Addr} {len cap g : Nat} {W w1 w2 : World} (h : Rd3 w0 a len cap g W w1) {row : Option Nat} (hg : w1.grownBy w2 row) (hgW : g < W.heap.size)
    (hr : ∀ j, row = some j → W.heap.size ≤ j) : Rd3 w0 a len cap g W w2 := by
  have hl := h.rd.lt
  obtain ⟨⟨hb, hgn, p, hp, hh⟩, hgr⟩ := h
  refine ⟨⟨hb.grown hg hb.size (fun k hk => ?_), hgn, p, hp, ?_⟩, hgr.andThen hg (fun j hj => Or.inl (hr j hj))⟩
  · have := hr k hk; omega
  · rw [hg.block g hl (fun e => by have := hr g e.symm; omega)]; exact hh
theorem snoc_x {acc : List UInt8} {x : Int} (h0 : 0 ≤ x) (h1 : x < 256) : Lib.byteCells acc ++ [Value.int .u8 x] = Lib.byteCells (acc ++ [UInt8.ofNat x.toNat]) := by
  obtain ⟨m, rfl⟩ := Int.eq_ofNat_of_zero_le h0
  rw [Lib.byteCells_append]
  have : (((UInt8.ofNat (m : Int).toNat).toNat : Nat) : Int) = (m : Int) := by
    rw [UInt8.toNat_ofNat']; omega
  simp only [Lib.byteCells, List.map_cons, List.map_nil, this]

end Go.Proofs.Ytpolplemjaibgaa
