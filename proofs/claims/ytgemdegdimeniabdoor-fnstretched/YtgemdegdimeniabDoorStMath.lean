/-
  A key made of a password, as plain mathematics; and what both Stretch share.
-/
import Derived.Test.YtgemdegdimeniabDoorHmMask
import Derived.Test.YtgemdegdimeniabDoorShaBytes
namespace Go.Proofs.YtgemdegdimeniabDoor
open Go.RowKit

def stU (p s : ByteArray) : Nat → ByteArray
  | 0 => hmacB p (s ++ ⟨#[0, 0, 0, 1]⟩)
  | n + 1 => hmacB p (stU p s n)
theorem stU_size (p s : ByteArray) : ∀ n, (stU p s n).size = 32
  | 0 => hmacB_size _ _
  | _ + 1 => hmacB_size _ _
def stX (p s : ByteArray) : Nat → Nat → Nat
  | 0, i => bsOf (stU p s 0) i
  | n + 1, i => stX p s n i ^^^ bsOf (stU p s (n + 1)) i
theorem stX_lt (p s : ByteArray) : ∀ n i, stX p s n i < 256
  | 0, i => bsOf_lt _ i
  | n + 1, i => Nat.xor_lt_two_pow (n := 8) (stX_lt p s n i) (bsOf_lt _ i)
def stL (p s : ByteArray) (n : Nat) : List UInt8 := (List.range 32).map fun i => UInt8.ofNat (stX p s n i)
theorem stL_len (p s : ByteArray) (n : Nat) : (stL p s n).length = 32 := by simp [stL]
theorem stL_at (p s : ByteArray) (n i : Nat) (hi : i < (stL p s n).length) : ((stL p s n)[i].toNat : Int) = (stX p s n i : Int) := by
  have h := stX_lt p s n i
  simp only [stL, List.getElem_map, List.getElem_range]
  rw [UInt8.toNat_ofNat']
  omega
def stB (p s : ByteArray) (n : Nat) : ByteArray := ⟨(stL p s n).toArray⟩

theorem conv_fz (w : World) (s : ByteArray) (j : Nat) (hj : j < s.size) : (Lib.bytesWorld w 5 s).frozen? ⟨w.heap.size, j, none⟩ = false := by
  have hs : s.size ≤ (Lib.bytesCells w 5 s).size := by
    unfold Lib.bytesCells
    rw [Array.size_append, Array.size_map, Array.size_replicate]
    have : s.data.size = s.size := rfl
    omega
  simp [World.frozen?, Lib.bytesWorld_at_new]
  omega
/-- the 32 bytes in their row -/
structure ST (w : World) (b : Nat) (f : Nat → Nat) (wr : World) : Prop where
  below : Below w.heap.size w wr
  low : w.heap.size ≤ b
  lt : b < wr.heap.size
  cell : ∀ j, j < 32 → wr.cell? ⟨b, j, none⟩ = some (.int .u8 (f j : Int))
  fz : ∀ j, j < 32 → wr.frozen? ⟨b, j, none⟩ = false
theorem ST.drew {w wr : World} {b : Nat} {f : Nat → Nat} (h : ST w b f wr) : ST w b f wr.drew := ⟨h.below.drew, h.low, h.lt, h.cell, h.fz⟩
theorem ST.call {w wr w' : World} {b : Nat} {f : Nat → Nat} (h : ST w b f wr) (hb : Below wr.heap.size wr w') : ST w b f w' := by
  have hg : w'.heap[b]? = wr.heap[b]? := hb.block b h.lt
  exact ⟨h.below.trans (hb.mono h.below.size), h.low, Nat.lt_of_lt_of_le h.lt hb.size, fun j hj => (World.cell?_of_block (a := ⟨b, j, none⟩) hg).trans (h.cell j hj),
    fun j hj => (World.frozen?_of_block (a := ⟨b, j, none⟩) hg).trans (h.fz j hj)⟩
theorem ST.set {w wr : World} {b : Nat} {f g : Nat → Nat} (h : ST w b f wr) (t : Nat) (ht : t < 32) (hg : ∀ j, j < 32 → g j = if j = t then g t else f j) : ST w b g (wr.setCell ⟨b, t, none⟩ (.int .u8 (g t : Int))) := by
  refine ⟨h.below.setCell (p := ⟨b, t, none⟩) h.low _, h.low, by simpa using h.lt, fun j hj => ?_, fun j hj => ?_⟩
  · by_cases e : j = t
    · subst e
      have h1 := World.cell?_setCells_in b [Value.int .u8 (g j : Int)] j wr (fun i hi => by
        have : i = 0 := by simpa using hi
        subst this
        rw [Nat.add_zero, h.cell j hj]; rfl) 0 (by simp)
      simpa [World.setCells] using h1
    · have h1 := World.cell?_setCells_out b [Value.int .u8 (g t : Int)] t wr ⟨b, j, none⟩ (fun _ _ => by simp; omega)
      rw [hg j hj, if_neg e, ← h.cell j hj]
      simpa [World.setCells] using h1
  · have h1 := World.frozen?_setCells b [Value.int .u8 (g t : Int)] t wr ⟨b, j, none⟩
    rw [← h.fz j hj]
    exact h1
theorem ST.first (w : World) (b : Nat) (T : ByteArray) (w1 : World) (hb : Below w.heap.size w w1) (hT : T.size = 32) (hbe : b = w1.heap.size) : ST w b (bsOf T) (Lib.bytesWorld w1 5 T) := by
  subst hbe
  refine ⟨hb.trans (below_conv w1 T hb.size), hb.size, by rw [Lib.bytesWorld_size]; omega, fun j hj => ?_, fun j hj => conv_fz w1 T j (by omega)⟩
  have h := conv_cells w1 T j (.int .u8 (bsOf T j : Int)) (by
    rw [Lib.byteCells, List.getElem?_map, ← bsOf_at T j (by omega), List.getElem?_eq_getElem (by rw [← Lib.size_eq]; omega)]; rfl)
  rwa [add0] at h
theorem ST.congr {w wr : World} {b : Nat} {f g : Nat → Nat} (h : ST w b f wr) (e : ∀ j, j < 32 → f j = g j) : ST w b g wr := ⟨h.below, h.low, h.lt, fun j hj => by rw [h.cell j hj, e j hj], h.fz⟩
theorem conv_st {w wr : World} {b : Nat} {p s : ByteArray} {n : Nat} (h : ST w b (stX p s n) wr) (c : Nat) : (convert 22 9 (.slice (some ⟨b, 0, none⟩) 32 c)).run Tryd.prog wr = .ok (.string (stB p s n)) wr := by
  have key := run_convert_bytes_back (P := Tryd.prog) wr 22 9 5 ⟨b, 0, none⟩ c (stL p s n) Tryd.underlying22 Tryd.underlying5 Tryd.underlying9 (fun j hj => by
    have hj2 : j < 32 := by rw [stL_len] at hj; exact hj
    rw [add0, h.cell j hj2, stL_at])
  rw [stL_len] at key
  exact key
end Go.Proofs.YtgemdegdimeniabDoor
