/-
  Counting: what Count answers, as plain mathematics.
-/
import Derived.Test.YtnkahdidelhdaacGreatDoorEncA
import Derived.Test.YtnkahdidelhdaacGreatDoorShaHigh
namespace Go.Proofs.YtnkahdidelhdaacGreatDoor
open Go.RowKit
set_option linter.unusedVariables false

theorem bsOf_app (a b : ByteArray) (j : Nat) : bsOf (a ++ b) j = if j < a.size then bsOf a j else bsOf b (j - a.size) := by
  unfold bsOf
  rw [List.getD_eq_getElem?_getD, List.getD_eq_getElem?_getD, List.getD_eq_getElem?_getD]
  rw [show (a ++ b).data.toList = a.data.toList ++ b.data.toList by simp]
  by_cases h : j < a.size
  · rw [if_pos h, List.getElem?_append_left (by rw [← Lib.size_eq]; exact h)]
  · rw [if_neg h, List.getElem?_append_right (by rw [← Lib.size_eq]; omega), ← Lib.size_eq]
/-- the block of count c -/
def ctrB (nonce : ByteArray) (c : Nat) : ByteArray := nonce ++ ⟨(bigL c 4).toArray⟩
def ctrS (nonce : ByteArray) (c : Nat) : Nat → Nat := bsOf (ctrB nonce c)
theorem ctrB_size {nonce : ByteArray} (h : nonce.size = 12) (c : Nat) : (ctrB nonce c).size = 16 := by
  unfold ctrB
  rw [ByteArray.size_append, h]
  show 12 + (bigL c 4).toArray.size = 16
  rw [List.size_toArray, bigL_len]
theorem ctrS_lt (nonce : ByteArray) (c i : Nat) : ctrS nonce c i < 256 := bsOf_lt _ _
theorem ctr_low {nonce : ByteArray} (h : nonce.size = 12) (c : Nat) {j : Nat} (hj : j < 12) : ctrS nonce c j = bsOf nonce j := by
  unfold ctrS ctrB
  rw [bsOf_app, if_pos (by omega)]
theorem ctr_high {nonce : ByteArray} (h : nonce.size = 12) (c : Nat) {j : Nat} (hj : j < 4) : ctrS nonce c (12 + (3 - j)) = c / 256 ^ j % 256 := by
  unfold ctrS ctrB
  rw [bsOf_app, if_neg (by omega), h, show 12 + (3 - j) - 12 = 4 - 1 - j by omega]
  unfold bsOf
  show ((bigL c 4).getD (4 - 1 - j) 0).toNat = _
  rw [List.getD_eq_getElem?_getD, bigL_at c 4 j hj]
  simp
theorem cl_low {nonce : ByteArray} (h : nonce.size = 12) (c e : Nat) {j : Nat} (hj : j < 3) : cl (ctrS nonce c) j = cl (ctrS nonce e) j := by
  unfold cl
  rw [ctr_low h c (by omega), ctr_low h c (by omega), ctr_low h c (by omega), ctr_low h c (by omega), ctr_low h e (by omega), ctr_low h e (by omega), ctr_low h e (by omega), ctr_low h e (by omega)]
theorem cl_count {nonce : ByteArray} (h : nonce.size = 12) {c : Nat} (hc : c < 4294967296) : cl (ctrS nonce c) 3 = c := by
  have e0 := ctr_high h c (j := 3) (by omega)
  have e1 := ctr_high h c (j := 2) (by omega)
  have e2 := ctr_high h c (j := 1) (by omega)
  have e3 := ctr_high h c (j := 0) (by omega)
  unfold cl
  rw [show 4 * 3 = 12 + (3 - 3) by omega, e0, show 12 + (3 - 3) + 1 = 12 + (3 - 2) by omega, e1, show 12 + (3 - 3) + 2 = 12 + (3 - 1) by omega, e2, show 12 + (3 - 3) + 3 = 12 + (3 - 0) by omega, e3]
  have e := pk_eta hc
  rw [show (256 : Nat) ^ 3 = 16777216 from rfl, show (256 : Nat) ^ 2 = 65536 from rfl, show (256 : Nat) ^ 1 = 256 from rfl, show (256 : Nat) ^ 0 = 1 from rfl, Nat.div_one, show c / 16777216 % 256 = c / 16777216 by omega]
  exact e
theorem cols_next {nonce : ByteArray} (h : nonce.size = 12) {c : Nat} (hc : c + 1 < 4294967296) :
    (cols (cl (ctrS nonce c))).setIfInBounds 3 (.int .u32 ((c + 1 : Nat) : Int)) = cols (cl (ctrS nonce (c + 1))) := by
  show cols (fun j => if j = 3 then c + 1 else cl (ctrS nonce c) j) = _
  apply cols_congr
  intro j hj
  show (if j = 3 then c + 1 else cl (ctrS nonce c) j) = _
  by_cases e : j = 3
  · subst e; rw [if_pos rfl, cl_count h hc]
  · rw [if_neg e]; exact cl_low h _ _ (by omega)
/-- a byte, masked -/
def cntF (nonce : ByteArray) (W : Nat → Nat) (d : Nat → Nat) (i : Nat) : Nat := d i ^^^ stB (ctrS nonce (i / 16)) W 14 (i % 16)
theorem cntF_lt (nonce : ByteArray) (W : Nat → Nat) {d : Nat → Nat} (hd : ∀ i, d i < 256) (i : Nat) : cntF nonce W d i < 256 := xor_byte (hd i) (stB_lt (ctrS_lt nonce _) 14 _)
def cntL (nonce : ByteArray) (W : Nat → Nat) (d : ByteArray) : List UInt8 := (List.range d.size).map fun i => UInt8.ofNat (cntF nonce W (bsOf d) i)
theorem cntL_len (nonce : ByteArray) (W : Nat → Nat) (d : ByteArray) : (cntL nonce W d).length = d.size := by simp [cntL]
theorem cntL_at (nonce : ByteArray) (W : Nat → Nat) (d : ByteArray) (j : Nat) (hj : j < (cntL nonce W d).length) : ((cntL nonce W d)[j].toNat : Int) = (cntF nonce W (bsOf d) j : Nat) := by
  have := cntF_lt nonce W (bsOf_lt d) j
  simp [cntL, UInt8.toNat_ofNat', Nat.mod_eq_of_lt this]
def cntB (nonce : ByteArray) (W : Nat → Nat) (d : ByteArray) : ByteArray := ⟨(cntL nonce W d).toArray⟩
/-- the bytes in block g -/
structure DatW (g size : Nat) (F : Nat → Nat) (wr : World) : Prop where
  lt : g < wr.heap.size
  word : ∀ j, j < size → wr.cell? ⟨g, j, none⟩ = some (.int .u8 (F j : Nat))
  fz : ∀ j, j < size → wr.frozen? ⟨g, j, none⟩ = false
theorem DatW.below {g size B : Nat} {F : Nat → Nat} {w w' : World} (h : DatW g size F w) (hb : Below B w w') (hB : g < B) : DatW g size F w' :=
  ⟨Nat.lt_of_lt_of_le h.lt hb.size, fun j hj => (hb.cell (p := ⟨g, j, none⟩) hB).trans (h.word j hj), fun j hj => (hb.frozen (p := ⟨g, j, none⟩) hB).trans (h.fz j hj)⟩
theorem DatW.set {g size n : Nat} {F : Nat → Nat} {wr : World} (h : DatW g size F wr) (hn : n < size) (v : Nat) : DatW g size (fun j => if j = n then v else F j) (wr.setCell ⟨g, n, none⟩ (.int .u8 (v : Int))) := by
  have hin : (wr.setCell ⟨g, n, none⟩ (.int .u8 (v : Int))).cell? ⟨g, n, none⟩ = some (.int .u8 (v : Int)) := by
    have h1 := World.cell?_setCells_in g [Value.int .u8 (v : Int)] n wr (fun i hi => by
      have : i = 0 := by simpa using hi
      subst this
      show (wr.cell? ⟨g, n, none⟩).isSome = true
      rw [h.word n hn]; rfl) 0 (by simp)
    simpa [World.setCells] using h1
  have hout : ∀ j, j ≠ n → (wr.setCell ⟨g, n, none⟩ (.int .u8 (v : Int))).cell? ⟨g, j, none⟩ = wr.cell? ⟨g, j, none⟩ := fun j hj => by
    have h1 := World.cell?_setCells_out g [Value.int .u8 (v : Int)] n wr ⟨g, j, none⟩ (fun _ _ => by simp; omega)
    simpa [World.setCells] using h1
  refine ⟨by simpa using h.lt, fun j hj => ?_, fun j hj => ?_⟩
  · by_cases e : j = n
    · subst e; rw [if_pos rfl]; exact hin
    · rw [hout j e, if_neg e]; exact h.word j hj
  · have h1 := World.frozen?_setCells g [Value.int .u8 (v : Int)] n wr ⟨g, j, none⟩
    rw [← h.fz j hj]
    exact h1
theorem DatW.congr {g size : Nat} {F G : Nat → Nat} {wr : World} (h : DatW g size F wr) (e : ∀ j, j < size → F j = G j) : DatW g size G wr :=
  ⟨h.lt, fun j hj => by rw [← e j hj]; exact h.word j hj, h.fz⟩
/-- behind n bytes -/
def partF (nonce : ByteArray) (W d : Nat → Nat) (n j : Nat) : Nat := if j < n then cntF nonce W d j else d j
theorem part_set {g size n : Nat} {nonce : ByteArray} {W d : Nat → Nat} {wr : World} (h : DatW g size (partF nonce W d n) wr) (hn : n < size) : DatW g size (partF nonce W d (n + 1)) (wr.setCell ⟨g, n, none⟩ (.int .u8 (cntF nonce W d n : Nat))) :=
  (h.set hn _).congr fun j hj => by
    unfold partF
    by_cases e : j = n
    · subst e; rw [if_pos rfl, if_pos (by omega)]
    · rw [if_neg e]
      by_cases l : j < n
      · rw [if_pos l, if_pos (by omega)]
      · rw [if_neg l, if_neg (by omega)]
end Go.Proofs.YtnkahdidelhdaacGreatDoor
