/-
  A slice of bytes that the call has made (by a conversion too), and append onto it.
-/
import Derived.Test.YtnkahdidelhdaacGreatDoorConv
import Derived.ArgAppend
import Derived.Lib.ConvBytes
import Derived.Lib.LazyBuf
import Derived.Laws.IdiomCopy
import Derived.Laws.Rows
namespace Go.Proofs.YtnkahdidelhdaacGreatDoor
open Go.RowKit

/-- v is a slice of the bytes l, in a block from B on, and behind its end may be written -/
def BR (B : Nat) (w : World) (v : Value) (l : List UInt8) : Prop :=
  ∃ g cap : Nat, v = .slice (some ⟨g, 0, none⟩) l.length cap ∧ B ≤ g ∧ g < w.heap.size ∧ l.length ≤ cap ∧ (∀ j u, (Lib.byteCells l)[j]? = some u → w.cell? ⟨g, j, none⟩ = some u) ∧
    (∀ j, l.length ≤ j → j < cap → (w.cell? ⟨g, j, none⟩).isSome = true ∧ w.frozen? ⟨g, j, none⟩ = false)
theorem bytes_len (l : List UInt8) : (Lib.byteCells l).length = l.length := by simp [Lib.byteCells]
theorem bytes_one (l : List UInt8) : ∀ u ∈ Lib.byteCells l, u.oneCell' = true := by
  intro u hu
  simp only [Lib.byteCells, List.mem_map] at hu
  obtain ⟨b, _, rfl⟩ := hu
  rfl
theorem add0 (g j : Nat) : (⟨g, 0, none⟩ : Addr).add j = ⟨g, j, none⟩ := by
  unfold Addr.add
  by_cases h0 : j = 0
  · subst h0; simp
  · simp [h0]
theorem BR.call {B : Nat} {w w' : World} {v : Value} {l : List UInt8} (h : BR B w v l) (hb : Below w.heap.size w w') : BR B w' v l := by
  obtain ⟨g, cap, h1, h2, h3, h4, h5, h6⟩ := h
  have hg : w'.heap[g]? = w.heap[g]? := hb.block g h3
  exact ⟨g, cap, h1, h2, Nat.lt_of_lt_of_le h3 hb.size, h4, fun j u hu => (World.cell?_of_block (a := ⟨g, j, none⟩) hg).trans (h5 j u hu),
    fun j h7 h8 => ⟨by rw [World.cell?_of_block (a := ⟨g, j, none⟩) hg]; exact (h6 j h7 h8).1, by rw [World.frozen?_of_block (a := ⟨g, j, none⟩) hg]; exact (h6 j h7 h8).2⟩⟩
theorem BR.alloc {B : Nat} {w : World} {v : Value} {l : List UInt8} (h : BR B w v l) (o : Obj) : BR B (w.alloc o) v l := h.call ((Below.refl _ w).alloc (Nat.le_refl _) o)
theorem BR.drew {B : Nat} {w : World} {v : Value} {l : List UInt8} (h : BR B w v l) : BR B w.drew v l := h
theorem br_conv (w : World) (s : ByteArray) : BR w.heap.size (Lib.bytesWorld w 5 s) (.slice (some ⟨w.heap.size, 0, none⟩) s.size (grownCap w s.size 0 5)) s.data.toList := by
  have hge : s.size ≤ grownCap w s.size 0 5 := grownCap_ge w s.size 0 5
  refine ⟨w.heap.size, grownCap w s.size 0 5, by rw [← Lib.size_eq], Nat.le_refl _, by rw [Lib.bytesWorld_size]; omega, by rw [← Lib.size_eq]; exact hge, fun j u hu => ?_, fun j h1 h2 => ?_⟩
  · have hj : j < s.data.toList.length := by
      rcases Nat.lt_or_ge j s.data.toList.length with h | h
      · exact h
      · rw [List.getElem?_eq_none (by rw [bytes_len]; exact h)] at hu; cases hu
    rw [Lib.bytesWorld_cell w 5 s j (by rw [Lib.size_eq]; exact hj)]
    rw [← hu, List.getD_eq_getElem?_getD, List.getElem?_eq_getElem hj, Lib.byteCells, List.getElem?_map, List.getElem?_eq_getElem hj]
    rfl
  · have hs : (Lib.bytesCells w 5 s).size = grownCap w s.size 0 5 := by
      unfold Lib.bytesCells
      rw [Array.size_append, Array.size_map, Array.size_replicate]
      have : s.data.size = s.size := rfl
      omega
    constructor
    · rw [World.cell?]
      simp only [Lib.bytesWorld_at_new]
      rw [Array.getElem?_eq_getElem (by rw [hs]; exact h2)]
      rfl
    · simp [World.frozen?, Lib.bytesWorld_at_new, hs]
      omega
theorem conv_cells (w : World) (s : ByteArray) : ∀ j u, (Lib.byteCells s.data.toList)[j]? = some u → (Lib.bytesWorld w 5 s).cell? ((⟨w.heap.size, 0, none⟩ : Addr).add j) = some u := by
  obtain ⟨g, cap, h1, _, _, _, h5, _⟩ := br_conv w s
  intro j u hu
  injection h1 with h1 _ _
  injection h1 with h1
  injection h1 with h1 _ _
  subst h1
  rw [add0]; exact h5 j u hu
theorem below_conv (w : World) (s : ByteArray) {B : Nat} (hB : B ≤ w.heap.size) : Below B w (Lib.bytesWorld w 5 s) :=
  ⟨rfl, rfl, rfl, by rw [Lib.bytesWorld_size]; omega, fun k hk => Lib.bytesWorld_at_old w 5 s k (by omega)⟩

theorem run_append_br {B : Nat} {w : World} {v : Value} {l : List UInt8} (h : BR B w v l) (hB : B ≤ w.heap.size) (ty : TypeId) (ad : Addr) (c : Nat) (news : List UInt8)
    (hnews : ∀ j u, (Lib.byteCells news)[j]? = some u → w.cell? (ad.add j) = some u) (hlim : l.length + news.length ≤ 70368744177664) :
    ∃ v' w', (Builtin.append_ #[22, 22] ty #[v, .slice (some ad) news.length c]).run Tryz.prog w = .ok v' w' ∧ BR B w' v' (l ++ news) ∧ Below B w w' := by
  obtain ⟨i0, hi, hz0, hz1, hz2⟩ := info_parts Tryz.inf5b
  obtain ⟨g, cap, rfl, hg, hgl, hlc, hcell, hspare⟩ := h
  by_cases hroom : l.length + news.length ≤ cap
  · have hr := run_append_room_cells (P := Tryz.prog) w 22 ty 5 i0 Tryz.underlying22 hi g 0 l.length cap ad news.length c (Lib.byteCells news) (by rw [bytes_len, hz1, Nat.mul_one]) hnews (bytes_one _) hroom
      (fun j hj => by rw [bytes_len] at hj; rw [hz1]; exact (hspare _ (by omega) (by omega)).1) (fun j hj => by rw [bytes_len] at hj; rw [hz1]; exact (hspare _ (by omega) (by omega)).2)
    rw [hz1, Nat.mul_one, Nat.zero_add] at hr
    have hb : Below B w (w.setCells g l.length (Lib.byteCells news)) := below_setCells hg _ _ _ (Below.refl _ w)
    have hhave : ∀ j, j < (Lib.byteCells news).length → (w.cell? ⟨g, l.length + j, none⟩).isSome = true := fun j hj => by rw [bytes_len] at hj; exact (hspare _ (by omega) (by omega)).1
    refine ⟨_, _, hr, ⟨g, cap, by rw [List.length_append], hg, Nat.lt_of_lt_of_le hgl hb.size, by rw [List.length_append]; exact hroom, fun j u hu => ?_, fun j h1 h2 => ?_⟩, hb⟩
    · rw [Lib.byteCells_append] at hu
      by_cases hj : j < l.length
      · rw [List.getElem?_append_left (by rw [bytes_len]; exact hj)] at hu
        rw [World.cell?_setCells_out g _ _ _ _ (fun _ _ => Or.inl hj)]
        exact hcell j u hu
      · rw [List.getElem?_append_right (by rw [bytes_len]; omega), bytes_len] at hu
        have hj2 : j - l.length < (Lib.byteCells news).length := by
          rcases Nat.lt_or_ge (j - l.length) (Lib.byteCells news).length with h | h
          · exact h
          · rw [List.getElem?_eq_none h] at hu; cases hu
        have := World.cell?_setCells_in g (Lib.byteCells news) l.length w hhave (j - l.length) hj2
        rw [show l.length + (j - l.length) = j by omega] at this
        rw [this, ← hu, List.getElem?_eq_getElem hj2]
    · rw [List.length_append] at h1
      obtain ⟨h5, h6⟩ := hspare j (by omega) h2
      refine ⟨?_, by rw [World.frozen?_setCells]; exact h6⟩
      rw [World.cell?_setCells_out g _ _ _ _ (fun _ _ => Or.inr (by rw [bytes_len]; exact h1))]
      exact h5
  · obtain ⟨v', w', hr, hown, hgr⟩ := run_append_arg_grows (P := Tryz.prog) w 22 ty 5 i0 (.int .u8 0) 1 1 Tryz.underlying22 hi hz0 hz1 hz2 rfl (by decide) ⟨g, 0, none⟩ l.length cap (Lib.byteCells l) (by rw [bytes_len, Nat.mul_one])
      (fun j u hu => by rw [add0]; exact hcell j u hu) ad news.length c (Lib.byteCells news) (by rw [bytes_len, Nat.mul_one]) hnews (by omega) (by unfold maxLen; omega) (by omega)
    refine ⟨v', w', hr, ?_, ⟨hgr.os, hgr.tape, hgr.output, hgr.size, fun k hk => hgr.block k (by omega) (by simp)⟩⟩
    obtain ⟨hlen, ⟨_, h0⟩ | ⟨g', cap', cur, rfl, hb, hgc, hn, hc, hs, ht⟩⟩ := hown
    · omega
    · refine ⟨g', cap', by rw [List.length_append], Nat.le_trans hB hb, (Array.getElem?_eq_some_iff.1 hgc).1, by rw [List.length_append]; exact hn, fun j u hu => ?_, fun j h1 h2 => ?_⟩
      · rw [Lib.byteCells_append, ← ht, List.getElem?_take] at hu
        rw [cell_of_row w' g' j cur 5 (0, 0) hgc]
        split at hu
        · simpa using hu
        · cases hu
      · exact ⟨by rw [cell_of_row w' g' j cur 5 (0, 0) hgc, Array.getElem?_eq_getElem (by omega)]; rfl, frozen_of_row w' g' j cur 5 hgc⟩
theorem wpList_append_br {ops : Array Oper} {rest : List Oper} {o : Oper} {a : Act} {w : World} {Q : Exit → Act → World → Prop} (hgd : o.guard = none) (s x : Operand)
    (ho : o.op = .call { callee := .builtin .append, args := #[s, x], argTypes := #[22, 22] }) {B : Nat} {v : Value} {l : List UInt8} (hs : a.eval s = v) (h : BR B w v l) (hB : B ≤ w.heap.size)
    (ad : Addr) (m c : Nat) (news : List UInt8) (hm : news.length = m) (hx : a.eval x = .slice (some ad) m c)
    (hnews : ∀ j u, (Lib.byteCells news)[j]? = some u → w.cell? (ad.add j) = some u) (hlim : l.length + news.length ≤ 70368744177664)
    (hK : ∀ v' w', BR B w' v' (l ++ news) → Below B w w' → wpList Tryz.prog ops Q rest (a.put o.dst v') w') : wpList Tryz.prog ops Q (o :: rest) a w := by
  subst hm
  refine wpList_plain hgd fun K hKK => ?_
  obtain ⟨v', w', hr, h2, h3⟩ := run_append_br h hB o.type ad c news hnews hlim
  unfold Oper.wp execOp
  simp only [ho, resolve, invoke, builtin, Sem.run_bind, Sem.run_pure, Result.andThen_ok, List.map_toArray, List.map_cons, List.map_nil, hs, hx, hr]
  exact hKK _ _ (hK v' w' h2 h3)
end Go.Proofs.YtnkahdidelhdaacGreatDoor
