/-
  The reader of drawn bytes: what 'bytes' answers: some bytes, at most so many.
-/
import Derived.Test.YtfegoldjejlcaaaDoorBelow
import Derived.Test.YtfegoldjejlcaaaDoorConv
import Derived.Maps.AppendAt
namespace Go.Proofs.YtfegoldjejlcaaaDoor
open Go.RowKit

theorem Rd3.app {w0 : World} {a : Option Addr} {len cap g : Nat} {W w1 w2 : World} (h : Rd3 w0 a len cap g W w1) {row : Option Nat} (hg : w1.grownBy w2 row) (hgW : g < W.heap.size)
    (hr : ∀ j, row = some j → W.heap.size ≤ j) : Rd3 w0 a len cap g W w2 := by
  have hl := h.rd.lt
  obtain ⟨⟨hb, hgn, p, hp, hh⟩, hgr⟩ := h
  refine ⟨⟨hb.grown hg hb.size (fun k hk => ?_), hgn, p, hp, ?_⟩, hgr.andThen hg (fun j hj => Or.inl (hr j hj))⟩
  · have := hr k hk; omega
  · rw [hg.block g hl (fun e => by have := hr g e.symm; omega)]; exact hh
theorem snoc_x {acc : List UInt8} {x : Int} (h0 : 0 ≤ x) (h1 : x < 256) : Lib.byteCells acc ++ [Value.int .u8 x] = Lib.byteCells (acc ++ [UInt8.ofNat x.toNat]) := by
  obtain ⟨m, rfl⟩ := Int.eq_ofNat_of_zero_le h0
  rw [Lib.byteCells_append]
  have : (((UInt8.ofNat (m : Int).toNat).toNat : Nat) : Int) = (m : Int) := by
    rw [UInt8.toNat_ofNat']; omega
  simp only [Lib.byteCells, List.map_cons, List.map_nil, this]

set_option maxRecDepth 100000 in
set_option maxHeartbeats 2000000 in
theorem bytes_any {w0 : World} {a : Option Addr} {len cap g : Nat} {W : World} (hS : Src w0 a len) (h : RD w0 a len cap g W) (n : Int) (h0 : 0 ≤ n) (h1 : n ≤ 1000) :
    Calls Tryd.prog 107 #[.pointer (some ⟨g, 0, none⟩), .int .i64 n] W fun e w' => (∃ l : List UInt8, (l.length : Int) ≤ n ∧ e = .returned (.string ⟨l.toArray⟩)) ∧ Rd3 w0 a len cap g W w' := by
  obtain ⟨i0, hi, hz0, hz1, hz2⟩ := info_parts Tryd.inf5b
  have hgW := h.lt
  go_enter Tryd.func107, Tryd.ntmps107
  go_wp2_with fail
  have hown0 := World.ownsRow_made (e := 5) (size := 1) W #[] 0 (Nat.le_refl _) (by unfold maxLen; omega) rfl
  have hneg : ∀ {v : Value} {k : Nat} {xs : List Value} {w : World}, w.ownsRow W.heap.size 5 1 v k xs → v.ownBlock ≠ some g := by
    intro v k xs w ho e
    have := (ho.lt g e).1
    omega
  refine (below_any hS (h.alloc _) (n + 1) (by omega) (by omega)).mono ?_
  rintro e w1 ⟨⟨y, hy1, hy2, rfl⟩, hr⟩
  have hr1 : Rd3 w0 a len cap g W w1 := ((Rd3.refl h).alloc _).trans hr
  have hown1 := hown0.kept hr.grown (Or.inr (hneg hown0))
  clear hown0 hr h
  obtain ⟨m, rfl⟩ := Int.eq_ofNat_of_zero_le hy1
  have HN : Hid (∀ {v : Value} {k : Nat} {xs : List Value} {w : World}, w.ownsRow W.heap.size 5 1 v k xs → v.ownBlock ≠ some g) := hneg
  clear hneg
  go_wp2_with fail
  go_loopw [5, 6] (fun v i wr => ∃ (j : Nat) (acc : List UInt8), i = .int .i64 j ∧ (acc.length : Int) + j ≤ n ∧ wr.ownsRow W.heap.size 5 1 v acc.length (Lib.byteCells acc) ∧ Rd3 w0 a len cap g W wr)
    (fun _ i _ => (nextIntOf i).toNat)
  case atStart => exact ⟨m, [], rfl, by simp; omega, hown1, hr1⟩
  case round =>
    obtain ⟨j, acc, rfl, hj, hown, hr⟩ := hrel
    clear hown1 hr1
    by_cases hlt : 0 < j
    · go_wp2_with fail
      refine (below_any hS hr.rd 256 (by omega) (by omega)).mono ?_
      rintro e w2 ⟨⟨x, hx1, hx2, rfl⟩, hr2⟩
      have hown2 := hown.kept hr2.grown (Or.inr (HN.out hown))
      have hr3 := hr.trans hr2
      have hsz := hr3.grown.size
      clear hown hr2 hr
      go_wp2_with (at_builtin; refine wpList_append_own _ rfl _ _ 22 rfl W.heap.size 5 i0 (.int .u8 0) 1 1 Tryd.underlying22 hi hz0 hz1 hz2 rfl (by decide) _ _ _ rfl (hown2.alloc _) ⟨w2.heap.size, 0, none⟩ 1 1 [_] rfl rfl (cell_one_new _ _ _) ?c2 ?c3 ?c4 ?c5 ?_)
      case c2 => intro u hu; simp at hu; subst hu; rfl
      case c3 => unfold maxLen; omega
      case c4 => omega
      case c5 => simp; omega
      intro v' w3 hown' hgrow _
      rw [snoc_x hx1 hx2] at hown'
      have hr4 := (hr3.alloc _).app hgrow hgW (fun k hk => (hown2.lt k hk).1)
      have H1 : Hid (w3.ownsRow W.heap.size 5 1 v' _ _ ∧ Rd3 w0 a len cap g W w3) := ⟨hown', hr4⟩
      clear hown' hr4 hgrow hown2 hr3
      go_wp2_with fail
      go_roundw
      case rel => exact ⟨j - 1, acc ++ [UInt8.ofNat x.toNat], by go_num, by rw [List.length_append, List.length_singleton]; omega, by simpa using H1.out.1, H1.out.2⟩
      case measure => simp [nextIntOf]; omega
    · have hcv := conv_bytes hown
      go_wp2_with fail
      go_ret
      exact ⟨⟨acc, by omega, rfl⟩, hr⟩
end Go.Proofs.YtfegoldjejlcaaaDoor
