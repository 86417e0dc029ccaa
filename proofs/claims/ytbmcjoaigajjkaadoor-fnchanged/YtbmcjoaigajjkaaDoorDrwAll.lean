/-
  Several texts of this seat as one: Next, Below, Bytes, Text, Data, Hurt, Drw, Off.
-/
import Derived.Test.YtbmcjoaigajjkaaDoorRows
import Derived.WalkKit
import Derived.WalkSpells
import Derived.OpenShut
import Derived.Test.YtbmcjoaigajjkaaDoorConv
import Derived.Maps.AppendAt
import Derived.Test.YtbmcjoaigajjkaaDoorHeld
import Derived.Deep.RegionWith
import Derived.OwnWalk

/-!   The reader of drawn bytes: what 'next' answers: a byte, whatever it is; of memory only the reader's own place is changed. -/
namespace Go.Proofs.YtbmcjoaigajjkaaDoor
open Go.RowKit

def nextIntOf : Value → Int | .int _ q => q | _ => 0
/-- the bytes that came in -/
def Src (w0 : World) (a : Option Addr) (len : Nat) : Prop :=
  len ≤ 140737488355328 ∧ (len = 0 ∨ ∃ b o : Nat, a = some ⟨b, o, none⟩ ∧ b < w0.heap.size ∧ ∀ i, i < len → ∃ c : Nat, c < 256 ∧ w0.cell? ⟨b, o + i, none⟩ = some (.int .u8 (c : Int)))
/-- the reader stands at block g -/
structure RD (w0 : World) (a : Option Addr) (len cap g : Nat) (W : World) : Prop where
  below : Below w0.heap.size w0 W
  gnew : w0.heap.size ≤ g
  cells : ∃ p : Nat, p ≤ len ∧ W.heap[g]? = some (.cells #[.slice a len cap, .int .i64 (p : Int)] 91 (0, 0))

theorem RD.drew {w0 : World} {a : Option Addr} {len cap g : Nat} {W : World} (h : RD w0 a len cap g W) : RD w0 a len cap g W.drew :=
  ⟨h.below.drew, h.gnew, h.cells⟩

set_option maxRecDepth 100000 in
set_option maxHeartbeats 1000000 in
theorem next_any {w0 : World} {a : Option Addr} {len cap g : Nat} {W : World} (hS : Src w0 a len) (h : RD w0 a len cap g W) :
    Calls Tryd.prog 51 #[.pointer (some ⟨g, 0, none⟩)] W fun e w' => (∃ c : Nat, c < 256 ∧ e = .returned (.int .i64 (c : Int))) ∧ RD w0 a len cap g w' ∧ W.grownBy w' (some g) := by
  obtain ⟨hb, hg, p, hp, hh⟩ := h
  obtain ⟨hl, hS⟩ := hS
  have h0 : W.cell? ⟨g, 0, none⟩ = some (.slice a len cap) := by rw [cell_of_row W g 0 _ _ _ hh]; rfl
  have h1 : W.cell? ⟨g, 1, none⟩ = some (.int .i64 (p : Int)) := by rw [cell_of_row W g 1 _ _ _ hh]; rfl
  have hf : W.frozen? ⟨g, 1, none⟩ = false := frozen_of_row W g 1 _ _ hh
  by_cases hlt : p < len
  · obtain ⟨b, o, rfl, hbb, hc⟩ : ∃ b o : Nat, a = some ⟨b, o, none⟩ ∧ b < w0.heap.size ∧ ∀ i, i < len → ∃ c : Nat, c < 256 ∧ w0.cell? ⟨b, o + i, none⟩ = some (.int .u8 (c : Int)) := by
      rcases hS with h | h
      · omega
      · exact h
    obtain ⟨c, hc1, hc2⟩ := hc p hlt
    have hc3 : W.cell? ⟨b, o + p, none⟩ = some (.int .u8 (c : Int)) := (hb.cell (p := ⟨b, o + p, none⟩) hbb).trans hc2
    have hbg : ¬ b = g := by omega
    have hpl : (p : Int) < len := by omega
    clear hc hc2
    have HH : Hid _ := hh
    have HB : Hid _ := hb
    clear hh hb
    go_enter Tryd.func51, Tryd.ntmps51
    go_wp2
    go_region
    go_wp2
    go_region
    go_wp2
    go_ret
    refine ⟨⟨c, hc1, rfl⟩, ⟨(HB.out.setCell (p := ⟨g, 1, none⟩) hg _).drew.drew, hg, p + 1, by omega, ?_⟩, ⟨rfl, rfl, rfl, by simp [World.setCell], fun k _ hne => ?_⟩⟩
    · exact heap_setCell_same W g 1 _ _ _ HH.out
    · exact heap_setCell_other W ⟨g, 1, none⟩ k _ (fun e => hne (by rw [e]))
  · have hple : (len : Int) ≤ p := by omega
    go_enter Tryd.func51, Tryd.ntmps51
    go_wp2
    go_region
    go_wp2
    go_ret
    exact ⟨⟨0, by omega, rfl⟩, ⟨hb.drew, hg, p, hp, hh⟩, ⟨rfl, rfl, rfl, Nat.le_refl _, fun _ _ _ => rfl⟩⟩
end Go.Proofs.YtbmcjoaigajjkaaDoor

/-!   The reader of drawn bytes: what 'below', 'once', 'word' answer: some number within its bounds. -/
namespace Go.Proofs.YtbmcjoaigajjkaaDoor
open Go.RowKit

/-- what a call of the reader does to memory -/
structure Rd3 (w0 : World) (a : Option Addr) (len cap g : Nat) (W w' : World) : Prop where
  rd : RD w0 a len cap g w'
  grown : W.grownBy w' (some g)
theorem Rd3.trans {w0 : World} {a : Option Addr} {len cap g : Nat} {W w1 w2 : World} (h : Rd3 w0 a len cap g W w1) (k : Rd3 w0 a len cap g w1 w2) : Rd3 w0 a len cap g W w2 :=
  ⟨k.rd, h.grown.trans k.grown⟩
theorem Rd3.refl {w0 : World} {a : Option Addr} {len cap g : Nat} {W : World} (h : RD w0 a len cap g W) : Rd3 w0 a len cap g W W := ⟨h, World.grownBy.refl _ _⟩
theorem next3 {w0 : World} {a : Option Addr} {len cap g : Nat} {W : World} (hS : Src w0 a len) (h : RD w0 a len cap g W) :
    Calls Tryd.prog 51 #[.pointer (some ⟨g, 0, none⟩)] W fun e w' => (∃ c : Nat, c < 256 ∧ e = .returned (.int .i64 (c : Int))) ∧ Rd3 w0 a len cap g W w' :=
  (next_any hS h).mono fun _ _ ⟨h1, h2, h3⟩ => ⟨h1, h2, h3⟩

set_option maxRecDepth 100000 in
set_option maxHeartbeats 1000000 in
theorem below_any {w0 : World} {a : Option Addr} {len cap g : Nat} {W : World} (hS : Src w0 a len) (h : RD w0 a len cap g W) (n : Int) (h1 : 1 ≤ n) (h2 : n ≤ 1099511627776) :
    Calls Tryd.prog 21 #[.pointer (some ⟨g, 0, none⟩), .int .i64 n] W fun e w' => (∃ x : Int, 0 ≤ x ∧ x < n ∧ e = .returned (.int .i64 x)) ∧ Rd3 w0 a len cap g W w' := by
  by_cases hn1 : n ≤ 1
  · go_enter Tryd.func21, Tryd.ntmps21
    go_wp2_with fail
    go_ret
    exact ⟨⟨0, by omega, by omega, rfl⟩, Rd3.refl h⟩
  · by_cases hn2 : n ≤ 256
    · go_enter Tryd.func21, Tryd.ntmps21
      go_wp2_with fail
      refine (next3 hS h).mono ?_
      rintro e w1 ⟨⟨c, hc, rfl⟩, hr⟩
      have hm := Int.emod_nonneg (c : Int) (by omega : n ≠ 0)
      have hm2 := Int.emod_lt_of_pos (c : Int) (by omega : 0 < n)
      go_wp2_with fail
      go_ret
      exact ⟨⟨(c : Int) % n, hm, hm2, rfl⟩, hr⟩
    · go_enter Tryd.func21, Tryd.ntmps21
      go_wp2_with fail
      refine (next3 hS h).mono ?_
      rintro e w1 ⟨⟨c, hc, rfl⟩, hr⟩
      go_wp2_with fail
      refine (next3 hS hr.rd).mono ?_
      rintro e w2 ⟨⟨d, hd, rfl⟩, hr2⟩
      have hm := Int.emod_nonneg ((c : Int) * 256 + d) (by omega : n ≠ 0)
      have hm2 := Int.emod_lt_of_pos ((c : Int) * 256 + d) (by omega : 0 < n)
      go_wp2_with fail
      go_ret
      exact ⟨⟨((c : Int) * 256 + d) % n, hm, hm2, rfl⟩, hr.trans hr2⟩

set_option maxRecDepth 100000 in
theorem once_any {w0 : World} {a : Option Addr} {len cap g : Nat} {W : World} (hS : Src w0 a len) (h : RD w0 a len cap g W) (n : Int) (h1 : 1 ≤ n) (h2 : n ≤ 1099511627776) :
    Calls Tryd.prog 20 #[.pointer (some ⟨g, 0, none⟩), .int .i64 n] W fun e w' => (∃ x : Bool, e = .returned (.bool x)) ∧ Rd3 w0 a len cap g W w' := by
  go_enter Tryd.func20, Tryd.ntmps20
  go_wp2_with fail
  refine (below_any hS h n h1 h2).mono ?_
  rintro e w1 ⟨⟨x, hx1, hx2, rfl⟩, hr⟩
  go_wp2_with fail
  go_ret
  exact ⟨⟨_, rfl⟩, hr⟩

set_option maxRecDepth 100000 in
set_option maxHeartbeats 1000000 in
theorem rword_any {w0 : World} {a : Option Addr} {len cap g : Nat} {W : World} (hS : Src w0 a len) (h : RD w0 a len cap g W) :
    Calls Tryd.prog 97 #[.pointer (some ⟨g, 0, none⟩)] W fun e w' => (∃ x : Int, 0 ≤ x ∧ x < 18446744073709551616 ∧ e = .returned (.int .u64 x)) ∧ Rd3 w0 a len cap g W w' := by
  go_enter Tryd.func97, Tryd.ntmps97
  go_wp2
  go_loopw [3, 4] (fun x i wr => ∃ (X : Int) (k : Nat), k ≤ 8 ∧ x = .int .u64 X ∧ 0 ≤ X ∧ X < 18446744073709551616 ∧ i = .int .i64 k ∧ Rd3 w0 a len cap g W wr) (fun _ i _ => 8 - (nextIntOf i).toNat)
  case atStart => exact ⟨0, 0, by omega, rfl, by omega, by omega, rfl, Rd3.refl h⟩
  case round =>
    obtain ⟨X, k, hk, rfl, hX1, hX2, rfl, hr⟩ := hrel
    clear h
    by_cases hlt : k < 8
    · go_wp2_with fail
      refine (next3 hS hr.rd).mono ?_
      rintro e w2 ⟨⟨d, hd, rfl⟩, hr2⟩
      have hbw := bounds_u64 (wf_bits .or .u64 (IntKind.u64.wrap (X * 256)) (d : Int))
      go_wp2_with fail
      go_roundw
      case rel => exact ⟨_, k + 1, by omega, rfl, hbw.1, by omega, by go_num, hr.trans hr2⟩
      case measure => simp [nextIntOf]; omega
    · go_wp2_with fail
      go_ret
      exact ⟨⟨X, hX1, hX2, rfl⟩, hr⟩

theorem RD.lt {w0 : World} {a : Option Addr} {len cap g : Nat} {W : World} (h : RD w0 a len cap g W) : g < W.heap.size := by
  obtain ⟨_, _, p, _, hh⟩ := h
  rcases Nat.lt_or_ge g W.heap.size with h' | h'
  · exact h'
  · rw [Array.getElem?_eq_none h'] at hh; cases hh
theorem RD.alloc {w0 : World} {a : Option Addr} {len cap g : Nat} {W : World} (h : RD w0 a len cap g W) (o : Obj) : RD w0 a len cap g (W.alloc o) := by
  have hl := h.lt
  obtain ⟨hb, hg, p, hp, hh⟩ := h
  exact ⟨hb.alloc hb.size o, hg, p, hp, (Below.heap_alloc W o g hl).trans hh⟩
theorem Rd3.alloc {w0 : World} {a : Option Addr} {len cap g : Nat} {W w1 : World} (h : Rd3 w0 a len cap g W w1) (o : Obj) : Rd3 w0 a len cap g W (w1.alloc o) :=
  ⟨h.rd.alloc o, h.grown.trans (World.grownBy_alloc w1 o _)⟩
theorem Rd3.drew {w0 : World} {a : Option Addr} {len cap g : Nat} {W w1 : World} (h : Rd3 w0 a len cap g W w1) : Rd3 w0 a len cap g W w1.drew :=
  ⟨h.rd.drew, h.grown.trans ⟨rfl, rfl, rfl, Nat.le_refl _, fun _ _ _ => rfl⟩⟩
end Go.Proofs.YtbmcjoaigajjkaaDoor

/-!   The reader of drawn bytes: what 'bytes' answers: some bytes, at most so many. -/
namespace Go.Proofs.YtbmcjoaigajjkaaDoor
open Go.RowKit

theorem Rd3.app {w0 : World} {a : Option Addr} {len cap g : Nat} {W w1 w2 : World} (h : Rd3 w0 a len cap g W w1) {row : Option Nat} (hg : w1.grownBy w2 row) (hgW : g < W.heap.size)
    (hr : ∀ j, row = some j → W.heap.size ≤ j) : Rd3 w0 a len cap g W w2 := by
  have hl := h.rd.lt
  obtain ⟨⟨hb, hgn, p, hp, hh⟩, hgr⟩ := h
  refine ⟨⟨hb.grown hg hb.size (fun k hk => ?_), hgn, p, hp, ?_⟩, hgr.andThen hg (fun j hj => Or.inl (hr j hj))⟩
  · have := hr k hk; omega
  · rw [hg.block g hl (fun e => by have := hr g e.symm; omega)]; exact hh
theorem snoc_x {acc : List UInt8} {x : Int} (h0 : 0 ≤ x) (h1 : x < 256) : Lib.byteCells acc ++ [Value.int .u8 x] = Lib.byteCells (acc ++ [UInt8.ofNat x.toNat]) := by
  obtain ⟨m, rfl⟩ := Int.eq_ofNat_of_zero_le h0
  rw [Lib.byteCells_append]
  have : (((UInt8.ofNat (m : Int).toNat).toNat : Nat) : Int) = (m : Int) := by
    rw [UInt8.toNat_ofNat']; omega
  simp only [Lib.byteCells, List.map_cons, List.map_nil, this]

set_option maxRecDepth 100000 in
set_option maxHeartbeats 2000000 in
theorem bytes_any {w0 : World} {a : Option Addr} {len cap g : Nat} {W : World} (hS : Src w0 a len) (h : RD w0 a len cap g W) (n : Int) (h0 : 0 ≤ n) (h1 : n ≤ 1000) :
    Calls Tryd.prog 76 #[.pointer (some ⟨g, 0, none⟩), .int .i64 n] W fun e w' => (∃ l : List UInt8, (l.length : Int) ≤ n ∧ e = .returned (.string ⟨l.toArray⟩)) ∧ Rd3 w0 a len cap g W w' := by
  obtain ⟨i0, hi, hz0, hz1, hz2⟩ := info_parts Tryd.inf5b
  have hgW := h.lt
  go_enter Tryd.func76, Tryd.ntmps76
  go_wp2_with fail
  have hown0 := World.ownsRow_made (e := 5) (size := 1) W #[] 0 (Nat.le_refl _) (by unfold maxLen; omega) rfl
  have hneg : ∀ {v : Value} {k : Nat} {xs : List Value} {w : World}, w.ownsRow W.heap.size 5 1 v k xs → v.ownBlock ≠ some g := by
    intro v k xs w ho e
    have := (ho.lt g e).1
    omega
  refine (below_any hS (h.alloc _) (n + 1) (by omega) (by omega)).mono ?_
  rintro e w1 ⟨⟨y, hy1, hy2, rfl⟩, hr⟩
  have hr1 : Rd3 w0 a len cap g W w1 := ((Rd3.refl h).alloc _).trans hr
  have hown1 := hown0.kept hr.grown (Or.inr (hneg hown0))
  clear hown0 hr h
  obtain ⟨m, rfl⟩ := Int.eq_ofNat_of_zero_le hy1
  have HN : Hid (∀ {v : Value} {k : Nat} {xs : List Value} {w : World}, w.ownsRow W.heap.size 5 1 v k xs → v.ownBlock ≠ some g) := hneg
  clear hneg
  go_wp2_with fail
  go_loopw [5, 6] (fun v i wr => ∃ (j : Nat) (acc : List UInt8), i = .int .i64 j ∧ (acc.length : Int) + j ≤ n ∧ wr.ownsRow W.heap.size 5 1 v acc.length (Lib.byteCells acc) ∧ Rd3 w0 a len cap g W wr)
    (fun _ i _ => (nextIntOf i).toNat)
  case atStart => exact ⟨m, [], rfl, by simp; omega, hown1, hr1⟩
  case round =>
    obtain ⟨j, acc, rfl, hj, hown, hr⟩ := hrel
    clear hown1 hr1
    by_cases hlt : 0 < j
    · go_wp2_with fail
      refine (below_any hS hr.rd 256 (by omega) (by omega)).mono ?_
      rintro e w2 ⟨⟨x, hx1, hx2, rfl⟩, hr2⟩
      have hown2 := hown.kept hr2.grown (Or.inr (HN.out hown))
      have hr3 := hr.trans hr2
      have hsz := hr3.grown.size
      clear hown hr2 hr
      go_wp2_with (at_builtin; refine wpList_append_own _ rfl _ _ 22 rfl W.heap.size 5 i0 (.int .u8 0) 1 1 Tryd.underlying22 hi hz0 hz1 hz2 rfl (by decide) _ _ _ rfl (hown2.alloc _) ⟨w2.heap.size, 0, none⟩ 1 1 [_] rfl rfl (cell_one_new _ _ _) ?c2 ?c3 ?c4 ?c5 ?_)
      case c2 => intro u hu; simp at hu; subst hu; rfl
      case c3 => unfold maxLen; omega
      case c4 => omega
      case c5 => simp; omega
      intro v' w3 hown' hgrow _
      rw [snoc_x hx1 hx2] at hown'
      have hr4 := (hr3.alloc _).app hgrow hgW (fun k hk => (hown2.lt k hk).1)
      have H1 : Hid (w3.ownsRow W.heap.size 5 1 v' _ _ ∧ Rd3 w0 a len cap g W w3) := ⟨hown', hr4⟩
      clear hown' hr4 hgrow hown2 hr3
      go_wp2_with fail
      go_roundw
      case rel => exact ⟨j - 1, acc ++ [UInt8.ofNat x.toNat], by go_num, by rw [List.length_append, List.length_singleton]; omega, by simpa using H1.out.1, H1.out.2⟩
      case measure => simp [nextIntOf]; omega
    · have hcv := conv_bytes hown
      go_wp2_with fail
      go_ret
      exact ⟨⟨acc, by omega, rfl⟩, hr⟩
end Go.Proofs.YtbmcjoaigajjkaaDoor

/-!   The reader of drawn bytes: what 'text' answers: some short text; and how it is opened. -/
namespace Go.Proofs.YtbmcjoaigajjkaaDoor
open Go.RowKit

set_option maxRecDepth 100000 in
set_option maxHeartbeats 2000000 in
theorem text_any {w0 : World} {a : Option Addr} {len cap g : Nat} {W : World} (hS : Src w0 a len) (h : RD w0 a len cap g W) :
    Calls Tryd.prog 77 #[.pointer (some ⟨g, 0, none⟩)] W fun e w' => (∃ s : ByteArray, s.size ≤ 20 ∧ e = .returned (.string s)) ∧ Rd3 w0 a len cap g W w' := by
  have hne : W.heap.size ≠ g := by have := h.lt; omega
  go_enter Tryd.func77, Tryd.ntmps77
  go_wp2_with fail
  refine (below_any hS (h.alloc _) 13 (by omega) (by omega)).mono ?_
  rintro e w2 ⟨⟨y, hy1, hy2, rfl⟩, hr2⟩
  obtain ⟨n, rfl⟩ := Int.eq_ofNat_of_zero_le hy1
  have hc := fun (j : Nat) (v : Value) (hj : _) => hr2.grown.cell (a := ⟨W.heap.size, j, none⟩) (v := v) ((World.cell?_alloc_mark W _ _ _ j).trans hj) (by simpa using hne)
  obtain ⟨s, hs, hsz⟩ : ∃ s : ByteArray, w2.cell? ⟨W.heap.size, n, none⟩ = some (.string s) ∧ s.size ≤ 20 := by
    have hn : n < 13 := by omega
    clear hy1 hy2 hr2 h
    match n, hn with
    | 0, _ => exact ⟨_, hc 0 _ rfl, by decide⟩
    | 1, _ => exact ⟨_, hc 1 _ rfl, by decide⟩
    | 2, _ => exact ⟨_, hc 2 _ rfl, by decide⟩
    | 3, _ => exact ⟨_, hc 3 _ rfl, by decide⟩
    | 4, _ => exact ⟨_, hc 4 _ rfl, by decide⟩
    | 5, _ => exact ⟨_, hc 5 _ rfl, by decide⟩
    | 6, _ => exact ⟨_, hc 6 _ rfl, by decide⟩
    | 7, _ => exact ⟨_, hc 7 _ rfl, by decide⟩
    | 8, _ => exact ⟨_, hc 8 _ rfl, by decide⟩
    | 9, _ => exact ⟨_, hc 9 _ rfl, by decide⟩
    | 10, _ => exact ⟨_, hc 10 _ rfl, by decide⟩
    | 11, _ => exact ⟨_, hc 11 _ rfl, by decide⟩
    | 12, _ => exact ⟨_, hc 12 _ rfl, by decide⟩
  have hr3 : Rd3 w0 a len cap g W w2 := ((Rd3.refl h).alloc _).trans hr2
  clear hc hr2
  go_wp2_with fail
  go_ret
  exact ⟨⟨s, hsz, rfl⟩, hr3⟩

set_option maxRecDepth 100000 in
theorem open_any {w0 : World} {a : Option Addr} {len cap : Nat} {W : World} (hb : Below w0.heap.size w0 W) :
    Calls Tryd.prog 18 #[.slice a len cap] W fun e w' => e = .returned (.pointer (some ⟨W.heap.size, 0, none⟩)) ∧ RD w0 a len cap W.heap.size w' ∧ W.grownBy w' none := by
  go_enter Tryd.func18, Tryd.ntmps18
  go_wp2_with fail
  go_ret
  exact ⟨rfl, ⟨hb.alloc hb.size _, hb.size, 0, by omega, MapKept.heap_alloc W _ |>.1⟩, World.grownBy_alloc _ _ _⟩
end Go.Proofs.YtbmcjoaigajjkaaDoor

/-!   The reader of drawn bytes: what 'data' answers: some text of at most 600 bytes. -/
namespace Go.Proofs.YtbmcjoaigajjkaaDoor
open Go.RowKit

theorem mk_size (l : List UInt8) : (⟨l.toArray⟩ : ByteArray).size = l.length := by simp [ByteArray.size]

set_option maxRecDepth 100000 in
set_option maxHeartbeats 2000000 in
theorem data_any {w0 : World} {a : Option Addr} {len cap g : Nat} {W : World} (hS : Src w0 a len) (h : RD w0 a len cap g W) (n : Int) (h0 : 0 ≤ n) (h1 : n ≤ 1000) :
    Calls Tryd.prog 48 #[.pointer (some ⟨g, 0, none⟩), .int .i64 n] W fun e w' => (∃ s : ByteArray, s.size ≤ 600 ∧ e = .returned (.string s)) ∧ Rd3 w0 a len cap g W w' := by
  go_enter Tryd.func48, Tryd.ntmps48
  go_wp2_with fail
  refine (below_any hS h (n + 1) (by omega) (by omega)).mono ?_
  rintro e w1 ⟨⟨y, hy1, hy2, rfl⟩, hr1⟩
  clear h
  obtain ⟨m, rfl⟩ := Int.eq_ofNat_of_zero_le hy1
  go_wp2_with fail
  go_loopw [5, 6] (fun v i wr => ∃ (j : Nat) (s : ByteArray), i = .int .i64 j ∧ (j : Int) ≤ n ∧ s.size ≤ 600 ∧ v = .string s ∧ Rd3 w0 a len cap g W wr)
    (fun _ i _ => (nextIntOf i).toNat)
  case atStart => exact ⟨m, ⟨#[]⟩, rfl, by omega, by decide, rfl, hr1⟩
  case round =>
    obtain ⟨j, s, rfl, hj, hs, rfl, hr⟩ := hrel
    clear hr1
    by_cases hlt : 0 < j
    · go_wp2_with fail
      refine (below_any hS hr.rd 5 (by omega) (by omega)).mono ?_
      rintro e w2 ⟨⟨x, hx1, hx2, rfl⟩, hr2⟩
      replace hr2 := hr.trans hr2
      clear hr
      by_cases e0 : x = 0
      · subst e0
        go_wp2_with fail
        refine (bytes_any hS hr2.rd 6 (by omega) (by omega)).mono ?_
        rintro e w3 ⟨⟨l, hl, rfl⟩, hr3⟩
        replace hr3 := hr2.trans hr3
        clear hr2
        by_cases hbig : 600 < s.size + l.length
        · go_wp2_with fail
          go_roundw
          case rel => exact ⟨j - 1, _, by go_num, by omega, by simp; omega, rfl, hr3⟩
          case measure => simp [nextIntOf]; omega
        · go_wp2_with fail
          go_roundw
          case rel => exact ⟨j - 1, s ++ (⟨l.toArray⟩ : ByteArray), by go_num, by omega, by rw [ByteArray.size_append, mk_size l]; omega, rfl, hr3⟩
          case measure => simp [nextIntOf]; omega
      · have e0' : (x == 0) = false := beq_eq_false_iff_ne.2 e0
        by_cases e1 : x = 1
        · subst e1
          by_cases hz : 0 < s.size
          · go_wp2_with fail
            refine (below_any hS hr2.rd s.size (by omega) (by omega)).mono ?_
            rintro e w3 ⟨⟨z, hz1, hz2, rfl⟩, hr3⟩
            obtain ⟨q, rfl⟩ := Int.eq_ofNat_of_zero_le hz1
            replace hr3 := hr2.trans hr3
            clear hr2
            by_cases hbig : 600 < s.size + (s.size - q)
            · go_wp2_with fail
              go_roundw
              case rel => exact ⟨j - 1, _, by go_num, by omega, by simp; omega, rfl, hr3⟩
              case measure => simp [nextIntOf]; omega
            · go_wp2_with fail
              go_roundw
              case rel => exact ⟨j - 1, _, by go_num, by omega, by simp; omega, rfl, hr3⟩
              case measure => simp [nextIntOf]; omega
          · go_wp2_with fail
            go_roundw
            case rel => exact ⟨j - 1, s, by go_num, by omega, by omega, rfl, hr2⟩
            case measure => simp [nextIntOf]; omega
        · have e1' : (x == 1) = false := beq_eq_false_iff_ne.2 e1
          go_wp2_with fail
          refine (text_any hS hr2.rd).mono ?_
          rintro e w3 ⟨⟨l, hl, rfl⟩, hr3⟩
          replace hr3 := hr2.trans hr3
          clear hr2
          by_cases hbig : 600 < s.size + l.size
          · go_wp2_with fail
            go_roundw
            case rel => exact ⟨j - 1, _, by go_num, by omega, by simp; omega, rfl, hr3⟩
            case measure => simp [nextIntOf]; omega
          · go_wp2_with fail
            go_roundw
            case rel => exact ⟨j - 1, _, by go_num, by omega, by simp; omega, rfl, hr3⟩
            case measure => simp [nextIntOf]; omega
    · go_wp2_with fail
      go_ret
      exact ⟨⟨s, hs, rfl⟩, hr⟩
end Go.Proofs.YtbmcjoaigajjkaaDoor

/-!   The reader of drawn bytes: what 'hurt' answers: some text, a few bytes longer at most. -/
namespace Go.Proofs.YtbmcjoaigajjkaaDoor
open Go.RowKit
set_option linter.unusedVariables false
set_option linter.unusedSimpArgs false
theorem Rd3.drewL {w0 : World} {a : Option Addr} {len cap g : Nat} {W w1 : World} (h : Rd3 w0 a len cap g W.drew w1) : Rd3 w0 a len cap g W w1 :=
  ⟨h.rd, ⟨h.grown.os, h.grown.tape, h.grown.output, h.grown.size, h.grown.block⟩⟩
end Go.Proofs.YtbmcjoaigajjkaaDoor

/-!   How the reader of drawn bytes is opened, and kept behind other calls. -/
namespace Go.Proofs.YtbmcjoaigajjkaaDoor
open Go.RowKit

theorem src_of {w : World} {a : Option Addr} {len cap : Nat} {zs : List Int}
    (h : (a = none ∧ len = 0 ∧ cap = 0 ∧ zs = []) ∨ ∃ x : Addr, a = some x ∧ len ≤ cap ∧ cap ≤ maxLen ∧ zs.length = cap ∧ (∀ i, i < zs.length → w.cell? (x.add i) = some (.int .u8 (zs.getD i 0))) ∧ ∀ n ∈ zs, (Lit.int .u8 n).wf = true)
    (hl : len ≤ 1048576) : Src w a len := by
  refine ⟨by omega, ?_⟩
  rcases h with ⟨_, h, _⟩ | ⟨x, rfl, h1, h2, h3, h4, h5⟩
  · exact Or.inl h
  · by_cases h0 : len = 0
    · exact Or.inl h0
    · refine Or.inr ?_
      obtain ⟨b, o, sp⟩ := x
      have hc0 := h4 0 (by omega)
      have hadd : (⟨b, o, sp⟩ : Addr).add 0 = ⟨b, o, sp⟩ := by simp [Addr.add]
      rw [hadd] at hc0
      cases sp with
      | some s =>
        exfalso
        simp only [World.cell?] at hc0
        split at hc0 <;> simp at hc0
      | none =>
        refine ⟨b, o, rfl, block_lt_of_cell hc0, fun i hi => ?_⟩
        have hci := h4 i (by omega)
        have ea : (⟨b, o, none⟩ : Addr).add i = ⟨b, o + i, none⟩ := by
          unfold Addr.add
          by_cases e : i = 0
          · subst e; simp
          · simp [e]
        rw [ea] at hci
        have hm : zs.getD i 0 ∈ zs := by
          rw [List.getD_eq_getElem?_getD, List.getElem?_eq_getElem (by omega)]
          exact List.getElem_mem _
        have hb := bounds_u8 (h5 _ hm)
        refine ⟨(zs.getD i 0).toNat, by omega, ?_⟩
        rw [hci]
        congr 2
        omega

theorem RD.past {w0 : World} {a : Option Addr} {len cap g : Nat} {W W' : World} (h : RD w0 a len cap g W) (hb : Below W.heap.size W W') : RD w0 a len cap g W' := by
  have hl := h.lt
  obtain ⟨h1, h2, p, hp, hh⟩ := h
  exact ⟨h1.trans (hb.mono h1.size), h2, p, hp, by rw [hb.block g hl]; exact hh⟩
theorem six {C : Array Value} {w1 w2 : World} {g : Nat} {t : TypeId} (hg : (w1.alloc (.cells C t)).grownBy w2 (some g)) (hne : w1.heap.size ≠ g) (n : Nat) (v : Value) (hv : C[n]? = some v) :
    w2.cell? ⟨w1.heap.size, n, none⟩ = some v :=
  hg.cell (a := ⟨w1.heap.size, n, none⟩) ((World.cell?_alloc_mark w1 C t _ n).trans hv) (by simpa using hne)

end Go.Proofs.YtbmcjoaigajjkaaDoor

/-!   The reader of drawn bytes: what 'near' and 'off' answer: some number. -/
namespace Go.Proofs.YtbmcjoaigajjkaaDoor
open Go.RowKit

set_option maxRecDepth 100000 in
set_option maxHeartbeats 1000000 in
theorem near_any {w0 : World} {a : Option Addr} {len cap g : Nat} {W : World} (hS : Src w0 a len) (h : RD w0 a len cap g W) (lo hi : Int) (h1 : 0 ≤ lo) (h2 : lo ≤ hi) (h3 : hi ≤ 5000) :
    Calls Tryd.prog 78 #[.pointer (some ⟨g, 0, none⟩), .int .i64 lo, .int .i64 hi] W fun e w' => (∃ x : Int, 0 ≤ x ∧ x ≤ 10000 ∧ e = .returned (.int .i64 x)) ∧ Rd3 w0 a len cap g W w' := by
  have hlt : ¬ hi < lo := by omega
  go_enter Tryd.func78, Tryd.ntmps78
  go_wp2_with fail
  refine (below_any hS h 8 (by omega) (by omega)).mono ?_
  rintro e w1 ⟨⟨x, hx1, hx2, rfl⟩, hr⟩
  clear h
  by_cases h0 : x = 0
  · subst h0
    go_wp2_with fail
    go_ret
    exact ⟨⟨lo, h1, by omega, rfl⟩, hr⟩
  · by_cases h10 : x = 1
    · subst h10
      go_wp2_with fail
      go_ret
      exact ⟨⟨hi, by omega, by omega, rfl⟩, hr⟩
    · have hne0 : (x == 0) = false := beq_eq_false_iff_ne.2 h0
      have hne1 : (x == 1) = false := beq_eq_false_iff_ne.2 h10
      go_wp2_with fail
      refine (rword_any hS hr.rd).mono ?_
      rintro e w2 ⟨⟨y, hy1, hy2, rfl⟩, hr2⟩
      have hm1 := Int.emod_nonneg (y / 2) (by omega : hi - lo + 1 ≠ 0)
      have hm2 := Int.emod_lt_of_pos (y / 2) (by omega : 0 < hi - lo + 1)
      have hnz : ¬ hi - lo + 1 = 0 := by omega
      go_wp2_with fail
      go_ret
      exact ⟨⟨lo + y / 2 % (hi - lo + 1), by omega, by omega, rfl⟩, hr.trans hr2⟩
theorem four (lo hi : Int) (n : Nat) (h : n < 4) (h1 : 0 ≤ lo) (h2 : lo ≤ hi) (h3 : hi ≤ 5000) : ∃ v : Int, -9223372036854775808 ≤ v ∧ v ≤ 9223372036854775807 ∧
    (#[Value.int .i64 (lo - 1), .int .i64 (hi + 1), .int .i64 (-9223372036854775808), .int .i64 9223372036854775807] : Array Value)[n]? = some (.int .i64 v) := by
  match n, h with
  | 0, _ => exact ⟨_, by omega, by omega, rfl⟩
  | 1, _ => exact ⟨_, by omega, by omega, rfl⟩
  | 2, _ => exact ⟨_, by decide, by decide, rfl⟩
  | 3, _ => exact ⟨_, by decide, by decide, rfl⟩

set_option maxRecDepth 100000 in
set_option maxHeartbeats 1000000 in
theorem off_any {w0 : World} {a : Option Addr} {len cap g : Nat} {W : World} (hS : Src w0 a len) (h : RD w0 a len cap g W) (lo hi : Int) (h1 : 0 ≤ lo) (h2 : lo ≤ hi) (h3 : hi ≤ 5000) :
    Calls Tryd.prog 50 #[.pointer (some ⟨g, 0, none⟩), .int .i64 lo, .int .i64 hi] W fun e w' => (∃ x : Int, -9223372036854775808 ≤ x ∧ x ≤ 9223372036854775807 ∧ e = .returned (.int .i64 x)) ∧ Rd3 w0 a len cap g W w' := by
  go_enter Tryd.func50, Tryd.ntmps50
  go_wp2_with fail
  refine (once_any hS h 24 (by omega) (by omega)).mono ?_
  rintro e w1 ⟨⟨b, rfl⟩, hr⟩
  clear h
  cases b with
  | true =>
    have hne : w1.heap.size ≠ g := by have := hr.rd.lt; omega
    go_wp2_with fail
    refine (below_any hS (hr.rd.alloc _) 4 (by omega) (by omega)).mono ?_
    rintro e w2 ⟨⟨x, hx1, hx2, rfl⟩, hr2⟩
    obtain ⟨n, rfl⟩ := Int.eq_ofNat_of_zero_le hx1
    obtain ⟨v, hv1, hv2, hv⟩ := four lo hi n (by omega) h1 h2 h3
    have hc := six hr2.grown hne n _ hv
    have hr3 : Rd3 w0 a len cap g W w2 := (hr.alloc _).trans hr2
    clear hr hr2
    go_wp2_with fail
    go_ret
    exact ⟨⟨v, hv1, hv2, rfl⟩, hr3⟩
  | false =>
    go_wp2_with fail
    refine (near_any hS hr.rd lo hi h1 h2 h3).mono ?_
    rintro e w2 ⟨⟨x, hx1, hx2, rfl⟩, hr2⟩
    go_wp2_with fail
    go_ret
    exact ⟨⟨x, by omega, by omega, rfl⟩, hr.trans hr2⟩
end Go.Proofs.YtbmcjoaigajjkaaDoor
