/-
  Several texts of this seat as one: Next, Below, Bytes.
-/
import Derived.Test.YtpeddaljgmkomaaRows
import Derived.WalkKit
import Derived.WalkSpells
import Derived.OpenShut
import Derived.Test.YtpeddaljgmkomaaPk02
import Derived.Maps.AppendAt

/-!   The reader of drawn bytes: what 'next' answers: a byte, whatever it is; of memory only the reader's own place is changed. -/
namespace Go.Proofs.Ytpeddaljgmkomaa
open Go.RowKit

def nextIntOf : Value → Int | .int _ q => q | _ => 0
/-- the bytes that came in -/
def Src (w0 : World) (a : Option Addr) (len : Nat) : Prop :=
  len ≤ 140737488355328 ∧ (len = 0 ∨ ∃ b o : Nat, a = some ⟨b, o, none⟩ ∧ b < w0.heap.size ∧ ∀ i, i < len → ∃ c : Nat, c < 256 ∧ w0.cell? ⟨b, o + i, none⟩ = some (.int .u8 (c : Int)))
/-- the reader stands at block g -/
structure RD (w0 : World) (a : Option Addr) (len cap g : Nat) (W : World) : Prop where
  below : Below w0.heap.size w0 W
  gnew : w0.heap.size ≤ g
  cells : ∃ p : Nat, p ≤ len ∧ W.heap[g]? = some (.cells #[.slice a len cap, .int .i64 (p : Int)] 107 (0, 0))

theorem RD.drew {w0 : World} {a : Option Addr} {len cap g : Nat} {W : World} (h : RD w0 a len cap g W) : RD w0 a len cap g W.drew :=
  ⟨h.below.drew, h.gnew, h.cells⟩

set_option maxRecDepth 100000 in
set_option maxHeartbeats 1000000 in
theorem next_any {w0 : World} {a : Option Addr} {len cap g : Nat} {W : World} (hS : Src w0 a len) (h : RD w0 a len cap g W) :
    Calls Try.prog 92 #[.pointer (some ⟨g, 0, none⟩)] W fun e w' => (∃ c : Nat, c < 256 ∧ e = .returned (.int .i64 (c : Int))) ∧ RD w0 a len cap g w' ∧ W.grownBy w' (some g) := by
  obtain ⟨hb, hg, p, hp, hh⟩ := h
  obtain ⟨hl, hS⟩ := hS
  have h0 : W.cell? ⟨g, 0, none⟩ = some (.slice a len cap) := by rw [cell_of_row W g 0 _ _ _ hh]; rfl
  have h1 : W.cell? ⟨g, 1, none⟩ = some (.int .i64 (p : Int)) := by rw [cell_of_row W g 1 _ _ _ hh]; rfl
  have hf : W.frozen? ⟨g, 1, none⟩ = false := frozen_of_row W g 1 _ _ hh
  by_cases hlt : p < len
  · obtain ⟨b, o, rfl, hbb, hc⟩ : ∃ b o : Nat, a = some ⟨b, o, none⟩ ∧ b < w0.heap.size ∧ ∀ i, i < len → ∃ c : Nat, c < 256 ∧ w0.cell? ⟨b, o + i, none⟩ = some (.int .u8 (c : Int)) := by
      rcases hS with h | h
      · omega
      · exact h
    obtain ⟨c, hc1, hc2⟩ := hc p hlt
    have hc3 : W.cell? ⟨b, o + p, none⟩ = some (.int .u8 (c : Int)) := (hb.cell (p := ⟨b, o + p, none⟩) hbb).trans hc2
    have hbg : ¬ b = g := by omega
    have hpl : (p : Int) < len := by omega
    clear hc hc2
    have HH : Hid _ := hh
    have HB : Hid _ := hb
    clear hh hb
    go_enter Try.func92, Try.ntmps92
    go_wp2
    go_region
    go_wp2
    go_region
    go_wp2
    go_ret
    refine ⟨⟨c, hc1, rfl⟩, ⟨(HB.out.setCell (p := ⟨g, 1, none⟩) hg _).drew.drew, hg, p + 1, by omega, ?_⟩, ⟨rfl, rfl, rfl, by simp [World.setCell], fun k _ hne => ?_⟩⟩
    · exact heap_setCell_same W g 1 _ _ _ HH.out
    · exact heap_setCell_other W ⟨g, 1, none⟩ k _ (fun e => hne (by rw [e]))
  · have hple : (len : Int) ≤ p := by omega
    go_enter Try.func92, Try.ntmps92
    go_wp2
    go_region
    go_wp2
    go_ret
    exact ⟨⟨0, by omega, rfl⟩, ⟨hb.drew, hg, p, hp, hh⟩, ⟨rfl, rfl, rfl, Nat.le_refl _, fun _ _ _ => rfl⟩⟩
end Go.Proofs.Ytpeddaljgmkomaa

/-!   The reader of drawn bytes: what 'below', 'once', 'word' answer: some number within its bounds. -/
namespace Go.Proofs.Ytpeddaljgmkomaa
open Go.RowKit

/-- what a call of the reader does to memory -/
structure Rd3 (w0 : World) (a : Option Addr) (len cap g : Nat) (W w' : World) : Prop where
  rd : RD w0 a len cap g w'
  grown : W.grownBy w' (some g)
theorem Rd3.trans {w0 : World} {a : Option Addr} {len cap g : Nat} {W w1 w2 : World} (h : Rd3 w0 a len cap g W w1) (k : Rd3 w0 a len cap g w1 w2) : Rd3 w0 a len cap g W w2 :=
  ⟨k.rd, h.grown.trans k.grown⟩
theorem Rd3.refl {w0 : World} {a : Option Addr} {len cap g : Nat} {W : World} (h : RD w0 a len cap g W) : Rd3 w0 a len cap g W W := ⟨h, World.grownBy.refl _ _⟩
theorem next3 {w0 : World} {a : Option Addr} {len cap g : Nat} {W : World} (hS : Src w0 a len) (h : RD w0 a len cap g W) :
    Calls Try.prog 92 #[.pointer (some ⟨g, 0, none⟩)] W fun e w' => (∃ c : Nat, c < 256 ∧ e = .returned (.int .i64 (c : Int))) ∧ Rd3 w0 a len cap g W w' :=
  (next_any hS h).mono fun _ _ ⟨h1, h2, h3⟩ => ⟨h1, h2, h3⟩

set_option maxRecDepth 100000 in
set_option maxHeartbeats 1000000 in
theorem below_any {w0 : World} {a : Option Addr} {len cap g : Nat} {W : World} (hS : Src w0 a len) (h : RD w0 a len cap g W) (n : Int) (h1 : 1 ≤ n) (h2 : n ≤ 1099511627776) :
    Calls Try.prog 65 #[.pointer (some ⟨g, 0, none⟩), .int .i64 n] W fun e w' => (∃ x : Int, 0 ≤ x ∧ x < n ∧ e = .returned (.int .i64 x)) ∧ Rd3 w0 a len cap g W w' := by
  by_cases hn1 : n ≤ 1
  · go_enter Try.func65, Try.ntmps65
    go_wp2_with fail
    go_ret
    exact ⟨⟨0, by omega, by omega, rfl⟩, Rd3.refl h⟩
  · by_cases hn2 : n ≤ 256
    · go_enter Try.func65, Try.ntmps65
      go_wp2_with fail
      refine (next3 hS h).mono ?_
      rintro e w1 ⟨⟨c, hc, rfl⟩, hr⟩
      have hm := Int.emod_nonneg (c : Int) (by omega : n ≠ 0)
      have hm2 := Int.emod_lt_of_pos (c : Int) (by omega : 0 < n)
      go_wp2_with fail
      go_ret
      exact ⟨⟨(c : Int) % n, hm, hm2, rfl⟩, hr⟩
    · go_enter Try.func65, Try.ntmps65
      go_wp2_with fail
      refine (next3 hS h).mono ?_
      rintro e w1 ⟨⟨c, hc, rfl⟩, hr⟩
      go_wp2_with fail
      refine (next3 hS hr.rd).mono ?_
      rintro e w2 ⟨⟨d, hd, rfl⟩, hr2⟩
      have hm := Int.emod_nonneg ((c : Int) * 256 + d) (by omega : n ≠ 0)
      have hm2 := Int.emod_lt_of_pos ((c : Int) * 256 + d) (by omega : 0 < n)
      go_wp2_with fail
      go_ret
      exact ⟨⟨((c : Int) * 256 + d) % n, hm, hm2, rfl⟩, hr.trans hr2⟩

set_option maxRecDepth 100000 in
theorem once_any {w0 : World} {a : Option Addr} {len cap g : Nat} {W : World} (hS : Src w0 a len) (h : RD w0 a len cap g W) (n : Int) (h1 : 1 ≤ n) (h2 : n ≤ 1099511627776) :
    Calls Try.prog 61 #[.pointer (some ⟨g, 0, none⟩), .int .i64 n] W fun e w' => (∃ x : Bool, e = .returned (.bool x)) ∧ Rd3 w0 a len cap g W w' := by
  go_enter Try.func61, Try.ntmps61
  go_wp2_with fail
  refine (below_any hS h n h1 h2).mono ?_
  rintro e w1 ⟨⟨x, hx1, hx2, rfl⟩, hr⟩
  go_wp2_with fail
  go_ret
  exact ⟨⟨_, rfl⟩, hr⟩

set_option maxRecDepth 100000 in
set_option maxHeartbeats 1000000 in
theorem rword_any {w0 : World} {a : Option Addr} {len cap g : Nat} {W : World} (hS : Src w0 a len) (h : RD w0 a len cap g W) :
    Calls Try.prog 104 #[.pointer (some ⟨g, 0, none⟩)] W fun e w' => (∃ x : Int, 0 ≤ x ∧ x < 18446744073709551616 ∧ e = .returned (.int .u64 x)) ∧ Rd3 w0 a len cap g W w' := by
  go_enter Try.func104, Try.ntmps104
  go_wp2
  go_loopw [3, 4] (fun x i wr => ∃ (X : Int) (k : Nat), k ≤ 8 ∧ x = .int .u64 X ∧ 0 ≤ X ∧ X < 18446744073709551616 ∧ i = .int .i64 k ∧ Rd3 w0 a len cap g W wr) (fun _ i _ => 8 - (nextIntOf i).toNat)
  case atStart => exact ⟨0, 0, by omega, rfl, by omega, by omega, rfl, Rd3.refl h⟩
  case round =>
    obtain ⟨X, k, hk, rfl, hX1, hX2, rfl, hr⟩ := hrel
    clear h
    by_cases hlt : k < 8
    · go_wp2_with fail
      refine (next3 hS hr.rd).mono ?_
      rintro e w2 ⟨⟨d, hd, rfl⟩, hr2⟩
      have hbw := bounds_u64 (wf_bits .or .u64 (IntKind.u64.wrap (X * 256)) (d : Int))
      go_wp2_with fail
      go_roundw
      case rel => exact ⟨_, k + 1, by omega, rfl, hbw.1, by omega, by go_num, hr.trans hr2⟩
      case measure => simp [nextIntOf]; omega
    · go_wp2_with fail
      go_ret
      exact ⟨⟨X, hX1, hX2, rfl⟩, hr⟩

theorem RD.lt {w0 : World} {a : Option Addr} {len cap g : Nat} {W : World} (h : RD w0 a len cap g W) : g < W.heap.size := by
  obtain ⟨_, _, p, _, hh⟩ := h
  rcases Nat.lt_or_ge g W.heap.size with h' | h'
  · exact h'
  · rw [Array.getElem?_eq_none h'] at hh; cases hh
theorem RD.alloc {w0 : World} {a : Option Addr} {len cap g : Nat} {W : World} (h : RD w0 a len cap g W) (o : Obj) : RD w0 a len cap g (W.alloc o) := by
  have hl := h.lt
  obtain ⟨hb, hg, p, hp, hh⟩ := h
  exact ⟨hb.alloc hb.size o, hg, p, hp, (Below.heap_alloc W o g hl).trans hh⟩
theorem Rd3.alloc {w0 : World} {a : Option Addr} {len cap g : Nat} {W w1 : World} (h : Rd3 w0 a len cap g W w1) (o : Obj) : Rd3 w0 a len cap g W (w1.alloc o) :=
  ⟨h.rd.alloc o, h.grown.trans (World.grownBy_alloc w1 o _)⟩
theorem Rd3.drew {w0 : World} {a : Option Addr} {len cap g : Nat} {W w1 : World} (h : Rd3 w0 a len cap g W w1) : Rd3 w0 a len cap g W w1.drew :=
  ⟨h.rd.drew, h.grown.trans ⟨rfl, rfl, rfl, Nat.le_refl _, fun _ _ _ => rfl⟩⟩
end Go.Proofs.Ytpeddaljgmkomaa

/-!   The reader of drawn bytes: what 'bytes' answers: some bytes, at most so many. -/
namespace Go.Proofs.Ytpeddaljgmkomaa
open Go.RowKit

theorem Rd3.app {w0 : World} {a : Option Addr} {len cap g : Nat} {W w1 w2 : World} (h : Rd3 w0 a len cap g W w1) {row : Option Nat} (hg : w1.grownBy w2 row) (hgW : g < W.heap.size)
    (hr : ∀ j, row = some j → W.heap.size ≤ j) : Rd3 w0 a len cap g W w2 := by
  have hl := h.rd.lt
  obtain ⟨⟨hb, hgn, p, hp, hh⟩, hgr⟩ := h
  refine ⟨⟨hb.grown hg hb.size (fun k hk => ?_), hgn, p, hp, ?_⟩, hgr.andThen hg (fun j hj => Or.inl (hr j hj))⟩
  · have := hr k hk; omega
  · rw [hg.block g hl (fun e => by have := hr g e.symm; omega)]; exact hh
theorem snoc_x {acc : List UInt8} {x : Int} (h0 : 0 ≤ x) (h1 : x < 256) : Lib.byteCells acc ++ [Value.int .u8 x] = Lib.byteCells (acc ++ [UInt8.ofNat x.toNat]) := by
  obtain ⟨m, rfl⟩ := Int.eq_ofNat_of_zero_le h0
  rw [Lib.byteCells_append]
  have : (((UInt8.ofNat (m : Int).toNat).toNat : Nat) : Int) = (m : Int) := by
    rw [UInt8.toNat_ofNat']; omega
  simp only [Lib.byteCells, List.map_cons, List.map_nil, this]

set_option maxRecDepth 100000 in
set_option maxHeartbeats 2000000 in
theorem bytes_any {w0 : World} {a : Option Addr} {len cap g : Nat} {W : World} (hS : Src w0 a len) (h : RD w0 a len cap g W) (n : Int) (h0 : 0 ≤ n) (h1 : n ≤ 1000) :
    Calls Try.prog 90 #[.pointer (some ⟨g, 0, none⟩), .int .i64 n] W fun e w' => (∃ l : List UInt8, (l.length : Int) ≤ n ∧ e = .returned (.string ⟨l.toArray⟩)) ∧ Rd3 w0 a len cap g W w' := by
  obtain ⟨i0, hi, hz0, hz1, hz2⟩ := info_parts Try.inf5b
  have hgW := h.lt
  go_enter Try.func90, Try.ntmps90
  go_wp2_with fail
  have hown0 := World.ownsRow_made (e := 5) (size := 1) W #[] 0 (Nat.le_refl _) (by unfold maxLen; omega) rfl
  have hneg : ∀ {v : Value} {k : Nat} {xs : List Value} {w : World}, w.ownsRow W.heap.size 5 1 v k xs → v.ownBlock ≠ some g := by
    intro v k xs w ho e
    have := (ho.lt g e).1
    omega
  refine (below_any hS (h.alloc _) (n + 1) (by omega) (by omega)).mono ?_
  rintro e w1 ⟨⟨y, hy1, hy2, rfl⟩, hr⟩
  have hr1 : Rd3 w0 a len cap g W w1 := ((Rd3.refl h).alloc _).trans hr
  have hown1 := hown0.kept hr.grown (Or.inr (hneg hown0))
  clear hown0 hr h
  obtain ⟨m, rfl⟩ := Int.eq_ofNat_of_zero_le hy1
  have HN : Hid (∀ {v : Value} {k : Nat} {xs : List Value} {w : World}, w.ownsRow W.heap.size 5 1 v k xs → v.ownBlock ≠ some g) := hneg
  clear hneg
  go_wp2_with fail
  go_loopw [5, 6] (fun v i wr => ∃ (j : Nat) (acc : List UInt8), i = .int .i64 j ∧ (acc.length : Int) + j ≤ n ∧ wr.ownsRow W.heap.size 5 1 v acc.length (Lib.byteCells acc) ∧ Rd3 w0 a len cap g W wr)
    (fun _ i _ => (nextIntOf i).toNat)
  case atStart => exact ⟨m, [], rfl, by simp; omega, hown1, hr1⟩
  case round =>
    obtain ⟨j, acc, rfl, hj, hown, hr⟩ := hrel
    clear hown1 hr1
    by_cases hlt : 0 < j
    · go_wp2_with fail
      refine (below_any hS hr.rd 256 (by omega) (by omega)).mono ?_
      rintro e w2 ⟨⟨x, hx1, hx2, rfl⟩, hr2⟩
      have hown2 := hown.kept hr2.grown (Or.inr (HN.out hown))
      have hr3 := hr.trans hr2
      have hsz := hr3.grown.size
      clear hown hr2 hr
      go_wp2_with (at_builtin; refine wpList_append_own _ rfl _ _ 39 rfl W.heap.size 5 i0 (.int .u8 0) 1 1 Try.underlying39 hi hz0 hz1 hz2 rfl (by decide) _ _ _ rfl (hown2.alloc _) ⟨w2.heap.size, 0, none⟩ 1 1 [_] rfl rfl (cell_one_new _ _ _) ?c2 ?c3 ?c4 ?c5 ?_)
      case c2 => intro u hu; simp at hu; subst hu; rfl
      case c3 => unfold maxLen; omega
      case c4 => omega
      case c5 => simp; omega
      intro v' w3 hown' hgrow _
      rw [snoc_x hx1 hx2] at hown'
      have hr4 := (hr3.alloc _).app hgrow hgW (fun k hk => (hown2.lt k hk).1)
      have H1 : Hid (w3.ownsRow W.heap.size 5 1 v' _ _ ∧ Rd3 w0 a len cap g W w3) := ⟨hown', hr4⟩
      clear hown' hr4 hgrow hown2 hr3
      go_wp2_with fail
      go_roundw
      case rel => exact ⟨j - 1, acc ++ [UInt8.ofNat x.toNat], by go_num, by rw [List.length_append, List.length_singleton]; omega, by simpa using H1.out.1, H1.out.2⟩
      case measure => simp [nextIntOf]; omega
    · have hcv := conv_bytes hown
      go_wp2_with fail
      go_ret
      exact ⟨⟨acc, by omega, rfl⟩, hr⟩
end Go.Proofs.Ytpeddaljgmkomaa
