/-
  The reader of drawn bytes: what 'below', 'once', 'word' answer: some number within its bounds.
-/
import Derived.Test.YtfegoldjejlcaaaDoorNext
import Derived.OpenShut
namespace Go.Proofs.YtfegoldjejlcaaaDoor
open Go.RowKit

/-- what a call of the reader does to memory -/
structure Rd3 (w0 : World) (a : Option Addr) (len cap g : Nat) (W w' : World) : Prop where
  rd : RD w0 a len cap g w'
  grown : W.grownBy w' (some g)
theorem Rd3.trans {w0 : World} {a : Option Addr} {len cap g : Nat} {W w1 w2 : World} (h : Rd3 w0 a len cap g W w1) (k : Rd3 w0 a len cap g w1 w2) : Rd3 w0 a len cap g W w2 :=
  ⟨k.rd, h.grown.trans k.grown⟩
theorem Rd3.refl {w0 : World} {a : Option Addr} {len cap g : Nat} {W : World} (h : RD w0 a len cap g W) : Rd3 w0 a len cap g W W := ⟨h, World.grownBy.refl _ _⟩
theorem next3 {w0 : World} {a : Option Addr} {len cap g : Nat} {W : World} (hS : Src w0 a len) (h : RD w0 a len cap g W) :
    Calls Tryd.prog 87 #[.pointer (some ⟨g, 0, none⟩)] W fun e w' => (∃ c : Nat, c < 256 ∧ e = .returned (.int .i64 (c : Int))) ∧ Rd3 w0 a len cap g W w' :=
  (next_any hS h).mono fun _ _ ⟨h1, h2, h3⟩ => ⟨h1, h2, h3⟩

set_option maxRecDepth 100000 in
set_option maxHeartbeats 1000000 in
theorem below_any {w0 : World} {a : Option Addr} {len cap g : Nat} {W : World} (hS : Src w0 a len) (h : RD w0 a len cap g W) (n : Int) (h1 : 1 ≤ n) (h2 : n ≤ 1099511627776) :
    Calls Tryd.prog 55 #[.pointer (some ⟨g, 0, none⟩), .int .i64 n] W fun e w' => (∃ x : Int, 0 ≤ x ∧ x < n ∧ e = .returned (.int .i64 x)) ∧ Rd3 w0 a len cap g W w' := by
  by_cases hn1 : n ≤ 1
  · go_enter Tryd.func55, Tryd.ntmps55
    go_wp2_with fail
    go_ret
    exact ⟨⟨0, by omega, by omega, rfl⟩, Rd3.refl h⟩
  · by_cases hn2 : n ≤ 256
    · go_enter Tryd.func55, Tryd.ntmps55
      go_wp2_with fail
      refine (next3 hS h).mono ?_
      rintro e w1 ⟨⟨c, hc, rfl⟩, hr⟩
      have hm := Int.emod_nonneg (c : Int) (by omega : n ≠ 0)
      have hm2 := Int.emod_lt_of_pos (c : Int) (by omega : 0 < n)
      go_wp2_with fail
      go_ret
      exact ⟨⟨(c : Int) % n, hm, hm2, rfl⟩, hr⟩
    · go_enter Tryd.func55, Tryd.ntmps55
      go_wp2_with fail
      refine (next3 hS h).mono ?_
      rintro e w1 ⟨⟨c, hc, rfl⟩, hr⟩
      go_wp2_with fail
      refine (next3 hS hr.rd).mono ?_
      rintro e w2 ⟨⟨d, hd, rfl⟩, hr2⟩
      have hm := Int.emod_nonneg ((c : Int) * 256 + d) (by omega : n ≠ 0)
      have hm2 := Int.emod_lt_of_pos ((c : Int) * 256 + d) (by omega : 0 < n)
      go_wp2_with fail
      go_ret
      exact ⟨⟨((c : Int) * 256 + d) % n, hm, hm2, rfl⟩, hr.trans hr2⟩

set_option maxRecDepth 100000 in
theorem once_any {w0 : World} {a : Option Addr} {len cap g : Nat} {W : World} (hS : Src w0 a len) (h : RD w0 a len cap g W) (n : Int) (h1 : 1 ≤ n) (h2 : n ≤ 1099511627776) :
    Calls Tryd.prog 54 #[.pointer (some ⟨g, 0, none⟩), .int .i64 n] W fun e w' => (∃ x : Bool, e = .returned (.bool x)) ∧ Rd3 w0 a len cap g W w' := by
  go_enter Tryd.func54, Tryd.ntmps54
  go_wp2_with fail
  refine (below_any hS h n h1 h2).mono ?_
  rintro e w1 ⟨⟨x, hx1, hx2, rfl⟩, hr⟩
  go_wp2_with fail
  go_ret
  exact ⟨⟨_, rfl⟩, hr⟩

set_option maxRecDepth 100000 in
set_option maxHeartbeats 1000000 in
theorem rword_any {w0 : World} {a : Option Addr} {len cap g : Nat} {W : World} (hS : Src w0 a len) (h : RD w0 a len cap g W) :
    Calls Tryd.prog 135 #[.pointer (some ⟨g, 0, none⟩)] W fun e w' => (∃ x : Int, 0 ≤ x ∧ x < 18446744073709551616 ∧ e = .returned (.int .u64 x)) ∧ Rd3 w0 a len cap g W w' := by
  go_enter Tryd.func135, Tryd.ntmps135
  go_wp2
  go_loopw [3, 4] (fun x i wr => ∃ (X : Int) (k : Nat), k ≤ 8 ∧ x = .int .u64 X ∧ 0 ≤ X ∧ X < 18446744073709551616 ∧ i = .int .i64 k ∧ Rd3 w0 a len cap g W wr) (fun _ i _ => 8 - (nextIntOf i).toNat)
  case atStart => exact ⟨0, 0, by omega, rfl, by omega, by omega, rfl, Rd3.refl h⟩
  case round =>
    obtain ⟨X, k, hk, rfl, hX1, hX2, rfl, hr⟩ := hrel
    clear h
    by_cases hlt : k < 8
    · go_wp2_with fail
      refine (next3 hS hr.rd).mono ?_
      rintro e w2 ⟨⟨d, hd, rfl⟩, hr2⟩
      have hbw := bounds_u64 (wf_bits .or .u64 (IntKind.u64.wrap (X * 256)) (d : Int))
      go_wp2_with fail
      go_roundw
      case rel => exact ⟨_, k + 1, by omega, rfl, hbw.1, by omega, by go_num, hr.trans hr2⟩
      case measure => simp [nextIntOf]; omega
    · go_wp2_with fail
      go_ret
      exact ⟨⟨X, hX1, hX2, rfl⟩, hr⟩

theorem RD.lt {w0 : World} {a : Option Addr} {len cap g : Nat} {W : World} (h : RD w0 a len cap g W) : g < W.heap.size := by
  obtain ⟨_, _, p, _, hh⟩ := h
  rcases Nat.lt_or_ge g W.heap.size with h' | h'
  · exact h'
  · rw [Array.getElem?_eq_none h'] at hh; cases hh
theorem RD.alloc {w0 : World} {a : Option Addr} {len cap g : Nat} {W : World} (h : RD w0 a len cap g W) (o : Obj) : RD w0 a len cap g (W.alloc o) := by
  have hl := h.lt
  obtain ⟨hb, hg, p, hp, hh⟩ := h
  exact ⟨hb.alloc hb.size o, hg, p, hp, (Below.heap_alloc W o g hl).trans hh⟩
theorem Rd3.alloc {w0 : World} {a : Option Addr} {len cap g : Nat} {W w1 : World} (h : Rd3 w0 a len cap g W w1) (o : Obj) : Rd3 w0 a len cap g W (w1.alloc o) :=
  ⟨h.rd.alloc o, h.grown.trans (World.grownBy_alloc w1 o _)⟩
theorem Rd3.drew {w0 : World} {a : Option Addr} {len cap g : Nat} {W w1 : World} (h : Rd3 w0 a len cap g W w1) : Rd3 w0 a len cap g W w1.drew :=
  ⟨h.rd.drew, h.grown.trans ⟨rfl, rfl, rfl, Nat.le_refl _, fun _ _ _ => rfl⟩⟩
end Go.Proofs.YtfegoldjejlcaaaDoor
