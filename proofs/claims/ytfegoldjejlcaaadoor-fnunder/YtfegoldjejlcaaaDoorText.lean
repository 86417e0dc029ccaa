/-
  The reader of drawn bytes: what 'text' answers: some short text; and how it is opened.
-/
import Derived.Test.YtfegoldjejlcaaaDoorBytes
namespace Go.Proofs.YtfegoldjejlcaaaDoor
open Go.RowKit

set_option maxRecDepth 100000 in
set_option maxHeartbeats 2000000 in
theorem text_any {w0 : World} {a : Option Addr} {len cap g : Nat} {W : World} (hS : Src w0 a len) (h : RD w0 a len cap g W) :
    Calls Tryd.prog 108 #[.pointer (some ⟨g, 0, none⟩)] W fun e w' => (∃ s : ByteArray, s.size ≤ 20 ∧ e = .returned (.string s)) ∧ Rd3 w0 a len cap g W w' := by
  have hne : W.heap.size ≠ g := by have := h.lt; omega
  go_enter Tryd.func108, Tryd.ntmps108
  go_wp2_with fail
  refine (below_any hS (h.alloc _) 13 (by omega) (by omega)).mono ?_
  rintro e w2 ⟨⟨y, hy1, hy2, rfl⟩, hr2⟩
  obtain ⟨n, rfl⟩ := Int.eq_ofNat_of_zero_le hy1
  have hc := fun (j : Nat) (v : Value) (hj : _) => hr2.grown.cell (a := ⟨W.heap.size, j, none⟩) (v := v) ((World.cell?_alloc_mark W _ _ _ j).trans hj) (by simpa using hne)
  obtain ⟨s, hs, hsz⟩ : ∃ s : ByteArray, w2.cell? ⟨W.heap.size, n, none⟩ = some (.string s) ∧ s.size ≤ 20 := by
    have hn : n < 13 := by omega
    clear hy1 hy2 hr2 h
    match n, hn with
    | 0, _ => exact ⟨_, hc 0 _ rfl, by decide⟩
    | 1, _ => exact ⟨_, hc 1 _ rfl, by decide⟩
    | 2, _ => exact ⟨_, hc 2 _ rfl, by decide⟩
    | 3, _ => exact ⟨_, hc 3 _ rfl, by decide⟩
    | 4, _ => exact ⟨_, hc 4 _ rfl, by decide⟩
    | 5, _ => exact ⟨_, hc 5 _ rfl, by decide⟩
    | 6, _ => exact ⟨_, hc 6 _ rfl, by decide⟩
    | 7, _ => exact ⟨_, hc 7 _ rfl, by decide⟩
    | 8, _ => exact ⟨_, hc 8 _ rfl, by decide⟩
    | 9, _ => exact ⟨_, hc 9 _ rfl, by decide⟩
    | 10, _ => exact ⟨_, hc 10 _ rfl, by decide⟩
    | 11, _ => exact ⟨_, hc 11 _ rfl, by decide⟩
    | 12, _ => exact ⟨_, hc 12 _ rfl, by decide⟩
  have hr3 : Rd3 w0 a len cap g W w2 := ((Rd3.refl h).alloc _).trans hr2
  clear hc hr2
  go_wp2_with fail
  go_ret
  exact ⟨⟨s, hsz, rfl⟩, hr3⟩

set_option maxRecDepth 100000 in
theorem open_any {w0 : World} {a : Option Addr} {len cap : Nat} {W : World} (hb : Below w0.heap.size w0 W) :
    Calls Tryd.prog 52 #[.slice a len cap] W fun e w' => e = .returned (.pointer (some ⟨W.heap.size, 0, none⟩)) ∧ RD w0 a len cap W.heap.size w' ∧ W.grownBy w' none := by
  go_enter Tryd.func52, Tryd.ntmps52
  go_wp2_with fail
  go_ret
  exact ⟨rfl, ⟨hb.alloc hb.size _, hb.size, 0, by omega, MapKept.heap_alloc W _ |>.1⟩, World.grownBy_alloc _ _ _⟩
end Go.Proofs.YtfegoldjejlcaaaDoor
