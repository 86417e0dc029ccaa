/-
  slices.Sort of texts: a row of its own, in order.
-/
import Derived.Test.YtbmcjoaigajjkaaDoorChgM
import Derived.Test.YtbmcjoaigajjkaaDoorToStO
import Derived.Test.YtbmcjoaigajjkaaDoorShelfS
import Derived.Sort.OwnSorted
namespace Go.Proofs.YtbmcjoaigajjkaaDoor
open Go.RowKit
set_option linter.unusedVariables false
set_option linter.unusedSimpArgs false
theorem enc_tL (L : List ByteArray) : (L.map tL).map encStr = stC L := by
  unfold stC
  rw [List.map_map]
  exact List.map_congr_left fun s _ => congrArg Value.string (oL_tL s)
theorem enc_srt (L : List ByteArray) : ((L.map tL).mergeSort fun x y => decide (x ≤ y)).map encStr = stC (srt L) := by
  unfold stC srt
  rw [List.map_map]
  exact List.map_congr_left fun s _ => rfl
set_option maxRecDepth 100000 in
theorem srt_any (v : Value) (L : List ByteArray) (B : Nat) (w : World) (hL : L.length ≤ 80) (h : w.ownsRow B 9 1 v L.length (stC L)) :
    Calls Tryd.prog 26 #[v] w fun e w' => e = .returned (.tuple #[]) ∧ w'.ownsRow B 9 1 v L.length (stC (srt L)) ∧ (∀ B0 w0, B0 ≤ B → Below B0 w0 w → Below B0 w0 w') := by
  have hrow := h
  rcases h.2 with ⟨rfl, h0⟩ | ⟨g, cap, cur, rfl, hbase, hb, h1, h2, h3, h4⟩
  · have e : L = [] := List.length_eq_zero_iff.1 h0
    subst e
    have hc := AnyM.slices_Sort_string_none Tryd.sortSt none 0 w
    change Calls Tryd.prog 26 _ _ _ at hc
    refine hc.mono ?_
    rintro e w' ⟨rfl, rfl⟩
    exact ⟨rfl, by rw [show srt [] = [] from by simp [srt]]; exact hrow, fun B0 w0 _ hb => hb⟩
  · have hlen : (L.map tL).length = L.length := List.length_map ..
    have h4' : cur.toList.take (L.map tL).length = (L.map tL).map encStr := by rw [hlen, enc_tL]; simpa using h4
    have hg := (Array.getElem?_eq_some_iff.1 hb).1
    have hc := AnyM.slices_Sort_string Tryd.sortSt g 0 cap (L.map tL) w (holds_of_block hb h4') hg (by omega)
    rw [hlen] at hc
    change Calls Tryd.prog 26 _ _ _ at hc
    refine hc.mono ?_
    rintro e w' ⟨rfl, n, os, rfl⟩
    refine ⟨rfl, ?_, fun B0 w0 hB0 hbl => ?_⟩
    · have ho := ownsRow_sorted (w := w) (n := n) (os := os) (ss := L.map tL) (ts := (L.map tL).mergeSort fun x y => decide (x ≤ y)) (List.length_mergeSort ..) hbase hb (by omega) h2 h3
      rw [enc_srt, hlen] at ho
      exact ho
    · exact hbl.grown (grownBy_sorted _) (Nat.le_of_lt (Nat.lt_of_le_of_lt (Nat.le_trans hB0 hbase) hg)) (fun k hk => by have := Option.some.inj hk; omega)
end Go.Proofs.YtbmcjoaigajjkaaDoor
