/-
  How the reader of drawn bytes is opened, and kept behind other calls.
-/
import Derived.Test.YtfegoldjejlcaaaDoorData
import Derived.Deep.RegionWith
namespace Go.Proofs.YtfegoldjejlcaaaDoor
open Go.RowKit

theorem src_of {w : World} {a : Option Addr} {len cap : Nat} {zs : List Int}
    (h : (a = none ∧ len = 0 ∧ cap = 0 ∧ zs = []) ∨ ∃ x : Addr, a = some x ∧ len ≤ cap ∧ cap ≤ maxLen ∧ zs.length = cap ∧ (∀ i, i < zs.length → w.cell? (x.add i) = some (.int .u8 (zs.getD i 0))) ∧ ∀ n ∈ zs, (Lit.int .u8 n).wf = true)
    (hl : len ≤ 1048576) : Src w a len := by
  refine ⟨by omega, ?_⟩
  rcases h with ⟨_, h, _⟩ | ⟨x, rfl, h1, h2, h3, h4, h5⟩
  · exact Or.inl h
  · by_cases h0 : len = 0
    · exact Or.inl h0
    · refine Or.inr ?_
      obtain ⟨b, o, sp⟩ := x
      have hc0 := h4 0 (by omega)
      have hadd : (⟨b, o, sp⟩ : Addr).add 0 = ⟨b, o, sp⟩ := by simp [Addr.add]
      rw [hadd] at hc0
      cases sp with
      | some s =>
        exfalso
        simp only [World.cell?] at hc0
        split at hc0 <;> simp at hc0
      | none =>
        refine ⟨b, o, rfl, block_lt_of_cell hc0, fun i hi => ?_⟩
        have hci := h4 i (by omega)
        have ea : (⟨b, o, none⟩ : Addr).add i = ⟨b, o + i, none⟩ := by
          unfold Addr.add
          by_cases e : i = 0
          · subst e; simp
          · simp [e]
        rw [ea] at hci
        have hm : zs.getD i 0 ∈ zs := by
          rw [List.getD_eq_getElem?_getD, List.getElem?_eq_getElem (by omega)]
          exact List.getElem_mem _
        have hb := bounds_u8 (h5 _ hm)
        refine ⟨(zs.getD i 0).toNat, by omega, ?_⟩
        rw [hci]
        congr 2
        omega

theorem RD.past {w0 : World} {a : Option Addr} {len cap g : Nat} {W W' : World} (h : RD w0 a len cap g W) (hb : Below W.heap.size W W') : RD w0 a len cap g W' := by
  have hl := h.lt
  obtain ⟨h1, h2, p, hp, hh⟩ := h
  exact ⟨h1.trans (hb.mono h1.size), h2, p, hp, by rw [hb.block g hl]; exact hh⟩
theorem six {C : Array Value} {w1 w2 : World} {g : Nat} {t : TypeId} (hg : (w1.alloc (.cells C t)).grownBy w2 (some g)) (hne : w1.heap.size ≠ g) (n : Nat) (v : Value) (hv : C[n]? = some v) :
    w2.cell? ⟨w1.heap.size, n, none⟩ = some v :=
  hg.cell (a := ⟨w1.heap.size, n, none⟩) ((World.cell?_alloc_mark w1 C t _ n).trans hv) (by simpa using hne)

end Go.Proofs.YtfegoldjejlcaaaDoor
