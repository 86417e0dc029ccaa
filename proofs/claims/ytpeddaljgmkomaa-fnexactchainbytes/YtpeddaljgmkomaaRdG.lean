/-
  A list that came in as an argument, or lies in one, read as a deep value.
-/
import Derived.Test.YtpeddaljgmkomaaDp
import Derived.WalkKit
import Derived.ProofKit
import Derived.OpenShut
import Derived.ShutString
import Derived.ChangeOld
import Derived.Below
import Derived.Lib.SmallJoins
import Derived.Deep.Slices
import Derived.Deep.Strs
namespace Go.Proofs.Ytpeddaljgmkomaa
open Go.ChangeShapes Go.WideShapes Go.ChangeAt Go.RowKit
open Go.ChangeMaps (open_string shut_string)
open Go.Deep
set_option linter.unusedVariables false
/-- cells that read as deep values -/
def RdL (W : World) (cs : List Value) (ds : List Dd) : Prop := cs.length = ds.length ∧ ∀ (j : Nat) x, ds[j]? = some x → ∃ u, cs[j]? = some u ∧ Rd W x u
theorem cell_ltG {w : World} {a : Addr} {v : Value} (h : w.cell? a = some v) : a.block < w.heap.size ∧ a.spot = none := by
  unfold World.cell? at h
  split at h
  · rename_i c _ _ he
    refine ⟨(Array.getElem?_eq_some_iff.1 he).1, ?_⟩
    cases hs : a.spot with
    | none => rfl
    | some x => rw [hs] at h; simp at h
  · cases h
theorem rd_list {α : Type} {H : Type} {enc : TypeId × Value → H} {P : Program} {W : World} {t e k e2 fuel : Nat} {cs : List Value} {x : DataW H × List MemPlace} (ht : P.underlying t = some (.slice e)) (hk : P.cellsOf e = k) (h0 : 0 < k) {f : α → List Dd} (hf : ∀ a, (f a).length = k) {Ok : α → Prop}
    (one : ∀ fuel cs x, cs.length = k → DataW.trod enc P W 0 (fun _ => true) true fuel e cs = some x → ∃ a, RdL W cs (f a) ∧ Ok a) (h : DataW.trod enc P W 0 (fun _ => true) true fuel t cs = some x) :
    ∃ (L : List α) (v : Value), cs = [v] ∧ Rd W (.list e2 k (L.flatMap f)) v ∧ L.length ≤ maxLen ∧ ∀ a ∈ L, Ok a := by
  rcases open_slice ht h with ⟨hc, _⟩ | ⟨a', len, cap, m, nn, D, Pl, hcs, _, hlc, hcm, hmm, _, hx⟩
  · exact ⟨[], _, hc, .nil _ _ _ _, Nat.zero_le _, fun a ha => by cases ha⟩
  · have hnm : len ≤ m := by rw [hmm]; split <;> omega
    have each : ∀ i : Fin len, ∃ a : α, (∀ j y, (f a)[j]? = some y → ∃ u, W.cell? (a'.add (i.1 * k + j)) = some u ∧ Rd W y u) ∧ Ok a := by
      intro i
      obtain ⟨cs', h1, h2⟩ := hx i.1 (by omega)
      rw [hk] at h1
      obtain ⟨_, hlen, hcell⟩ := World.cells?_some h1
      obtain ⟨a, ⟨hl, ha⟩, hok⟩ := one _ cs' _ hlen h2
      refine ⟨a, fun j y hy => ?_, hok⟩
      obtain ⟨u, hu, hr⟩ := ha j y hy
      have hj : j < k := by rw [← hlen]; exact (List.getElem?_eq_some_iff.1 hu).1
      have e0 := hcell j hj
      rw [add_add, hu] at e0
      exact ⟨u, e0, hr⟩
    refine ⟨List.ofFn fun i => Classical.choose (each i), _, hcs, ?_, by simp; omega, fun a ha => ?_⟩
    · by_cases hz : len = 0
      · subst hz
        exact .nil _ _ _ _
      have hL : ∀ i (hi : i < len), (List.ofFn fun i => Classical.choose (each i))[i]? = some (Classical.choose (each ⟨i, hi⟩)) := fun i hi => by
        rw [List.getElem?_ofFn, dif_pos hi]
      have hll := fm_len hf (List.ofFn fun i => Classical.choose (each i))
      rw [List.length_ofFn] at hll
      have hall : ∀ t y, ((List.ofFn fun i => Classical.choose (each i)).flatMap f)[t]? = some y → ∃ u, W.cell? (a'.add t) = some u ∧ Rd W y u :=
        fm_in h0 hf (P := fun t y => ∃ u, W.cell? (a'.add t) = some u ∧ Rd W y u) _ fun i a hi j y hy => by
          have hi2 := (List.getElem?_eq_some_iff.1 hi).1
          rw [List.length_ofFn] at hi2
          rw [hL i hi2] at hi
          injection hi with hi
          subst hi
          have := (Classical.choose_spec (each ⟨i, hi2⟩)).1 j y hy
          rw [Nat.mul_comm k i]
          exact this
      have h00 : 0 < ((List.ofFn fun i => Classical.choose (each i)).flatMap f).length := by rw [hll]; exact Nat.mul_pos h0 (by omega)
      obtain ⟨u0, hu0, _⟩ := hall 0 _ (List.getElem?_eq_getElem h00)
      have ha0 : a'.add 0 = a' := by simp [Addr.add]
      rw [ha0] at hu0
      obtain ⟨g, off, spot⟩ := a'
      obtain ⟨hlt, hsp⟩ := cell_ltG hu0
      have hsp : spot = none := hsp
      subst hsp
      have hall2 : ∀ t y, ((List.ofFn fun i => Classical.choose (each i)).flatMap f)[t]? = some y → ∃ u, W.cell? ⟨g, off + t, none⟩ = some u ∧ Rd W y u := fun t y hy => by
        have := hall t y hy
        simp only [add_plain] at this
        exact this
      refine .list _ _ len cap g off _ (fun t => (W.cell? ⟨g, off + t, none⟩).getD (.bool false)) (by omega) hll hlt (fun t ht => ?_) fun t y hy => ?_
      · obtain ⟨u, hu, _⟩ := hall2 t _ (List.getElem?_eq_getElem ht)
        show _ = some ((W.cell? _).getD _)
        rw [hu]; rfl
      · obtain ⟨u, hu, hr⟩ := hall2 t y hy
        show Rd W y ((W.cell? _).getD _)
        rw [hu]; exact hr
    · obtain ⟨i, rfl⟩ := (List.mem_ofFn).1 ha
      exact (Classical.choose_spec (each i)).2
end Go.Proofs.Ytpeddaljgmkomaa
