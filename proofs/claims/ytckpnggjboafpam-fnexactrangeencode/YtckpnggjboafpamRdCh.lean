/-
  A list of choices that came in as an argument, read as data.
-/
import Derived.Test.YtckpnggjboafpamToCh
import Derived.WalkKit
import Derived.ProofKit
import Derived.OpenShut
import Derived.ShutString
import Derived.ChangeOld
import Derived.Below
import Derived.Lib.SmallJoins
import Derived.Deep.Slices
import Derived.Deep.Strs
namespace Go.Proofs.Ytckpnggjboafpam
open Go.ChangeShapes Go.WideShapes Go.ChangeAt Go.RowKit
open Go.ChangeMaps (open_string shut_string)
open Go.Deep
set_option linter.unusedVariables false
theorem laidOutC : laidOutB Try.prog = true := by kernel_rfl
theorem list2x {α : Type} {cs : List α} (h : cs.length = 2) : ∃ c0 c1, cs = [c0, c1] := by
  match cs, h with
  | [c0, c1], _ => exact ⟨c0, c1, rfl⟩
theorem cell_ltC {w : World} {a : Addr} {v : Value} (h : w.cell? a = some v) : a.block < w.heap.size ∧ a.spot = none := by
  unfold World.cell? at h
  split at h
  · rename_i c _ _ he
    refine ⟨(Array.getElem?_eq_some_iff.1 he).1, ?_⟩
    cases hs : a.spot with
    | none => rfl
    | some x => rw [hs] at h; simp at h
  · cases h
theorem read_oneCh {H : Type} {enc : TypeId × Value → H} {W : World} {fuel : Nat} {cs : List Value} {x : DataW H × List MemPlace} (hl : cs.length = 2) (h : DataW.trod enc Try.prog W 0 (fun _ => true) true fuel 53 cs = some x) :
    ∃ t : Int × Int, cs = [.int .i64 t.1, .int .i64 t.2] := by
  obtain ⟨c0, c1, rfl⟩ := list2x hl
  obtain ⟨y0, y1, n, _, _, t0, t1⟩ := trod_struct2 Try.underlying53 h
  have cI : Try.prog.cellsOf 2 = 1 := by kernel_rfl
  obtain ⟨k, e0, _⟩ := DataW.trod_int Try.underlying2 t0
  obtain ⟨b, e1, _⟩ := DataW.trod_int Try.underlying2 t1
  rw [cI] at e0 e1
  simp at e0 e1
  exact ⟨⟨k, b⟩, by rw [e0, e1]⟩
set_option maxRecDepth 100000 in
theorem read_inCh {H : Type} {enc : TypeId × Value → H} {W : World} {v : Value} {d : DataW H} {ps : List MemPlace} (h0 : DataW.Trod enc Try.prog W 0 (fun _ => true) true 22 v d ps) (ho : Value.okWide Try.prog W .any 0 22 v) :
    ∃ n F, n ≤ maxLen ∧ ChIn W v n F := by
  obtain ⟨a, n, c, rfl⟩ := okWide_slice Try.underlying22 ho
  obtain ⟨fuel, hf⟩ := h0
  have hf' : DataW.trod enc Try.prog W 0 (fun _ => true) true fuel 22 [.slice a n c] = some (d, ps) := by simpa [Value.cells] using hf
  rcases open_slice Try.underlying22 hf' with ⟨h, _⟩ | ⟨a', len, cap, m, nn, D, Pl, hcs, _, hlc, hcm, hmm, _, hx⟩
  · injection h with h _
    injection h with h1 h2 h3
    subst h1 h2 h3
    exact ⟨0, fun _ => ⟨0, 0⟩, Nat.zero_le _, ⟨_, _, rfl, fun h => absurd h (by omega)⟩⟩
  · injection hcs with hcs _
    injection hcs with h1 h2 h3
    subst h1 h2 h3
    have c2 : Try.prog.cellsOf 53 = 2 := by kernel_rfl
    have hnm : n ≤ m := by rw [hmm]; split <;> omega
    have each : ∀ i, i < n → ∃ t : Int × Int, W.cell? (a'.add (i * 2)) = some (.int .i64 t.1) ∧ W.cell? (a'.add (i * 2 + 1)) = some (.int .i64 t.2) := by
      intro i hi
      obtain ⟨cs', h1, h2⟩ := hx i (by omega)
      rw [c2] at h1
      obtain ⟨_, hlen, hcell⟩ := World.cells?_some h1
      obtain ⟨t, rfl⟩ := read_oneCh hlen h2
      have e0 := hcell 0 (by omega)
      have e1 := hcell 1 (by omega)
      rw [add_add] at e0 e1
      exact ⟨t, e0, e1⟩
    obtain ⟨F, hF⟩ : ∃ F : Nat → Int × Int, ∀ i, i < n → W.cell? (a'.add (i * 2)) = some (.int .i64 (F i).1) ∧ W.cell? (a'.add (i * 2 + 1)) = some (.int .i64 (F i).2) :=
      ⟨fun i => if h : i < n then Classical.choose (each i h) else ⟨0, 0⟩, fun i hi => by
        have := Classical.choose_spec (each i hi)
        simp only [dif_pos hi]
        exact this⟩
    refine ⟨n, F, Nat.le_trans hlc hcm, ⟨_, _, rfl, fun h0 => ?_⟩⟩
    obtain ⟨t0, hc0, _⟩ := each 0 h0
    have ha0 : a'.add (0 * 2) = a' := by simp [Addr.add]
    rw [ha0] at hc0
    obtain ⟨g, off, spot⟩ := a'
    obtain ⟨hlt, hsp⟩ := cell_ltC hc0
    have hsp : spot = none := hsp
    subst hsp
    refine ⟨g, off, rfl, hlt, fun i hi => ?_⟩
    have := hF i hi
    simp only [add_plain, ← Nat.add_assoc] at this
    exact this
end Go.Proofs.Ytckpnggjboafpam
