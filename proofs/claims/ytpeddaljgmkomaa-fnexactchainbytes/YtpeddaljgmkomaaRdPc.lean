/-
  A list of pieces that came in as an argument, read as data.
-/
import Derived.Test.YtpeddaljgmkomaaToPc
import Derived.WalkKit
import Derived.ProofKit
import Derived.OpenShut
import Derived.ShutString
import Derived.ChangeOld
import Derived.Below
import Derived.Lib.SmallJoins
import Derived.Deep.Slices
import Derived.Deep.Strs
namespace Go.Proofs.Ytpeddaljgmkomaa
open Go.ChangeShapes Go.WideShapes Go.ChangeAt Go.RowKit
open Go.ChangeMaps (open_string shut_string)
open Go.Deep
set_option linter.unusedVariables false
theorem laidOutP : laidOutB Try.prog = true := by kernel_rfl
theorem list3x {α : Type} {cs : List α} (h : cs.length = 3) : ∃ c0 c1 c2, cs = [c0, c1, c2] := by
  match cs, h with
  | [c0, c1, c2], _ => exact ⟨c0, c1, c2, rfl⟩
theorem cell_ltP {w : World} {a : Addr} {v : Value} (h : w.cell? a = some v) : a.block < w.heap.size ∧ a.spot = none := by
  unfold World.cell? at h
  split at h
  · rename_i c _ _ he
    refine ⟨(Array.getElem?_eq_some_iff.1 he).1, ?_⟩
    cases hs : a.spot with
    | none => rfl
    | some x => rw [hs] at h; simp at h
  · cases h
set_option maxRecDepth 100000 in
theorem read_onePc {H : Type} {enc : TypeId × Value → H} {W : World} {fuel : Nat} {cs : List Value} {x : DataW H × List MemPlace} (hl : cs.length = 3) (h : DataW.trod enc Try.prog W 0 (fun _ => true) true fuel 111 cs = some x) :
    ∃ t : PcI, cs = [.int .i64 t.f, .int .i64 t.l, .string t.d] ∧ t.d.size ≤ maxLen := by
  obtain ⟨c0, c1, c2, rfl⟩ := list3x hl
  obtain ⟨y0, y1, y2, n, _, _, t0, t1, t2⟩ := trod_struct3 Try.underlying111 h
  have cI : Try.prog.cellsOf 2 = 1 := by kernel_rfl
  have cS : Try.prog.cellsOf 9 = 1 := by kernel_rfl
  obtain ⟨k, e0, _⟩ := DataW.trod_int Try.underlying2 t0
  obtain ⟨b, e1, _⟩ := DataW.trod_int Try.underlying2 t1
  obtain ⟨dd, e2, _, hz⟩ := DataW.trod_string Try.underlying9 t2
  rw [cI] at e0 e1
  rw [cS] at e2
  simp at e0 e1 e2
  exact ⟨⟨k, b, dd⟩, by rw [e0, e1, e2], hz⟩
set_option maxRecDepth 100000 in
theorem read_inPc {H : Type} {enc : TypeId × Value → H} {W : World} {v : Value} {d : DataW H} {ps : List MemPlace} (h0 : DataW.Trod enc Try.prog W 0 (fun _ => true) true 46 v d ps) (ho : Value.okWide Try.prog W .any 0 46 v) :
    ∃ n F, n ≤ maxLen ∧ (∀ i, i < n → (F i).d.size ≤ maxLen) ∧ PcIn W v n F := by
  obtain ⟨a, n, c, rfl⟩ := okWide_slice Try.underlying46 ho
  obtain ⟨fuel, hf⟩ := h0
  have hf' : DataW.trod enc Try.prog W 0 (fun _ => true) true fuel 46 [.slice a n c] = some (d, ps) := by simpa [Value.cells] using hf
  rcases open_slice Try.underlying46 hf' with ⟨h, _⟩ | ⟨a', len, cap, m, nn, D, Pl, hcs, _, hlc, hcm, hmm, _, hx⟩
  · injection h with h _
    injection h with h1 h2 h3
    subst h1 h2 h3
    exact ⟨0, fun _ => ⟨0, 0, ⟨#[]⟩⟩, Nat.zero_le _, fun i hi => absurd hi (by omega), ⟨_, _, rfl, fun h => absurd h (by omega)⟩⟩
  · injection hcs with hcs _
    injection hcs with h1 h2 h3
    subst h1 h2 h3
    have c3 : Try.prog.cellsOf 111 = 3 := by kernel_rfl
    have hnm : n ≤ m := by rw [hmm]; split <;> omega
    have each : ∀ i, i < n → ∃ t : PcI, (W.cell? (a'.add (i * 3)) = some (.int .i64 t.f) ∧ W.cell? (a'.add (i * 3 + 1)) = some (.int .i64 t.l) ∧ W.cell? (a'.add (i * 3 + 2)) = some (.string t.d)) ∧ t.d.size ≤ maxLen := by
      intro i hi
      obtain ⟨cs', h1, h2⟩ := hx i (by omega)
      rw [c3] at h1
      obtain ⟨_, hlen, hcell⟩ := World.cells?_some h1
      obtain ⟨t, rfl, hz⟩ := read_onePc hlen h2
      have e0 := hcell 0 (by omega)
      have e1 := hcell 1 (by omega)
      have e2 := hcell 2 (by omega)
      rw [add_add] at e0 e1 e2
      exact ⟨t, ⟨e0, e1, e2⟩, hz⟩
    obtain ⟨F, hF⟩ : ∃ F : Nat → PcI, ∀ i, i < n → (W.cell? (a'.add (i * 3)) = some (.int .i64 (F i).f) ∧ W.cell? (a'.add (i * 3 + 1)) = some (.int .i64 (F i).l) ∧ W.cell? (a'.add (i * 3 + 2)) = some (.string (F i).d)) ∧ (F i).d.size ≤ maxLen :=
      ⟨fun i => if h : i < n then Classical.choose (each i h) else ⟨0, 0, ⟨#[]⟩⟩, fun i hi => by
        have := Classical.choose_spec (each i hi)
        simp only [dif_pos hi]
        exact this⟩
    refine ⟨n, F, Nat.le_trans hlc hcm, fun i hi => (hF i hi).2, ⟨_, _, rfl, fun h0 => ?_⟩⟩
    obtain ⟨t0, ⟨hc0, _⟩, _⟩ := each 0 h0
    have ha0 : a'.add (0 * 3) = a' := by simp [Addr.add]
    rw [ha0] at hc0
    obtain ⟨g, off, spot⟩ := a'
    obtain ⟨hlt, hsp⟩ := cell_ltP hc0
    have hsp : spot = none := hsp
    subst hsp
    refine ⟨g, off, rfl, hlt, fun i hi => ?_⟩
    have := (hF i hi).1
    simp only [add_plain, ← Nat.add_assoc] at this
    exact this
theorem szV_le {L x : Nat} (h : x ≤ L) : szV L x = .int .i64 ((L - x : Nat) : Int) := by unfold szV; rw [if_pos h]
theorem szV_no {L x : Nat} (h : ¬ x ≤ L) : szV L x = .int .i64 (-1) := by unfold szV; rw [if_neg h]
end Go.Proofs.Ytpeddaljgmkomaa
