/-
  Several texts of this seat as one: FlR, DqR.
-/
import Derived.Test.YtanlggglbpibfaaFlA
import Derived.WalkKit
import Derived.ProofKit
import Derived.OpenShut
import Derived.ShutString
import Derived.ChangeOld
import Derived.Below
import Derived.Lib.SmallJoins
import Derived.Deep.Slices
import Derived.Deep.Strs
import Derived.Test.YtanlggglbpibfaaDqA

/-!   A list of structs File that came in as an argument, read as data. -/
namespace Go.Proofs.Ytanlggglbpibfaa
open Go.ChangeShapes Go.WideShapes Go.ChangeAt Go.RowKit
open Go.ChangeMaps (open_string shut_string)
open Go.Deep
set_option linter.unusedVariables false
theorem laidOutFl : laidOutB Try.prog = true := by kernel_rfl
theorem listFl {α : Type} {cs : List α} (h : cs.length = 2) : ∃ k0 k1, cs = [k0, k1] := by
  match cs, h with
  | [k0, k1], _ => exact ⟨k0, k1, rfl⟩
theorem cell_ltFl {w : World} {a : Addr} {v : Value} (h : w.cell? a = some v) : a.block < w.heap.size ∧ a.spot = none := by
  unfold World.cell? at h
  split at h
  · rename_i c _ _ he
    refine ⟨(Array.getElem?_eq_some_iff.1 he).1, ?_⟩
    cases hs : a.spot with
    | none => rfl
    | some x => rw [hs] at h; simp at h
  · cases h
set_option maxRecDepth 100000 in
theorem read_oneFl {H : Type} {enc : TypeId × Value → H} {W : World} {fuel : Nat} {cs : List Value} {x : DataW H × List MemPlace} (hl : cs.length = 2) (h : DataW.trod enc Try.prog W 0 (fun _ => true) true fuel 133 cs = some x) :
    ∃ t : FlI, cs = [.string t.a, .string t.d] ∧ t.a.size ≤ maxLen ∧ t.d.size ≤ maxLen := by
  obtain ⟨k0, k1, rfl⟩ := listFl hl
  obtain ⟨y0, y1, n, _, _, t0, t1⟩ := trod_struct2 Try.underlying133 h
  have cS : Try.prog.cellsOf 9 = 1 := by kernel_rfl
  obtain ⟨b0, e0, _, z0⟩ := DataW.trod_string Try.underlying9 t0
  obtain ⟨b1, e1, _, z1⟩ := DataW.trod_string Try.underlying9 t1
  rw [cS] at e0
  rw [cS] at e1
  simp at e0 e1
  exact ⟨⟨b0, b1⟩, by rw [e0, e1], z0, z1⟩
set_option maxRecDepth 100000 in
theorem read_slFl {H : Type} {enc : TypeId × Value → H} {W : World} {a : Option Addr} {n c : Nat} {d : DataW H} {ps : List MemPlace} (h0 : DataW.Trod enc Try.prog W 0 (fun _ => true) true 47 (.slice a n c) d ps) :
    ∃ F, n ≤ maxLen ∧ (∀ i, i < n → (F i).a.size ≤ maxLen ∧ (F i).d.size ≤ maxLen) ∧ FlIn W (.slice a n c) n F := by
  obtain ⟨fuel, hf⟩ := h0
  have hf' : DataW.trod enc Try.prog W 0 (fun _ => true) true fuel 47 [.slice a n c] = some (d, ps) := by simpa [Value.cells] using hf
  rcases open_slice Try.underlying47 hf' with ⟨h, _⟩ | ⟨a', len, cap, m, nn, D, Pl, hcs, _, hlc, hcm, hmm, _, hx⟩
  · injection h with h _
    injection h with h1 h2 h3
    subst h1 h2 h3
    exact ⟨fun _ => ⟨⟨#[]⟩, ⟨#[]⟩⟩, Nat.zero_le _, fun i hi => absurd hi (by omega), ⟨_, _, rfl, fun h => absurd h (by omega)⟩⟩
  · injection hcs with hcs _
    injection hcs with h1 h2 h3
    subst h1 h2 h3
    have c3 : Try.prog.cellsOf 133 = 2 := by kernel_rfl
    have hnm : n ≤ m := by rw [hmm]; split <;> omega
    have each : ∀ i, i < n → ∃ t : FlI, (W.cell? (a'.add (i * 2)) = some (.string t.a) ∧ W.cell? (a'.add (i * 2 + 1)) = some (.string t.d)) ∧ (t.a.size ≤ maxLen ∧ t.d.size ≤ maxLen) := by
      intro i hi
      obtain ⟨cs', h1, h2⟩ := hx i (by omega)
      rw [c3] at h1
      obtain ⟨_, hlen, hcell⟩ := World.cells?_some h1
      obtain ⟨t, rfl, hz⟩ := read_oneFl hlen h2
      have e0 := hcell 0 (by omega)
      have e1 := hcell 1 (by omega)
      rw [add_add] at e0 e1
      exact ⟨t, ⟨e0, e1⟩, hz⟩
    obtain ⟨F, hF⟩ : ∃ F : Nat → FlI, ∀ i, i < n → (W.cell? (a'.add (i * 2)) = some (.string (F i).a) ∧ W.cell? (a'.add (i * 2 + 1)) = some (.string (F i).d)) ∧ ((F i).a.size ≤ maxLen ∧ (F i).d.size ≤ maxLen) :=
      ⟨fun i => if h : i < n then Classical.choose (each i h) else ⟨⟨#[]⟩, ⟨#[]⟩⟩, fun i hi => by
        have := Classical.choose_spec (each i hi)
        simp only [dif_pos hi]
        exact this⟩
    refine ⟨F, Nat.le_trans hlc hcm, fun i hi => (hF i hi).2, ⟨_, _, rfl, fun h0 => ?_⟩⟩
    obtain ⟨t0, ⟨hc0, _⟩, _⟩ := each 0 h0
    have ha0 : a'.add (0 * 2) = a' := by simp [Addr.add]
    rw [ha0] at hc0
    obtain ⟨g, off, spot⟩ := a'
    obtain ⟨hlt, hsp⟩ := cell_ltFl hc0
    have hsp : spot = none := hsp
    subst hsp
    refine ⟨g, off, rfl, hlt, fun i hi => ?_⟩
    have := (hF i hi).1
    simp only [add_plain, ← Nat.add_assoc] at this
    exact this
end Go.Proofs.Ytanlggglbpibfaa

/-!   A list of structs DOp that came in as an argument, read as data. -/
namespace Go.Proofs.Ytanlggglbpibfaa
open Go.ChangeShapes Go.WideShapes Go.ChangeAt Go.RowKit
open Go.ChangeMaps (open_string shut_string)
open Go.Deep
set_option linter.unusedVariables false
theorem laidOutDq : laidOutB Try.prog = true := by kernel_rfl
theorem listDq {α : Type} {cs : List α} (h : cs.length = 4) : ∃ k0 k1 k2 k3, cs = [k0, k1, k2, k3] := by
  match cs, h with
  | [k0, k1, k2, k3], _ => exact ⟨k0, k1, k2, k3, rfl⟩
theorem cell_ltDq {w : World} {a : Addr} {v : Value} (h : w.cell? a = some v) : a.block < w.heap.size ∧ a.spot = none := by
  unfold World.cell? at h
  split at h
  · rename_i c _ _ he
    refine ⟨(Array.getElem?_eq_some_iff.1 he).1, ?_⟩
    cases hs : a.spot with
    | none => rfl
    | some x => rw [hs] at h; simp at h
  · cases h
set_option maxRecDepth 100000 in
theorem read_oneDq {H : Type} {enc : TypeId × Value → H} {W : World} {fuel : Nat} {cs : List Value} {x : DataW H × List MemPlace} (hl : cs.length = 4) (h : DataW.trod enc Try.prog W 0 (fun _ => true) true fuel 55 cs = some x) :
    ∃ t : DqI, cs = [.int .i64 t.m, .string t.a, .string t.p, .string t.d] ∧ t.a.size ≤ maxLen ∧ t.p.size ≤ maxLen ∧ t.d.size ≤ maxLen := by
  obtain ⟨k0, k1, k2, k3, rfl⟩ := listDq hl
  obtain ⟨y0, y1, y2, y3, n, _, _, t0, t1, t2, t3⟩ := Go.Joins.trod_struct4 Try.underlying55 h
  have cI : Try.prog.cellsOf 2 = 1 := by kernel_rfl
  have cS : Try.prog.cellsOf 9 = 1 := by kernel_rfl
  obtain ⟨b0, e0, _⟩ := DataW.trod_int Try.underlying2 t0
  obtain ⟨b1, e1, _, z1⟩ := DataW.trod_string Try.underlying9 t1
  obtain ⟨b2, e2, _, z2⟩ := DataW.trod_string Try.underlying9 t2
  obtain ⟨b3, e3, _, z3⟩ := DataW.trod_string Try.underlying9 t3
  rw [cI] at e0
  rw [cS] at e1
  rw [cS] at e2
  rw [cS] at e3
  simp at e0 e1 e2 e3
  exact ⟨⟨b0, b1, b2, b3⟩, by rw [e0, e1, e2, e3], z1, z2, z3⟩
set_option maxRecDepth 100000 in
theorem read_slDq {H : Type} {enc : TypeId × Value → H} {W : World} {a : Option Addr} {n c : Nat} {d : DataW H} {ps : List MemPlace} (h0 : DataW.Trod enc Try.prog W 0 (fun _ => true) true 48 (.slice a n c) d ps) :
    ∃ F, n ≤ maxLen ∧ (∀ i, i < n → (F i).a.size ≤ maxLen ∧ (F i).p.size ≤ maxLen ∧ (F i).d.size ≤ maxLen) ∧ DqIn W (.slice a n c) n F := by
  obtain ⟨fuel, hf⟩ := h0
  have hf' : DataW.trod enc Try.prog W 0 (fun _ => true) true fuel 48 [.slice a n c] = some (d, ps) := by simpa [Value.cells] using hf
  rcases open_slice Try.underlying48 hf' with ⟨h, _⟩ | ⟨a', len, cap, m, nn, D, Pl, hcs, _, hlc, hcm, hmm, _, hx⟩
  · injection h with h _
    injection h with h1 h2 h3
    subst h1 h2 h3
    exact ⟨fun _ => ⟨0, ⟨#[]⟩, ⟨#[]⟩, ⟨#[]⟩⟩, Nat.zero_le _, fun i hi => absurd hi (by omega), ⟨_, _, rfl, fun h => absurd h (by omega)⟩⟩
  · injection hcs with hcs _
    injection hcs with h1 h2 h3
    subst h1 h2 h3
    have c3 : Try.prog.cellsOf 55 = 4 := by kernel_rfl
    have hnm : n ≤ m := by rw [hmm]; split <;> omega
    have each : ∀ i, i < n → ∃ t : DqI, (W.cell? (a'.add (i * 4)) = some (.int .i64 t.m) ∧ W.cell? (a'.add (i * 4 + 1)) = some (.string t.a) ∧ W.cell? (a'.add (i * 4 + 2)) = some (.string t.p) ∧ W.cell? (a'.add (i * 4 + 3)) = some (.string t.d)) ∧ (t.a.size ≤ maxLen ∧ t.p.size ≤ maxLen ∧ t.d.size ≤ maxLen) := by
      intro i hi
      obtain ⟨cs', h1, h2⟩ := hx i (by omega)
      rw [c3] at h1
      obtain ⟨_, hlen, hcell⟩ := World.cells?_some h1
      obtain ⟨t, rfl, hz⟩ := read_oneDq hlen h2
      have e0 := hcell 0 (by omega)
      have e1 := hcell 1 (by omega)
      have e2 := hcell 2 (by omega)
      have e3 := hcell 3 (by omega)
      rw [add_add] at e0 e1 e2 e3
      exact ⟨t, ⟨e0, e1, e2, e3⟩, hz⟩
    obtain ⟨F, hF⟩ : ∃ F : Nat → DqI, ∀ i, i < n → (W.cell? (a'.add (i * 4)) = some (.int .i64 (F i).m) ∧ W.cell? (a'.add (i * 4 + 1)) = some (.string (F i).a) ∧ W.cell? (a'.add (i * 4 + 2)) = some (.string (F i).p) ∧ W.cell? (a'.add (i * 4 + 3)) = some (.string (F i).d)) ∧ ((F i).a.size ≤ maxLen ∧ (F i).p.size ≤ maxLen ∧ (F i).d.size ≤ maxLen) :=
      ⟨fun i => if h : i < n then Classical.choose (each i h) else ⟨0, ⟨#[]⟩, ⟨#[]⟩, ⟨#[]⟩⟩, fun i hi => by
        have := Classical.choose_spec (each i hi)
        simp only [dif_pos hi]
        exact this⟩
    refine ⟨F, Nat.le_trans hlc hcm, fun i hi => (hF i hi).2, ⟨_, _, rfl, fun h0 => ?_⟩⟩
    obtain ⟨t0, ⟨hc0, _⟩, _⟩ := each 0 h0
    have ha0 : a'.add (0 * 4) = a' := by simp [Addr.add]
    rw [ha0] at hc0
    obtain ⟨g, off, spot⟩ := a'
    obtain ⟨hlt, hsp⟩ := cell_ltDq hc0
    have hsp : spot = none := hsp
    subst hsp
    refine ⟨g, off, rfl, hlt, fun i hi => ?_⟩
    have := (hF i hi).1
    simp only [add_plain, ← Nat.add_assoc] at this
    exact this
end Go.Proofs.Ytanlggglbpibfaa
