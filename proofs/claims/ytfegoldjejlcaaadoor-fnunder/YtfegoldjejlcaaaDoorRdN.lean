/-
  The readers of numbers and data, without what is read of pieces.
-/
import Derived.Test.YtfegoldjejlcaaaDoorTakeTextc
import Derived.Test.YtfegoldjejlcaaaDoorPost
import Derived.BigQuiet
namespace Go.Proofs.YtfegoldjejlcaaaDoor
open Go.RowKit
set_option linter.unusedVariables false
set_option linter.unusedSimpArgs false
/-- a number that may stand in a text, and where it ends -/
def numI (s : ByteArray) : Option (Nat × ByteArray) := match num s with
  | none => none
  | some (X, u) => if X ≤ 1000000000000 then some (X.toNat, s.extract u s.size) else none
def numIV : Option (Nat × ByteArray) → Value
  | none => .tuple #[.int .i64 0, .string ⟨#[]⟩, .bool false]
  | some (n, r) => .tuple #[.int .i64 (n : Int), .string r, .bool true]
theorem numI_none1 {s : ByteArray} (h : num s = none) : numI s = none := by unfold numI; rw [h]
theorem numI_none2 {s : ByteArray} {X : Int} {u : Nat} (h : num s = some (X, u)) (hx : ¬ X ≤ 1000000000000) : numI s = none := by unfold numI; rw [h]; exact if_neg hx
theorem numI_some {s : ByteArray} {X : Int} {u : Nat} (h : num s = some (X, u)) (hx : X ≤ 1000000000000) : numI s = some (X.toNat, s.extract u s.size) := by unfold numI; rw [h]; exact if_pos hx
theorem num_nn {s : ByteArray} {X : Int} {u : Nat} (h : num s = some (X, u)) : 0 ≤ X := rd_nn _ _ _ _ _ h
theorem numI_bd {s : ByteArray} {n : Nat} {r : ByteArray} (h : numI s = some (n, r)) : n ≤ 1000000000000 ∧ r.size ≤ s.size := by
  unfold numI at h
  cases hn : num s with
  | none => rw [hn] at h; cases h
  | some p =>
    obtain ⟨X, u⟩ := p
    rw [hn] at h
    simp only at h
    split at h
    · simp only [Option.some.injEq, Prod.mk.injEq] at h
      have := num_nn hn
      refine ⟨by omega, ?_⟩
      rw [← h.2, ByteArray.size_extract]; omega
    · cases h
def datI (s : ByteArray) : Option (ByteArray × ByteArray) := match txt s with
  | none => none
  | some (n, u) => some (s.extract u (u + n), s.extract (u + n) s.size)
theorem datI_out (s : ByteArray) : textOut s = (match datI s with | none => .tuple #[.string ⟨#[]⟩, .string ⟨#[]⟩, .bool false] | some (d, r) => .tuple #[.string d, .string r, .bool true]) := by
  unfold textOut datI
  cases txt s with
  | none => rfl
  | some p => obtain ⟨n, u⟩ := p; rfl
theorem datI_bd {s d r : ByteArray} (h : datI s = some (d, r)) : d.size ≤ s.size ∧ r.size ≤ s.size := by
  unfold datI at h
  cases ht : txt s with
  | none => rw [ht] at h; cases h
  | some p =>
    obtain ⟨n, u⟩ := p
    rw [ht] at h
    simp only [Option.some.injEq, Prod.mk.injEq] at h
    rw [← h.1, ← h.2, ByteArray.size_extract, ByteArray.size_extract]; omega
def datIV : Option (ByteArray × ByteArray) → Value
  | none => .tuple #[.string ⟨#[]⟩, .string ⟨#[]⟩, .bool false]
  | some (d, r) => .tuple #[.string d, .string r, .bool true]
theorem datI_numn {s : ByteArray} (h : numI s = none) : datI s = none := by
  unfold datI txt
  cases hn : num s with
  | none => rfl
  | some p =>
    obtain ⟨X, u⟩ := p
    have hx : ¬ X ≤ 1000000000000 := fun c => by rw [numI_some hn c] at h; cases h
    simp only
    rw [if_neg (fun c => hx (by have := c.1; omega))]
theorem datI_numb {s r : ByteArray} {n : Nat} (h : numI s = some (n, r)) (hb : ¬ (n ≤ 100000 ∧ n ≤ r.size)) : datI s = none := by
  unfold datI txt
  cases hn : num s with
  | none => rfl
  | some p =>
    obtain ⟨X, u⟩ := p
    have h0 := num_nn hn
    have hx : X ≤ 1000000000000 := by
      by_cases c : X ≤ 1000000000000
      · exact c
      · rw [numI_none2 hn c] at h; cases h
    rw [numI_some hn hx] at h
    simp only [Option.some.injEq, Prod.mk.injEq] at h
    obtain ⟨rfl, rfl⟩ := h
    simp only
    rw [if_neg (fun c => hb ⟨by have := c.1; omega, by rw [ByteArray.size_extract]; have := c.2; omega⟩)]
theorem datI_num {s r : ByteArray} {n : Nat} (h : numI s = some (n, r)) (h1 : n ≤ 100000) (h2 : n ≤ r.size) : datI s = some (r.extract 0 n, r.extract n r.size) := by
  unfold datI txt
  cases hn : num s with
  | none => rw [numI_none1 hn] at h; cases h
  | some p =>
    obtain ⟨X, u⟩ := p
    have h0 := num_nn hn
    have hu := num_bd hn
    have hx : X ≤ 1000000000000 := by
      by_cases c : X ≤ 1000000000000
      · exact c
      · rw [numI_none2 hn c] at h; cases h
    rw [numI_some hn hx] at h
    simp only [Option.some.injEq, Prod.mk.injEq] at h
    obtain ⟨rfl, rfl⟩ := h
    rw [ByteArray.size_extract] at h2
    simp only
    rw [if_pos ⟨by omega, by omega⟩]
    simp only
    rw [ext_mid _ _ _ (by omega)]
    have e : (s.extract u s.size).size = s.size - u := by rw [ByteArray.size_extract]; omega
    rw [e, ext_tail]
theorem results_cell_2 {P : Program} {fn : Func} {t u p : Tmp} {ty : TypeId} (h : fn.results = #[.cell p ty, .tmp t, .tmp u]) (tmps : Array Value) (w : World) (g : Nat) (t2 : TypeId) (cs : Array Value) (fr : Nat × Nat) (d : TypeDesc)
    (hp : tmps.getD p undef = .pointer (some ⟨g, 0, none⟩)) (hg : w.heap[g]? = some (.cells cs t2 fr))
    (hu : P.underlying ty = some d) (hd : (match d with | .struct _ | .array _ _ => true | _ => false) = true) (hi : (P.info? ty).map (·.size) = some cs.size) :
    (results fn tmps).run P w = .ok (.tuple #[.agg cs, tmps.getD t undef, tmps.getD u undef]) w := by
  have hp' : tmps[p]?.getD undef = .pointer (some ⟨g, 0, none⟩) := by simpa using hp
  simp [results, h, hp', asAddr, run_loadVar_row w g t2 ty cs fr d hg hu hd hi]
end Go.Proofs.YtfegoldjejlcaaaDoor
