/-
  The text of tokens: the code's.
-/
import Derived.Test.YtibciflmalfbjaaUnW
namespace Go.Proofs.Ytibciflmalfbjaa
open Go.RowKit
set_option linter.unusedVariables false
set_option linter.unusedSimpArgs false

/-- a slice of tokens, laid or made -/
structure TkRow (w : World) (g n : Nat) (F : Nat → TkI) : Prop where
  lt : g < w.heap.size
  c0 : ∀ i, i < n → w.cell? ⟨g, 4 * i, none⟩ = some (.int .i64 (F i).k)
  c1 : ∀ i, i < n → w.cell? ⟨g, 4 * i + 1, none⟩ = some (.int .i64 (F i).b)
  c2 : ∀ i, i < n → w.cell? ⟨g, 4 * i + 2, none⟩ = some (.int .i64 (F i).d)
  c3 : ∀ i, i < n → w.cell? ⟨g, 4 * i + 3, none⟩ = some (.int .i64 (F i).l)
theorem TkRow.below {w w' : World} {g n B : Nat} {F : Nat → TkI} (h : TkRow w g n F) (hb : Below B w w') (hg : g < B) : TkRow w' g n F :=
  ⟨Nat.lt_of_lt_of_le h.lt hb.size, fun i hi => (hb.cell hg).trans (h.c0 i hi), fun i hi => (hb.cell hg).trans (h.c1 i hi), fun i hi => (hb.cell hg).trans (h.c2 i hi), fun i hi => (hb.cell hg).trans (h.c3 i hi)⟩
def unAns : Option (List Nat) → Value
  | some o => .tuple #[.string (strL o), .bool true]
  | none => .tuple #[.string ⟨#[]⟩, .bool false]
/-- the code's, at whatever slice of tokens -/
def TkArg (w : World) (v : Value) (n : Nat) (F : Nat → TkI) : Prop := ∃ a c, v = .slice a n c ∧ (0 < n → ∃ g, a = some ⟨g, 0, none⟩ ∧ TkRow w g n F)
theorem TkArg.below {w w' : World} {v : Value} {n : Nat} {F : Nat → TkI} (h : TkArg w v n F) (hb : Below w.heap.size w w') : TkArg w' v n F := by
  obtain ⟨a, c, h1, h2⟩ := h
  exact ⟨a, c, h1, fun h0 => by obtain ⟨g, h3, h4⟩ := h2 h0; exact ⟨g, h3, h4.below hb h4.lt⟩⟩
noncomputable def unOf (F : Nat → TkI) (n : Nat) : Option (List Nat) := if n ≤ 4000 then unPre F n else none
end Go.Proofs.Ytibciflmalfbjaa
