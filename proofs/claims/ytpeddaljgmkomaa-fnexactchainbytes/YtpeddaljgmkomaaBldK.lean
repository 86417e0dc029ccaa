/-
  A strings.Builder by its contracts, with what it leaves beside itself.
-/
import Derived.Test.YtpeddaljgmkomaaShelfB
import Derived.Shelf.Strings.BuilderK
import Derived.Below
import Derived.Lib.AppendStr
import Derived.Lib.UnsafeStr
import Derived.Lib.OthersKept
import Derived.Laws.Strings
namespace Go.Proofs.Ytpeddaljgmkomaa
open Go.RowKit
set_option linter.unusedVariables false
/-- a builder that holds a text -/
def BldK (B b : Nat) (s : ByteArray) (w : World) : Prop := Lib.IsBuilderF 99 5 B b (Lib.strCells s) w
theorem bldk_new (w : World) : BldK w.heap.size w.heap.size ⟨#[]⟩ (w.alloc (.cells #[.pointer none, .slice none 0 0] 99)) := Lib.IsBuilderF.of (Lib.fresh_isBuilder 99 5 w)
theorem BldK.call {B b : Nat} {s : ByteArray} {w w' : World} (h : BldK B b s w) (hb : Below w.heap.size w w') : BldK B b s w' := by
  have key : ∀ p, Lib.BuilderAtF 99 5 B b p (Lib.strCells s) w → Lib.BuilderAtF 99 5 B b p (Lib.strCells s) w' := fun p h => by
    have hlt := h.lt
    obtain ⟨h1, v, h2, h3, h4⟩ := h
    refine ⟨h1, v, (hb.block b hlt).trans h2, h3.kept (row := none) ⟨hb.os, hb.tape, hb.output, hb.size, fun k hk _ => hb.block k hk⟩ ?_, h4⟩
    cases hv : v.ownBlock with
    | none => exact Or.inl rfl
    | some g => exact Or.inr (by simp)
  rcases h with h | h
  · exact Or.inl (key _ h)
  · exact Or.inr (key _ h)
theorem BldK.alloc {B b : Nat} {s : ByteArray} {w : World} (h : BldK B b s w) (X : Obj) : BldK B b s (w.alloc X) := h.call ((Below.refl _ _).alloc (Nat.le_refl _) _)
theorem BldK.lt {B b : Nat} {s : ByteArray} {w : World} (h : BldK B b s w) : b < w.heap.size := by
  rcases h with h | h
  · exact Lib.BuilderAtF.lt h
  · exact Lib.BuilderAtF.lt h
theorem strCells_appendK (a b : ByteArray) : Lib.strCells (a ++ b) = Lib.strCells a ++ Lib.strCells b := by
  rw [Lib.strCells_eq, Lib.strCells_eq, Lib.strCells_eq, ← Lib.byteCells_append]; simp
/-- what a write leaves: every block of cells that is neither the builder nor bytes -/
def KeepB (b : Nat) (w w' : World) : Prop := ∀ (k : Nat) (cs : Array Value) (t : TypeId) (m : Nat × Nat), w.heap[k]? = some (.cells cs t m) → k ≠ b → t ≠ 5 → w'.heap[k]? = some (.cells cs t m)
theorem bldk_add (B b : Nat) (a s : ByteArray) (w : World) (h : BldK B b a w) (hlen : a.size + s.size ≤ 140737488355328) (hBw : B ≤ w.heap.size) :
    Calls Try.prog 85 #[.pointer (some ⟨b, 0, none⟩), .string s] w fun e w' => e = .returned (.tuple #[.int .i64 s.size, .nilIface]) ∧ BldK B b (a ++ s) w' ∧ Below B w w' ∧ KeepB b w w' :=
  (Go.Proofs.Any.Builder_WriteString_k Go.Proofs.Try.lays166 Go.Proofs.Try.Builder_Extra_166 B b _ s w h (by rw [Lib.strCells_length]; exact hlen) hBw).mono fun e w' ⟨h1, h2, h3, h4⟩ => ⟨h1, by unfold BldK; rw [strCells_appendK]; exact Or.inr h2, h3, fun k cs t m q1 q2 q3 => h4 k _ q1 (fun e => q2 (Option.some.inj e)) (fun c fz e => q3 (by injection e))⟩
theorem bldk_tell (B b : Nat) (a : ByteArray) (w : World) (h : BldK B b a w) (hBw : B ≤ w.heap.size) :
    Calls Try.prog 88 #[.pointer (some ⟨b, 0, none⟩)] w fun e w' => e = .returned (.string a) ∧ Below B w w' := by
  have h2 := Go.Proofs.Any.Builder_String_any_f Go.Proofs.Try.lays169 Go.Proofs.Try.Builder_Extra_169 B b a.data.toList w h hBw
  have e : (⟨a.data.toList.toArray⟩ : ByteArray) = a := by cases a; rfl
  rw [e] at h2
  exact h2.mono fun e w' h => ⟨h.1, h.2.2⟩
end Go.Proofs.Ytpeddaljgmkomaa
