/-
  A strings.Builder by its contracts; what it holds as a text.
-/
import Derived.Test.YtpeddaljgmkomaaShelfB
import Derived.Below
import Derived.Lib.AppendStr
import Derived.Lib.UnsafeStr
import Derived.Laws.Strings
namespace Go.Proofs.Ytpeddaljgmkomaa
open Go.RowKit
set_option linter.unusedVariables false
theorem bld_write (B b : Nat) (bs : List Value) (s : ByteArray) (w : World) (h : Lib.IsBuilder 99 5 B b bs w) (hlen : bs.length + s.size ≤ 140737488355328) (hBw : B ≤ w.heap.size) :
    Calls Try.prog 85 #[.pointer (some ⟨b, 0, none⟩), .string s] w fun e w' => e = .returned (.tuple #[.int .i64 s.size, .nilIface]) ∧ (Lib.BuilderAt 99 5 B b (.pointer (some ⟨b, 0, none⟩)) (bs ++ Lib.strCells s) w' ∧ Below B w w') :=
  Go.Proofs.Any.Builder_WriteString Go.Proofs.Try.lays166 Go.Proofs.Try.Builder_Extra_166 B b bs s w h hlen hBw
theorem bld_string (B b : Nat) (l : List UInt8) (w : World) (h : Lib.IsBuilder 99 5 B b (Lib.byteCells l) w) (hBw : B ≤ w.heap.size) :
    Calls Try.prog 88 #[.pointer (some ⟨b, 0, none⟩)] w fun e w' => e = .returned (.string ⟨l.toArray⟩) ∧ Below B w w' :=
  Go.Proofs.Any.Builder_String_any Go.Proofs.Try.lays169 Go.Proofs.Try.Builder_Extra_169 B b l w h hBw
theorem bld_call {T e : TypeId} {B b : Nat} {bs : List Value} {w w' : World} (h : Lib.IsBuilder T e B b bs w) (hb : Below w.heap.size w w') : Lib.IsBuilder T e B b bs w' := by
  have key : ∀ p, Lib.BuilderAt T e B b p bs w → Lib.BuilderAt T e B b p bs w' := fun p h => by
    have hlt := h.lt
    obtain ⟨h1, v, h2, h3, h4⟩ := h
    refine ⟨h1, v, (hb.block b hlt).trans h2, h3.kept (row := none) ⟨hb.os, hb.tape, hb.output, hb.size, fun k hk _ => hb.block k hk⟩ ?_, h4⟩
    cases hv : v.ownBlock with
    | none => exact Or.inl rfl
    | some g => exact Or.inr (by simp)
  rcases h with h | h
  · exact Or.inl (key _ h)
  · exact Or.inr (key _ h)
/-- a builder that holds a text -/
def BldIs (B b : Nat) (s : ByteArray) (w : World) : Prop := Lib.IsBuilder 99 5 B b (Lib.strCells s) w
theorem bld_new (w : World) : BldIs w.heap.size w.heap.size ⟨#[]⟩ (w.alloc (.cells #[.pointer none, .slice none 0 0] 99)) := Lib.fresh_isBuilder 99 5 w
theorem BldIs.call {B b : Nat} {s : ByteArray} {w w' : World} (h : BldIs B b s w) (hb : Below w.heap.size w w') : BldIs B b s w' := bld_call h hb
theorem BldIs.alloc {B b : Nat} {s : ByteArray} {w : World} (h : BldIs B b s w) (X : Obj) : BldIs B b s (w.alloc X) := bld_call h ((Below.refl _ _).alloc (Nat.le_refl _) _)
theorem strCells_append (a b : ByteArray) : Lib.strCells (a ++ b) = Lib.strCells a ++ Lib.strCells b := by
  rw [Lib.strCells_eq, Lib.strCells_eq, Lib.strCells_eq, ← Lib.byteCells_append]; simp
theorem bld_add (B b : Nat) (a s : ByteArray) (w : World) (h : BldIs B b a w) (hlen : a.size + s.size ≤ 140737488355328) (hBw : B ≤ w.heap.size) :
    Calls Try.prog 85 #[.pointer (some ⟨b, 0, none⟩), .string s] w fun e w' => e = .returned (.tuple #[.int .i64 s.size, .nilIface]) ∧ BldIs B b (a ++ s) w' ∧ Below B w w' :=
  (bld_write B b _ s w h (by rw [Lib.strCells_length]; exact hlen) hBw).mono fun e w' ⟨h1, h2, h3⟩ => ⟨h1, by unfold BldIs; rw [strCells_append]; exact Or.inr h2, h3⟩
theorem bld_tell (B b : Nat) (a : ByteArray) (w : World) (h : BldIs B b a w) (hBw : B ≤ w.heap.size) :
    Calls Try.prog 88 #[.pointer (some ⟨b, 0, none⟩)] w fun e w' => e = .returned (.string a) ∧ Below B w w' := by
  have h2 := bld_string B b a.data.toList w h hBw
  have e : (⟨a.data.toList.toArray⟩ : ByteArray) = a := by cases a; rfl
  rw [e] at h2
  exact h2
end Go.Proofs.Ytpeddaljgmkomaa
