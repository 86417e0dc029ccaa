/-
  What TakeText answers, the code's.
-/
import Derived.Test.YtfegoldjejlcaaaDoorTakeText
import Derived.Deep.RegionWith
namespace Go.Proofs.YtfegoldjejlcaaaDoor
open Go.RowKit

theorem clone_in (w : World) (s : ByteArray) (W : World) (hlim : s.size ≤ 281474976710656) (hB : Below w.heap.size w W) :
    Calls Tryd.prog 51 #[.string s] W fun e w' => e = .returned (.string s) ∧ Below w.heap.size w w' :=
  (clone_any s W hlim).mono fun _ _ ⟨h1, h2⟩ => ⟨h1, hB.trans (h2.mono hB.size)⟩
theorem ext_le {s : ByteArray} {B : Nat} (h : s.size ≤ B) (a b : Nat) : (s.extract a b).size ≤ B := by
  simp; omega

end Go.Proofs.YtfegoldjejlcaaaDoor
