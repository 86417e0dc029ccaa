/-
  The text of a tree: plain mathematics.
-/
import Derived.Test.YtadimakdjndcdaeDoorTrT
import Derived.Test.YtadimakdjndcdaeDoorPutText
namespace Go.Proofs.YtadimakdjndcdaeDoor
open Go.RowKit
set_option linter.unusedVariables false
set_option linter.unusedSimpArgs false
def pnB (n : Nat) : ByteArray := ⟨(put n).toArray⟩
theorem pnB_size {n : Nat} (h : n < 18446744073709551616) : (pnB n).size ≤ 10 := by
  show (put n).toArray.size ≤ 10
  rw [List.size_toArray]; exact put_ten h
theorem pxT_size {s : ByteArray} (h : s.size ≤ 1048576) : (putTextOut s).size ≤ 1048586 := by
  have h1 := pnB_size (n := s.size) (by omega)
  show (pnB s.size ++ s).size ≤ _
  rw [ByteArray.size_append]; omega
/-- the text of one node -/
def txN (p : NdI) : ByteArray := if p.r then putTextOut p.p ++ pnB (2 * p.m.toNat + 1) else (putTextOut p.p ++ pnB (2 * p.m.toNat)) ++ putTextOut p.d
def txB (F : Nat → NdI) (n : Nat) : Nat → ByteArray
  | 0 => pnB n
  | i + 1 => if (F i).r then (txB F n i ++ putTextOut (F i).p) ++ pnB (2 * (F i).m.toNat + 1) else ((txB F n i ++ putTextOut (F i).p) ++ pnB (2 * (F i).m.toNat)) ++ putTextOut (F i).d
theorem txB_dir {F : Nat → NdI} {n i : Nat} (h : (F i).r = true) : txB F n (i + 1) = (txB F n i ++ putTextOut (F i).p) ++ pnB (2 * (F i).m.toNat + 1) := by
  show (if _ then _ else _) = _
  rw [if_pos h]
theorem txB_file {F : Nat → NdI} {n i : Nat} (h : (F i).r = false) : txB F n (i + 1) = ((txB F n i ++ putTextOut (F i).p) ++ pnB (2 * (F i).m.toNat)) ++ putTextOut (F i).d := by
  show (if _ then _ else _) = _
  rw [if_neg (by rw [h]; decide)]
theorem txB_size {F : Nat → NdI} {n i : Nat} (hn : n ≤ 40) (hi : i ≤ n) (hs : ∀ j, j < n → (F j).p.size ≤ 1048576 ∧ (F j).d.size ≤ 1048576) (hm : ∀ j, j < n → 0 ≤ (F j).m ∧ (F j).m ≤ 511) : (txB F n i).size ≤ 10 + i * 2097190 := by
  induction i with
  | zero => have := pnB_size (n := n) (by omega); show (pnB n).size ≤ _; omega
  | succ i ih =>
    have h1 := ih (by omega)
    obtain ⟨h2, h3⟩ := hs i (by omega)
    have h4 := hm i (by omega)
    have h5 := pxT_size h2
    have h6 := pxT_size h3
    cases hr : (F i).r with
    | true =>
      have h7 := pnB_size (n := 2 * (F i).m.toNat + 1) (by omega)
      rw [txB_dir hr, ByteArray.size_append, ByteArray.size_append]; omega
    | false =>
      have h7 := pnB_size (n := 2 * (F i).m.toNat) (by omega)
      rw [txB_file hr, ByteArray.size_append, ByteArray.size_append, ByteArray.size_append]; omega
noncomputable def txV (F : Nat → NdI) (n : Nat) : ByteArray := if ndB F n then txB F n n else ⟨#[]⟩
theorem txV_yes {F : Nat → NdI} {n : Nat} (h : ndR F n) : txV F n = txB F n n := by unfold txV; rw [ndB_yes h]; rfl
theorem txV_no {F : Nat → NdI} {n : Nat} (h : ¬ ndR F n) : txV F n = ⟨#[]⟩ := by unfold txV; rw [ndB_no h]; rfl
set_option maxRecDepth 100000 in
theorem sxPut_any (m : Nat) (w : World) (hm : m < 9223372036854775808) : Calls Tryd.prog 49 #[.int .i64 (m : Int)] w fun e w' => e = .returned (.string (pnB m)) ∧ Below w.heap.size w w' := by
  have hw : IntKind.u64.wrap (m : Int) = (m : Int) := by rw [IntKind.wrap_u64]; omega
  have HP : Hid (∀ w, Calls Tryd.prog 75 #[.int .u64 (m : Int)] w fun e w' => e = .returned (.string (pnB m)) ∧ Below w.heap.size w w') := fun w => sput_any m w (by omega)
  go_enter Tryd.func49, Tryd.ntmps49
  go_wp2_with fail
  refine (HP.out _).mono ?_
  rintro e w1 ⟨rfl, hb1⟩
  go_wp2_with fail
  go_ret
  exact ⟨rfl, hb1⟩
end Go.Proofs.YtadimakdjndcdaeDoor
