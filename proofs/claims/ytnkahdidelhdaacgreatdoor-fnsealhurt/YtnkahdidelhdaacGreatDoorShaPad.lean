/-
  The padding, and the Builder by its contracts.
-/
import Derived.Test.YtnkahdidelhdaacGreatDoorShelf
import Derived.Test.YtnkahdidelhdaacGreatDoorShaConst
namespace Go.Proofs.YtnkahdidelhdaacGreatDoor
open Go.RowKit

theorem write_any (B b : Nat) (bs : List Value) (s : ByteArray) (w : World) (h : Lib.IsBuilder 72 5 B b bs w) (hlen : bs.length + s.size ≤ 140737488355328) (hBw : B ≤ w.heap.size) :
    Calls Tryz.prog 44 #[.pointer (some ⟨b, 0, none⟩), .string s] w fun e w' => e = .returned (.tuple #[.int .i64 s.size, .nilIface]) ∧ (Lib.BuilderAt 72 5 B b (.pointer (some ⟨b, 0, none⟩)) (bs ++ Lib.strCells s) w' ∧ Below B w w') :=
  Go.Proofs.Any.Builder_WriteString { Go.Proofs.Tryz.lays105 with } Go.Proofs.Tryz.Builder_Extra_105 B b bs s w h hlen hBw
theorem bstring_any (B b : Nat) (l : List UInt8) (w : World) (h : Lib.IsBuilder 72 5 B b (Lib.byteCells l) w) (hBw : B ≤ w.heap.size) :
    Calls Tryz.prog 46 #[.pointer (some ⟨b, 0, none⟩)] w fun e w' => e = .returned (.string ⟨l.toArray⟩) ∧ Below B w w' :=
  Go.Proofs.Any.Builder_String_any { Go.Proofs.Tryz.lays105 with } Go.Proofs.Tryz.Builder_Extra_105 B b l w h hBw
theorem repeat_nought (c : Nat) (w : World) (hc : c ≤ 64) :
    Calls Tryz.prog 58 #[.string ⟨#[0]⟩, .int .i64 (c : Int)] w fun e w' => e = .returned (.string ⟨(List.replicate c (0 : UInt8)).toArray⟩) ∧ Below w.heap.size w w' := by
  have h := Go.Proofs.Tryz.strings_Repeat ⟨#[0]⟩ c w (by omega) (by show 1 * c ≤ _; omega)
  have e : Lib.repeatL (⟨#[0]⟩ : ByteArray).data.toList c = List.replicate c (0 : UInt8) := by
    clear h
    induction c with
    | zero => rfl
    | succ n ih => rw [Lib.repeatL, ih (by omega), List.replicate_succ]; rfl
  rw [e] at h
  exact h
set_option maxRecDepth 100000 in
set_option maxHeartbeats 1000000 in
theorem pad_any (n : Nat) (w : World) (hn : n ≤ 1099511627776) :
    Calls Tryz.prog 43 #[.int .i64 (n : Int)] w fun e w' => e = .returned (.string (padB n)) ∧ Below w.heap.size w w' := by
  have hz : Hid (padB n = (⟨#[128]⟩ ++ ⟨(List.replicate (zs n) (0 : UInt8)).toArray⟩) ++ ⟨(bigL (8 * n) 8).toArray⟩) := rfl
  have hz1 : (119 - (n : Int) % 64) % 64 = (zs n : Int) := by unfold zs; omega
  have hz0 : zs n ≤ 64 := by unfold zs; omega
  have hz2 : (119 - (n : Int) % 64).tmod 64 = (zs n : Int) := by rw [Int.tmod_eq_emod_of_nonneg (by omega)]; exact hz1
  generalize zs n = z at hz hz0 hz1 hz2
  have HZ : Hid (z ≤ 64) := hz0
  have HH : Hid (∀ w, Calls Tryz.prog 45 #[.int .u64 (8 * (n : Int)), .int .i64 8] w fun e w' => e = .returned (.string ⟨(bigL (8 * n) 8).toArray⟩) ∧ Below w.heap.size w w') := fun w => by
    have := high_any (8 * n) 8 w (by omega) (by omega) (by omega)
    rwa [show ((8 * n : Nat) : Int) = 8 * (n : Int) by omega] at this
  have HR : Hid (∀ w, Calls Tryz.prog 58 #[.string ⟨#[0]⟩, .int .i64 (z : Int)] w fun e w' => e = .returned (.string ⟨(List.replicate z (0 : UInt8)).toArray⟩) ∧ Below w.heap.size w w') := fun w => repeat_nought z w hz0
  have hX : (⟨(List.replicate z (0 : UInt8)).toArray⟩ : ByteArray).size = z := by show (List.replicate z (0 : UInt8)).toArray.size = z; simp
  have hY : (⟨(bigL (8 * n) 8).toArray⟩ : ByteArray).size = 8 := by show (bigL (8 * n) 8).toArray.size = 8; rw [List.size_toArray, bigL_len]
  generalize (⟨(List.replicate z (0 : UInt8)).toArray⟩ : ByteArray) = X at hz HR hX
  generalize (⟨(bigL (8 * n) 8).toArray⟩ : ByteArray) = Y at hz HH hY
  go_enter Tryz.func43, Tryz.ntmps43
  go_wp2_with fail
  refine (HR.out _).mono ?_
  rintro e w1 ⟨rfl, hb1⟩
  go_wp2_with fail
  refine (HH.out _).mono ?_
  rintro e w2 ⟨rfl, hb2⟩
  go_wp2_with fail
  go_ret
  exact ⟨by rw [hz.out]; rfl, hb1.trans (hb2.mono hb1.size)⟩
end Go.Proofs.YtnkahdidelhdaacGreatDoor
