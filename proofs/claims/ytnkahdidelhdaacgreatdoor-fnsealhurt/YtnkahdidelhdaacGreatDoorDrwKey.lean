/-
  What is drawn for a cipher: a key, a block, a nonce.
-/
import Derived.Test.YtnkahdidelhdaacGreatDoorDrwA
import Derived.Test.YtnkahdidelhdaacGreatDoorShaSumS
import Derived.OwnWalk
namespace Go.Proofs.YtnkahdidelhdaacGreatDoor
open Go.RowKit

theorem ext_size (s : ByteArray) (n : Nat) (h : n ≤ s.size) : (s.extract 0 n).size = n := by simp; omega
set_option maxRecDepth 100000 in
set_option maxHeartbeats 1000000 in
theorem key_any {w0 : World} {a : Option Addr} {len cap g : Nat} {W : World} (hS : Src w0 a len) (h : RD w0 a len cap g W) :
    Calls Tryz.prog 13 #[.pointer (some ⟨g, 0, none⟩)] W fun e w' => (∃ s : ByteArray, s.size ≤ 32 ∧ e = .returned (.string s)) ∧ RD w0 a len cap g w' := by
  go_enter Tryz.func13, Tryz.ntmps13
  go_wp2_with fail
  refine (text_any hS h).mono ?_
  rintro e w1 ⟨⟨t, ht, rfl⟩, hr1⟩
  have HC : Hid (Calls Tryz.prog 27 #[.string t] w1 fun e w' => e = .returned (.string (sumB t)) ∧ Below w1.heap.size w1 w') := ssum_any t w1 (by omega)
  have hz := sumB_size t
  clear h
  generalize sumB t = s at HC hz
  go_wp2_with fail
  refine HC.out.mono ?_
  rintro e w2 ⟨rfl, hb2⟩
  have hr2 := hr1.rd.past hb2
  clear hr1 HC hb2
  go_wp2_with fail
  refine (once_any hS hr2 20 (by omega) (by omega)).mono ?_
  rintro e w3 ⟨⟨b, rfl⟩, hr3⟩
  clear hr2
  cases b with
  | true =>
    go_wp2_with fail
    refine (below_any hS hr3.rd 33 (by omega) (by omega)).mono ?_
    rintro e w4 ⟨⟨x, hx1, hx2, rfl⟩, hr4⟩
    obtain ⟨m, rfl⟩ := Int.eq_ofNat_of_zero_le hx1
    have hm : m ≤ s.size := by omega
    have hz2 := ext_size s m hm
    go_wp2_with fail
    go_ret
    exact ⟨⟨s.extract 0 m, by omega, by simp⟩, hr4.rd⟩
  | false =>
    go_wp2_with fail
    go_ret
    exact ⟨⟨s, by omega, rfl⟩, hr3.rd⟩
end Go.Proofs.YtnkahdidelhdaacGreatDoor
