/-
  What is drawn for seals: a key, a number, a text.
-/
import Derived.Test.YtnkahdidelhdaacGreatDoorDrwKey
import Derived.Test.YtnkahdidelhdaacGreatDoorOff
namespace Go.Proofs.YtnkahdidelhdaacGreatDoor
open Go.RowKit
set_option maxRecDepth 100000 in
set_option maxHeartbeats 1000000 in
theorem drawSeal {w0 : World} {a : Option Addr} {len cap : Nat} {W : World} (hS : Src w0 a len) (hb : Below w0.heap.size w0 W) :
    Calls Tryz.prog 5 #[.slice a len cap] W fun e w' => (∃ (k : ByteArray) (n : Int) (d : ByteArray), k.size ≤ 32 ∧ -9223372036854775808 ≤ n ∧ n ≤ 9223372036854775807 ∧ d.size ≤ 600 ∧ e = .returned (.tuple #[.string k, .int .i64 n, .string d])) ∧ Below w0.heap.size w0 w' := by
  go_enter Tryz.func5, Tryz.ntmps5
  go_wp2_with fail
  refine (open_any hb).mono ?_
  rintro e w1 ⟨rfl, hr, _⟩
  go_wp2_with fail
  refine (key_any hS hr).mono ?_
  rintro e w2 ⟨⟨k, hk, rfl⟩, hr2⟩
  clear hr
  go_wp2_with fail
  refine (off_any hS hr2 0 9 (by omega) (by omega) (by omega)).mono ?_
  rintro e w3 ⟨⟨n, hn1, hn2, rfl⟩, hr3⟩
  go_wp2_with fail
  refine (data_any hS hr3.rd 4 (by omega) (by omega)).mono ?_
  rintro e w4 ⟨⟨d, hd, rfl⟩, hr4⟩
  go_wp2_with fail
  go_ret3
  exact ⟨⟨k, n, d, hk, hn1, hn2, hd, rfl⟩, hr4.rd.below⟩
end Go.Proofs.YtnkahdidelhdaacGreatDoor
