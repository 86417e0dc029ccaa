/-
  What PutText answers, the code's and the specification's.
-/
import Derived.Test.YtpeddaljgmkomaaPutc
namespace Go.Proofs.Ytpeddaljgmkomaa
open Go.RowKit

def putTextOut (s : ByteArray) : ByteArray := ⟨(put s.size).toArray⟩ ++ s
set_option maxRecDepth 100000 in
set_option maxHeartbeats 1000000 in
theorem sputText_any (s : ByteArray) (w : World) (hs : s.size ≤ 70368744177664) :
    Calls Try.prog 74 #[.string s] w fun e w' => e = .returned (.string (putTextOut s)) ∧ Below w.heap.size w w' := by
  have hpt := put_ten (n := s.size) (by omega)
  go_enter Try.func74, Try.ntmps74
  go_wp2_with fail
  refine (sput_any s.size _ (by omega)).mono ?_
  rintro e w1 ⟨rfl, hb1⟩
  go_wp2_with fail
  go_ret
  exact ⟨rfl, hb1⟩
set_option maxRecDepth 100000 in
set_option maxHeartbeats 1000000 in
theorem cputText_any (s : ByteArray) (w : World) (hs : s.size ≤ 70368744177664) :
    Calls Try.prog 87 #[.string s] w fun e w' => e = .returned (.string (putTextOut s)) ∧ Below w.heap.size w w' := by
  have hpt := put_ten (n := s.size) (by omega)
  go_enter Try.func87, Try.ntmps87
  go_wp2_with fail
  refine (cput_any s.size _ (by omega)).mono ?_
  rintro e w1 ⟨rfl, hb1⟩
  go_wp2_with fail
  go_ret
  exact ⟨rfl, hb1⟩
end Go.Proofs.Ytpeddaljgmkomaa
