/-
  What is drawn for the laws on texts: some text of at most 1000 bytes.
-/
import Derived.Test.YtfngknnjdcgciaaDraws
import Derived.Test.YtfngknnjdcgciaaPutText
namespace Go.Proofs.Ytfngknnjdcgciaa
open Go.RowKit

set_option maxRecDepth 100000 in
theorem drawPutText {w0 : World} {a : Option Addr} {len cap : Nat} {W : World} (hS : Src w0 a len) (hb : Below w0.heap.size w0 W) :
    Calls Try.prog 14 #[.slice a len cap] W fun e w' => (∃ s : ByteArray, s.size ≤ 1000 ∧ e = .returned (.string s)) ∧ Below w0.heap.size w0 w' := by
  go_enter Try.func14, Try.ntmps14
  go_wp2_with fail
  refine (open_any hb).mono ?_
  rintro e w1 ⟨rfl, hr, _⟩
  go_wp2_with fail
  refine (data_any hS hr 8 (by omega) (by omega)).mono ?_
  rintro e w2 ⟨⟨s, hs, rfl⟩, hr2⟩
  go_wp2_with fail
  go_ret
  exact ⟨⟨s, by omega, rfl⟩, hr2.rd.below⟩

set_option maxRecDepth 100000 in
set_option maxHeartbeats 1000000 in
theorem drawTakeText {w0 : World} {a : Option Addr} {len cap : Nat} {W : World} (hS : Src w0 a len) (hb : Below w0.heap.size w0 W) :
    Calls Try.prog 18 #[.slice a len cap] W fun e w' => (∃ s : ByteArray, s.size ≤ 1000 ∧ e = .returned (.string s)) ∧ Below w0.heap.size w0 w' := by
  go_enter Try.func18, Try.ntmps18
  go_wp2_with fail
  refine (open_any hb).mono ?_
  rintro e w1 ⟨rfl, hr, _⟩
  go_wp2_with fail
  refine (once_any hS hr 3 (by omega) (by omega)).mono ?_
  rintro e w2 ⟨⟨b, rfl⟩, hr2⟩
  clear hr
  cases b with
  | true =>
    go_wp2_with fail
    refine (number_any hS hr2.rd).mono ?_
    rintro e w3 ⟨⟨x, hx1, hx2, rfl⟩, hr3⟩
    obtain ⟨n, rfl⟩ := Int.eq_ofNat_of_zero_le hx1
    go_wp2_with fail
    refine (sput_any n _ (by omega)).mono ?_
    rintro e w4 ⟨rfl, hb4⟩
    have hr4 := hr3.rd.past hb4
    have hpl := put_ten (n := n) (by omega)
    clear hr3 hb4 hr2
    go_wp2_with fail
    refine (bytes_any hS hr4 9 (by omega) (by omega)).mono ?_
    rintro e w5 ⟨⟨l, hl, rfl⟩, hr5⟩
    go_wp2_with fail
    go_ret
    exact ⟨⟨(⟨(put n).toArray⟩ : ByteArray) ++ (⟨l.toArray⟩ : ByteArray), by rw [ByteArray.size_append, mk_size l, mk_size (put n)]; omega, rfl⟩, hr5.rd.below⟩
  | false =>
    go_wp2_with fail
    refine (text_any hS hr2.rd).mono ?_
    rintro e w3 ⟨⟨s, hs, rfl⟩, hr3⟩
    go_wp2_with fail
    refine (sputText_any s _ (by omega)).mono ?_
    rintro e w4 ⟨rfl, hb4⟩
    have hr4 := hr3.rd.past hb4
    have hpl : (putTextOut s).size ≤ 30 := by
      have := put_ten (n := s.size) (by omega)
      unfold putTextOut
      rw [ByteArray.size_append, mk_size (put s.size)]; omega
    generalize putTextOut s = p at hpl
    clear hr3 hb4 hr2
    go_wp2_with fail
    refine (bytes_any hS hr4 3 (by omega) (by omega)).mono ?_
    rintro e w5 ⟨⟨l, hl, rfl⟩, hr5⟩
    go_wp2_with fail
    go_ret
    exact ⟨⟨p ++ (⟨l.toArray⟩ : ByteArray), by rw [ByteArray.size_append, mk_size l]; omega, rfl⟩, hr5.rd.below⟩
end Go.Proofs.Ytfngknnjdcgciaa
