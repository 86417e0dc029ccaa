/-
  What is drawn for a cipher: a key, a block, a nonce.
-/
import Derived.Test.YtnkahdidelhdaabDrw
import Derived.Test.YtnkahdidelhdaabShaSumS
import Derived.OwnWalk
namespace Go.Proofs.Ytnkahdidelhdaab
open Go.RowKit

theorem ext_size (s : ByteArray) (n : Nat) (h : n ≤ s.size) : (s.extract 0 n).size = n := by simp; omega
set_option maxRecDepth 100000 in
set_option maxHeartbeats 1000000 in
theorem key_any {w0 : World} {a : Option Addr} {len cap g : Nat} {W : World} (hS : Src w0 a len) (h : RD w0 a len cap g W) :
    Calls Try.prog 29 #[.pointer (some ⟨g, 0, none⟩)] W fun e w' => (∃ s : ByteArray, s.size ≤ 32 ∧ e = .returned (.string s)) ∧ RD w0 a len cap g w' := by
  go_enter Try.func29, Try.ntmps29
  go_wp2_with fail
  refine (text_any hS h).mono ?_
  rintro e w1 ⟨⟨t, ht, rfl⟩, hr1⟩
  have HC : Hid (Calls Try.prog 30 #[.string t] w1 fun e w' => e = .returned (.string (sumB t)) ∧ Below w1.heap.size w1 w') := ssum_any t w1 (by omega)
  have hz := sumB_size t
  clear h
  generalize sumB t = s at HC hz
  go_wp2_with fail
  refine HC.out.mono ?_
  rintro e w2 ⟨rfl, hb2⟩
  have hr2 := hr1.rd.past hb2
  clear hr1 HC hb2
  go_wp2_with fail
  refine (once_any hS hr2 20 (by omega) (by omega)).mono ?_
  rintro e w3 ⟨⟨b, rfl⟩, hr3⟩
  clear hr2
  cases b with
  | true =>
    go_wp2_with fail
    refine (below_any hS hr3.rd 33 (by omega) (by omega)).mono ?_
    rintro e w4 ⟨⟨x, hx1, hx2, rfl⟩, hr4⟩
    obtain ⟨m, rfl⟩ := Int.eq_ofNat_of_zero_le hx1
    have hm : m ≤ s.size := by omega
    have hz2 := ext_size s m hm
    go_wp2_with fail
    go_ret
    exact ⟨⟨s.extract 0 m, by omega, by simp⟩, hr4.rd⟩
  | false =>
    go_wp2_with fail
    go_ret
    exact ⟨⟨s, by omega, rfl⟩, hr3.rd⟩
set_option maxRecDepth 100000 in
set_option maxHeartbeats 1000000 in
theorem drawEncrypt {w0 : World} {a : Option Addr} {len cap : Nat} {W : World} (hS : Src w0 a len) (hb : Below w0.heap.size w0 W) :
    Calls Try.prog 14 #[.slice a len cap] W fun e w' => (∃ k s : ByteArray, k.size ≤ 32 ∧ s.size ≤ 16 ∧ e = .returned (.tuple #[.string k, .string s])) ∧ Below w0.heap.size w0 w' := by
  go_enter Try.func14, Try.ntmps14
  go_wp2_with fail
  refine (open_any hb).mono ?_
  rintro e w1 ⟨rfl, hr, _⟩
  go_wp2_with fail
  refine (key_any hS hr).mono ?_
  rintro e w2 ⟨⟨k, hk, rfl⟩, hr2⟩
  clear hr
  go_wp2_with fail
  refine (text_any hS hr2).mono ?_
  rintro e w3 ⟨⟨t, ht, rfl⟩, hr3⟩
  have HC : Hid (Calls Try.prog 30 #[.string t] w3 fun e w' => e = .returned (.string (sumB t)) ∧ Below w3.heap.size w3 w') := ssum_any t w3 (by omega)
  have hz := sumB_size t
  clear hr2
  generalize sumB t = s at HC hz
  go_wp2_with fail
  refine HC.out.mono ?_
  rintro e w4 ⟨rfl, hb4⟩
  have hr4 := hr3.rd.past hb4
  clear hr3 HC hb4
  have hz1 := ext_size s 16 (by omega)
  go_wp2_with fail
  refine (once_any hS hr4 12 (by omega) (by omega)).mono ?_
  rintro e w5 ⟨⟨b, rfl⟩, hr5⟩
  clear hr4
  generalize s.extract 0 16 = s2 at hz1
  cases b with
  | true =>
    go_wp2_with fail
    refine (below_any hS hr5.rd 17 (by omega) (by omega)).mono ?_
    rintro e w6 ⟨⟨x, hx1, hx2, rfl⟩, hr6⟩
    obtain ⟨m, rfl⟩ := Int.eq_ofNat_of_zero_le hx1
    have hm : m ≤ s2.size := by omega
    have hz2 := ext_size s2 m hm
    go_wp2_with fail
    go_ret2
    exact ⟨⟨k, s2.extract 0 m, hk, by omega, by simp⟩, hr6.rd.below⟩
  | false =>
    go_wp2_with fail
    go_ret2
    exact ⟨⟨k, s2, hk, by omega, rfl⟩, hr5.rd.below⟩
set_option maxRecDepth 100000 in
set_option maxHeartbeats 1000000 in
theorem drawCount {w0 : World} {a : Option Addr} {len cap : Nat} {W : World} (hS : Src w0 a len) (hb : Below w0.heap.size w0 W) :
    Calls Try.prog 19 #[.slice a len cap] W fun e w' => (∃ k s d : ByteArray, k.size ≤ 32 ∧ s.size ≤ 12 ∧ d.size ≤ 600 ∧ e = .returned (.tuple #[.string k, .string s, .string d])) ∧ Below w0.heap.size w0 w' := by
  go_enter Try.func19, Try.ntmps19
  go_wp2_with fail
  refine (open_any hb).mono ?_
  rintro e w1 ⟨rfl, hr, _⟩
  go_wp2_with fail
  refine (key_any hS hr).mono ?_
  rintro e w2 ⟨⟨k, hk, rfl⟩, hr2⟩
  clear hr
  go_wp2_with fail
  refine (text_any hS hr2).mono ?_
  rintro e w3 ⟨⟨t, ht, rfl⟩, hr3⟩
  have HC : Hid (Calls Try.prog 30 #[.string t] w3 fun e w' => e = .returned (.string (sumB t)) ∧ Below w3.heap.size w3 w') := ssum_any t w3 (by omega)
  have hz := sumB_size t
  clear hr2
  generalize sumB t = s at HC hz
  go_wp2_with fail
  refine HC.out.mono ?_
  rintro e w4 ⟨rfl, hb4⟩
  have hr4 := hr3.rd.past hb4
  clear hr3 HC hb4
  have hz1 := ext_size s 12 (by omega)
  go_wp2_with fail
  refine (once_any hS hr4 12 (by omega) (by omega)).mono ?_
  rintro e w5 ⟨⟨b, rfl⟩, hr5⟩
  clear hr4
  generalize s.extract 0 12 = s2 at hz1
  cases b with
  | true =>
    go_wp2_with fail
    refine (below_any hS hr5.rd 13 (by omega) (by omega)).mono ?_
    rintro e w6 ⟨⟨x, hx1, hx2, rfl⟩, hr6⟩
    obtain ⟨m, rfl⟩ := Int.eq_ofNat_of_zero_le hx1
    have hm : m ≤ s2.size := by omega
    have hz2 := ext_size s2 m hm
    clear hr5
    go_wp2_with fail
    refine (data_any hS hr6.rd 4 (by omega) (by omega)).mono ?_
    rintro e w7 ⟨⟨d, hd, rfl⟩, hr7⟩
    go_wp2_with fail
    go_ret3
    exact ⟨⟨k, s2.extract 0 m, d, hk, by omega, hd, by simp⟩, hr7.rd.below⟩
  | false =>
    go_wp2_with fail
    refine (data_any hS hr5.rd 4 (by omega) (by omega)).mono ?_
    rintro e w7 ⟨⟨d, hd, rfl⟩, hr7⟩
    go_wp2_with fail
    go_ret3
    exact ⟨⟨k, s2, d, hk, by omega, hd, rfl⟩, hr7.rd.below⟩
end Go.Proofs.Ytnkahdidelhdaab
