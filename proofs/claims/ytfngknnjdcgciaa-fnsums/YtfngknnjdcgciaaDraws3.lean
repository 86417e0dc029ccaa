/-
  What is drawn for the laws on digits and sums: some short text.
-/
import Derived.Test.YtfngknnjdcgciaaDraws
import Derived.Test.YtfngknnjdcgciaaHexS
namespace Go.Proofs.Ytfngknnjdcgciaa
open Go.RowKit

theorem bytes_s {w0 : World} {a : Option Addr} {len cap g : Nat} {W : World} (hS : Src w0 a len) (h : RD w0 a len cap g W) (n : Int) (h0 : 0 ≤ n) (h1 : n ≤ 1000) :
    Calls Try.prog 36 #[.pointer (some ⟨g, 0, none⟩), .int .i64 n] W fun e w' => (∃ s : ByteArray, (s.size : Int) ≤ n ∧ e = .returned (.string s)) ∧ Rd3 w0 a len cap g W w' :=
  (bytes_any hS h n h0 h1).mono fun _ _ ⟨⟨l, hl, he⟩, h3⟩ => ⟨⟨⟨l.toArray⟩, by rw [mk_size l]; exact hl, he⟩, h3⟩

set_option maxRecDepth 100000 in
theorem drawHex {w0 : World} {a : Option Addr} {len cap : Nat} {W : World} (hS : Src w0 a len) (hb : Below w0.heap.size w0 W) :
    Calls Try.prog 26 #[.slice a len cap] W fun e w' => (∃ s : ByteArray, s.size ≤ 1000 ∧ e = .returned (.string s)) ∧ Below w0.heap.size w0 w' := by
  go_enter Try.func26, Try.ntmps26
  go_wp2_with fail
  refine (open_any hb).mono ?_
  rintro e w1 ⟨rfl, hr, _⟩
  go_wp2_with fail
  refine (bytes_s hS hr 9 (by omega) (by omega)).mono ?_
  rintro e w2 ⟨⟨s, hs, rfl⟩, hr2⟩
  go_wp2_with fail
  go_ret
  exact ⟨⟨s, by omega, rfl⟩, hr2.rd.below⟩

set_option maxRecDepth 100000 in
theorem drawCrc {w0 : World} {a : Option Addr} {len cap : Nat} {W : World} (hS : Src w0 a len) (hb : Below w0.heap.size w0 W) :
    Calls Try.prog 20 #[.slice a len cap] W fun e w' => (∃ s : ByteArray, s.size ≤ 1000 ∧ e = .returned (.string s)) ∧ Below w0.heap.size w0 w' := by
  go_enter Try.func20, Try.ntmps20
  go_wp2_with fail
  refine (open_any hb).mono ?_
  rintro e w1 ⟨rfl, hr, _⟩
  go_wp2_with fail
  refine (bytes_s hS hr 20 (by omega) (by omega)).mono ?_
  rintro e w2 ⟨⟨s, hs, rfl⟩, hr2⟩
  go_wp2_with fail
  go_ret
  exact ⟨⟨s, by omega, rfl⟩, hr2.rd.below⟩

set_option maxRecDepth 100000 in
set_option maxHeartbeats 1000000 in
theorem drawUnhex {w0 : World} {a : Option Addr} {len cap : Nat} {W : World} (hS : Src w0 a len) (hb : Below w0.heap.size w0 W) :
    Calls Try.prog 30 #[.slice a len cap] W fun e w' => (∃ s : ByteArray, s.size ≤ 1000 ∧ e = .returned (.string s)) ∧ Below w0.heap.size w0 w' := by
  go_enter Try.func30, Try.ntmps30
  go_wp2_with fail
  refine (open_any hb).mono ?_
  rintro e w1 ⟨rfl, hr, _⟩
  go_wp2_with fail
  refine (bytes_s hS hr 9 (by omega) (by omega)).mono ?_
  rintro e w2 ⟨⟨s, hs, rfl⟩, hr2⟩
  go_wp2_with fail
  refine (shex_any s _ (by omega)).mono ?_
  rintro e w3 ⟨he, hb3⟩
  have hr3 := hr2.rd.past hb3
  clear hr2 hb3 hr
  have hps : (⟨(hexL s.data.toList).toArray⟩ : ByteArray).size ≤ 18 := by rw [mk_size (hexL s.data.toList), hexL_len, ← Lib.size_eq]; omega
  obtain ⟨p, hp⟩ : ∃ p : ByteArray, p = ⟨(hexL s.data.toList).toArray⟩ := ⟨_, rfl⟩
  rw [← hp] at he hps
  clear hp
  subst he
  go_wp2_with fail
  refine (below_any hS hr3 6 (by omega) (by omega)).mono ?_
  rintro e w5 ⟨⟨x, hx1, hx2, rfl⟩, hr5⟩
  clear hr3
  by_cases e0 : x = 0
  · subst e0
    go_wp2_with fail
    go_ret
    exact ⟨⟨p ++ ⟨#[97]⟩, by rw [ByteArray.size_append, show (⟨#[97]⟩ : ByteArray).size = 1 from rfl]; omega, rfl⟩, hr5.rd.below⟩
  · have e0' : (x == 0) = false := beq_eq_false_iff_ne.2 e0
    by_cases e1 : x = 1
    · subst e1
      go_wp2_with fail
      refine (below_any hS (hr5.rd.alloc _) 4 (by omega) (by omega)).mono ?_
      rintro e w6 ⟨⟨y, hy1, hy2, rfl⟩, hr6⟩
      obtain ⟨k, rfl⟩ := Int.eq_ofNat_of_zero_le hy1
      have hc := six hr6.grown (by have := hr5.rd.lt; omega)
      obtain ⟨q, hq, hsz⟩ : ∃ q : ByteArray, w6.cell? ⟨w5.heap.size, k, none⟩ = some (.string q) ∧ q.size ≤ 20 := by
        have hn : k < 4 := by omega
        clear hy1 hy2 hr6 hr5
        match k, hn with
        | 0, _ => exact ⟨_, hc 0 _ rfl, by decide⟩
        | 1, _ => exact ⟨_, hc 1 _ rfl, by decide⟩
        | 2, _ => exact ⟨_, hc 2 _ rfl, by decide⟩
        | 3, _ => exact ⟨_, hc 3 _ rfl, by decide⟩
      have hbl := hr6.rd.below
      clear hc hr6
      go_wp2_with fail
      go_ret
      exact ⟨⟨p ++ q, by rw [ByteArray.size_append]; omega, rfl⟩, hbl⟩
    · have e1' : (x == 1) = false := beq_eq_false_iff_ne.2 e1
      go_wp2_with fail
      go_ret
      exact ⟨⟨p, by omega, rfl⟩, hr5.rd.below⟩
end Go.Proofs.Ytfngknnjdcgciaa
