/-
  What is drawn for the laws on numbers: some number of 64 bits; some short text.
-/
import Derived.Test.YtfngknnjdcgciaaData
import Derived.Deep.RegionWith
namespace Go.Proofs.Ytfngknnjdcgciaa
open Go.RowKit

theorem src_of {w : World} {a : Option Addr} {len cap : Nat} {zs : List Int}
    (h : (a = none ∧ len = 0 ∧ cap = 0 ∧ zs = []) ∨ ∃ x : Addr, a = some x ∧ len ≤ cap ∧ cap ≤ maxLen ∧ zs.length = cap ∧ (∀ i, i < zs.length → w.cell? (x.add i) = some (.int .u8 (zs.getD i 0))) ∧ ∀ n ∈ zs, (Lit.int .u8 n).wf = true)
    (hl : len ≤ 1048576) : Src w a len := by
  refine ⟨by omega, ?_⟩
  rcases h with ⟨_, h, _⟩ | ⟨x, rfl, h1, h2, h3, h4, h5⟩
  · exact Or.inl h
  · by_cases h0 : len = 0
    · exact Or.inl h0
    · refine Or.inr ?_
      obtain ⟨b, o, sp⟩ := x
      have hc0 := h4 0 (by omega)
      have hadd : (⟨b, o, sp⟩ : Addr).add 0 = ⟨b, o, sp⟩ := by simp [Addr.add]
      rw [hadd] at hc0
      cases sp with
      | some s =>
        exfalso
        simp only [World.cell?] at hc0
        split at hc0 <;> simp at hc0
      | none =>
        refine ⟨b, o, rfl, block_lt_of_cell hc0, fun i hi => ?_⟩
        have hci := h4 i (by omega)
        have ea : (⟨b, o, none⟩ : Addr).add i = ⟨b, o + i, none⟩ := by
          unfold Addr.add
          by_cases e : i = 0
          · subst e; simp
          · simp [e]
        rw [ea] at hci
        have hm : zs.getD i 0 ∈ zs := by
          rw [List.getD_eq_getElem?_getD, List.getElem?_eq_getElem (by omega)]
          exact List.getElem_mem _
        have hb := bounds_u8 (h5 _ hm)
        refine ⟨(zs.getD i 0).toNat, by omega, ?_⟩
        rw [hci]
        congr 2
        omega

theorem RD.past {w0 : World} {a : Option Addr} {len cap g : Nat} {W W' : World} (h : RD w0 a len cap g W) (hb : Below W.heap.size W W') : RD w0 a len cap g W' := by
  have hl := h.lt
  obtain ⟨h1, h2, p, hp, hh⟩ := h
  exact ⟨h1.trans (hb.mono h1.size), h2, p, hp, by rw [hb.block g hl]; exact hh⟩
theorem six {C : Array Value} {w1 w2 : World} {g : Nat} {t : TypeId} (hg : (w1.alloc (.cells C t)).grownBy w2 (some g)) (hne : w1.heap.size ≠ g) (n : Nat) (v : Value) (hv : C[n]? = some v) :
    w2.cell? ⟨w1.heap.size, n, none⟩ = some v :=
  hg.cell (a := ⟨w1.heap.size, n, none⟩) ((World.cell?_alloc_mark w1 C t _ n).trans hv) (by simpa using hne)

set_option maxRecDepth 100000 in
theorem drawPutNum {w0 : World} {a : Option Addr} {len cap : Nat} {W : World} (hS : Src w0 a len) (hb : Below w0.heap.size w0 W) :
    Calls Try.prog 8 #[.slice a len cap] W fun e w' => (∃ n : Nat, n < 18446744073709551616 ∧ e = .returned (.int .u64 (n : Int))) ∧ Below w0.heap.size w0 w' := by
  go_enter Try.func8, Try.ntmps8
  go_wp2_with fail
  refine (open_any hb).mono ?_
  rintro e w1 ⟨rfl, hr, _⟩
  go_wp2_with fail
  refine (number_any hS hr).mono ?_
  rintro e w2 ⟨⟨x, hx1, hx2, rfl⟩, hr2⟩
  obtain ⟨n, rfl⟩ := Int.eq_ofNat_of_zero_le hx1
  go_wp2_with fail
  go_ret
  exact ⟨⟨n, by omega, rfl⟩, hr2.rd.below⟩

set_option maxRecDepth 100000 in
set_option maxHeartbeats 1000000 in
theorem drawTakeNum {w0 : World} {a : Option Addr} {len cap : Nat} {W : World} (hS : Src w0 a len) (hb : Below w0.heap.size w0 W) :
    Calls Try.prog 12 #[.slice a len cap] W fun e w' => (∃ s : ByteArray, s.size ≤ 1000 ∧ e = .returned (.string s)) ∧ Below w0.heap.size w0 w' := by
  go_enter Try.func12, Try.ntmps12
  go_wp2_with fail
  refine (open_any hb).mono ?_
  rintro e w1 ⟨rfl, hr, _⟩
  go_wp2_with fail
  refine (number_any hS hr).mono ?_
  rintro e w2 ⟨⟨x, hx1, hx2, rfl⟩, hr2⟩
  obtain ⟨n, rfl⟩ := Int.eq_ofNat_of_zero_le hx1
  go_wp2_with fail
  refine (sput_any n _ (by omega)).mono ?_
  rintro e w3 ⟨rfl, hb3⟩
  have hr3 := hr2.rd.past hb3
  have hpl := put_ten (n := n) (by omega)
  clear hr2 hb3 hr
  go_wp2_with fail
  refine (bytes_any hS hr3 2 (by omega) (by omega)).mono ?_
  rintro e w4 ⟨⟨l, hl, rfl⟩, hr4⟩
  go_wp2_with fail
  refine (below_any hS hr4.rd 5 (by omega) (by omega)).mono ?_
  rintro e w5 ⟨⟨x, hx1, hx2, rfl⟩, hr5⟩
  by_cases e0 : x = 0
  · subst e0
    go_wp2_with fail
    refine (bytes_any hS hr5.rd 12 (by omega) (by omega)).mono ?_
    rintro e w6 ⟨⟨l2, hl2, rfl⟩, hr6⟩
    go_wp2_with fail
    go_ret
    exact ⟨⟨_, by rw [mk_size l2]; omega, rfl⟩, hr6.rd.below⟩
  · have e0' : (x == 0) = false := beq_eq_false_iff_ne.2 e0
    by_cases e1 : x = 1
    · subst e1
      go_wp2_with fail
      refine (below_any hS (hr5.rd.alloc _) 6 (by omega) (by omega)).mono ?_
      rintro e w6 ⟨⟨y, hy1, hy2, rfl⟩, hr6⟩
      obtain ⟨k, rfl⟩ := Int.eq_ofNat_of_zero_le hy1
      have hc := six hr6.grown (by have := hr5.rd.lt; omega)
      obtain ⟨s, hs, hsz⟩ : ∃ s : ByteArray, w6.cell? ⟨w5.heap.size, k, none⟩ = some (.string s) ∧ s.size ≤ 20 := by
        have hn : k < 6 := by omega
        clear hy1 hy2 hr6 hr5 hr4 hr3
        match k, hn with
        | 0, _ => exact ⟨_, hc 0 _ rfl, by decide⟩
        | 1, _ => exact ⟨_, hc 1 _ rfl, by decide⟩
        | 2, _ => exact ⟨_, hc 2 _ rfl, by decide⟩
        | 3, _ => exact ⟨_, hc 3 _ rfl, by decide⟩
        | 4, _ => exact ⟨_, hc 4 _ rfl, by decide⟩
        | 5, _ => exact ⟨_, hc 5 _ rfl, by decide⟩
      have hbl := hr6.rd.below
      clear hc hr6
      go_wp2_with fail
      go_ret
      exact ⟨⟨s, by omega, rfl⟩, hbl⟩
    · have e1' : (x == 1) = false := beq_eq_false_iff_ne.2 e1
      go_wp2_with fail
      go_ret
      exact ⟨⟨(⟨(put n).toArray⟩ : ByteArray) ++ (⟨l.toArray⟩ : ByteArray), by rw [ByteArray.size_append, mk_size l, mk_size (put n)]; omega, rfl⟩, hr5.rd.below⟩
end Go.Proofs.Ytfngknnjdcgciaa
