/-
  What the law of the texts of deltas is drawn of.
-/
import Derived.Test.YtadimakdjndcdaeDrwPcs
import Derived.Test.YtadimakdjndcdaeHurt
import Derived.Test.YtadimakdjndcdaeDrw
import Derived.Test.YtadimakdjndcdaeDtS
namespace Go.Proofs.Ytadimakdjndcdae
open Go.RowKit
set_option linter.unusedVariables false
set_option linter.unusedSimpArgs false
theorem pcF_leD (L : List PcI) (hL : L.length ≤ 7) (h : ∀ p ∈ L, p.d.size ≤ 5) : PcLe (pcF L) L.length := by
  refine ⟨by omega, fun i hi => ?_⟩
  have e : pcF L i = L[i] := by unfold pcF; simp [hi]
  rw [e]
  have := h _ (List.getElem_mem hi)
  omega
theorem dtV_size {F : Nat → PcI} {n : Nat} (hF : PcLe F n) (hd : ∀ i, i < n → (F i).d.size ≤ 4000) (hn : n ≤ 20) : (dtV F n).size ≤ 100000 := by
  by_cases h : pcR F n 4000
  · rw [dtV_yes h]
    have key : ∀ i, i ≤ n → (dtB F n i).size ≤ 10 + i * 4040 := by
      intro i
      induction i with
      | zero => intro _; have := putB_size (n := n) (by omega); show (putB n).size ≤ _; omega
      | succ i ih =>
        intro hi
        have h1 := ih (by omega)
        by_cases he : (F i).d = ⟨#[]⟩
        · rw [dtB_no he, ByteArray.size_append, ByteArray.size_append, ByteArray.size_append]
          have h2 : (putTextOut ⟨#[]⟩).size ≤ 10 := by
            have h3 := putB_size (n := 0) (by omega)
            show (putB 0 ++ ⟨#[]⟩).size ≤ _
            rw [ByteArray.size_append]
            have : (⟨#[]⟩ : ByteArray).size = 0 := rfl
            omega
          rcases h.2.2.2.1 i (by omega) with ⟨_, c1, c2, c3, c4⟩ | ⟨c, _⟩
          · have h3 := putB_size (n := (F i).f.toNat) (by omega)
            have h4 := putB_size (n := (F i).l.toNat) (by omega)
            omega
          · exact absurd he c
        · rw [dtB_yes he, ByteArray.size_append]
          have h2 : (putTextOut (F i).d).size ≤ 10 + (F i).d.size := by
            have h3 := putB_size (n := (F i).d.size) (by have := hd i (by omega); omega)
            show (putB (F i).d.size ++ (F i).d).size ≤ _
            rw [ByteArray.size_append]
            omega
          have h5 := hd i (by omega)
          omega
    have := key n (Nat.le_refl _)
    omega
  · rw [dtV_no h]; exact Nat.zero_le _
set_option maxRecDepth 100000 in
set_option maxHeartbeats 1000000 in
theorem drawDeltaText {w0 : World} {a : Option Addr} {len cap : Nat} {W : World} (hS : Src w0 a len) (hb : Below w0.heap.size w0 W) :
    Calls Try.prog 11 #[.slice a len cap] W fun e w' => (∃ (v : Value) (L : List PcI), L.length ≤ 7 ∧ (∀ p ∈ L, p.d.size ≤ 5) ∧ e = .returned v ∧ w'.ownsRow w0.heap.size 43 3 v L.length (pcC L)) ∧ Below w0.heap.size w0 w' := by
  go_enter Try.func11, Try.ntmps11
  go_wp2_with fail
  refine (open_any hb).mono ?_
  rintro e w1 ⟨rfl, hr, _⟩
  generalize W.heap.size = g at hr ⊢
  have HR2 := hid hr
  clear hr hb
  go_wp2_with fail
  refine (pieces_drawn hS HR2.out 20 (by omega) (by omega)).mono ?_
  rintro e w3 ⟨v, L, hL, rfl, hd⟩
  have HD3 := hid hd
  clear hd HR2
  go_wp2_with fail
  go_ret
  exact ⟨⟨v, L, hL, HD3.out.sz, rfl, HD3.out.own⟩, HD3.out.rd.below⟩
set_option maxRecDepth 100000 in
set_option maxHeartbeats 1000000 in
theorem drawReadDelta {w0 : World} {a : Option Addr} {len cap : Nat} {W : World} (hS : Src w0 a len) (hb : Below w0.heap.size w0 W) :
    Calls Try.prog 16 #[.slice a len cap] W fun e w' => (∃ t : ByteArray, t.size ≤ 200000 ∧ e = .returned (.string t)) ∧ Below w0.heap.size w0 w' := by
  go_enter Try.func16, Try.ntmps16
  go_wp2_with fail
  refine (open_any hb).mono ?_
  rintro e w1 ⟨rfl, hr, _⟩
  generalize W.heap.size = g at hr ⊢
  have HR2 := hid hr
  clear hr hb
  go_wp2_with fail
  refine (pieces_drawn hS HR2.out 20 (by omega) (by omega)).mono ?_
  rintro e w3 ⟨v, L, hL, rfl, hd⟩
  have HD3 := hid hd
  have hF := pcF_leD L hL hd.sz
  have hsz : (dtV (pcF L) L.length).size ≤ 100000 := dtV_size hF (fun i hi => by
    have e : pcF L i = L[i] := by unfold pcF; simp [hi]
    rw [e]
    have := hd.sz _ (List.getElem_mem hi)
    omega) (by omega)
  have HT := hid (fun w h => sdt_any v L.length (pcF L) w hF h)
  generalize dtV (pcF L) L.length = s at hsz HT
  clear hd HR2
  go_wp2_with fail
  refine (HT.out _ (own3_arg HD3.out.own)).mono ?_
  rintro e w4 ⟨rfl, hb4⟩
  have HR4 := hid (HD3.out.rd.past hb4)
  clear hb4 HT HD3 hF
  go_wp2_with fail
  refine (hurt_any hS HR4.out s (by omega)).mono ?_
  rintro e w5 ⟨⟨t, ht, rfl⟩, hr5⟩
  go_wp2_with fail
  go_ret
  exact ⟨⟨t, by omega, rfl⟩, hr5.rd.below⟩
end Go.Proofs.Ytadimakdjndcdae
