/-
  Whether two lists of nodes are the same: the laws' own way to ask, of whatever lists.
-/
import Derived.Test.YtbmcjoaigajjkaaDoorSameNd
import Derived.Test.YtbmcjoaigajjkaaDoorNdNe
import Derived.Test.YtbmcjoaigajjkaaDoorRtL
namespace Go.Proofs.YtbmcjoaigajjkaaDoor
open Go.RowKit
set_option linter.unusedVariables false
set_option linter.unusedSimpArgs false
noncomputable def eqNB (L M : List NdI) : Bool := open Classical in decide (L = M)
theorem eqNB_yes {L M : List NdI} (h : L = M) : eqNB L M = true := by unfold eqNB; exact (open Classical in decide_eq_true h)
theorem eqNB_no {L M : List NdI} (h : L ≠ M) : eqNB L M = false := by unfold eqNB; exact (open Classical in decide_eq_false h)
theorem ndF_gt {L : List NdI} {i : Nat} (h : i < L.length) : ndF L i = L[i] := by unfold ndF; simp [h]
theorem hidN {p : Prop} (h : p) : Hid p := h
set_option maxRecDepth 100000 in
set_option maxHeartbeats 1500000 in
theorem sameN_two (u v : Value) (L M : List NdI) (w : World) (hL : L.length ≤ 1000) (hM : M.length ≤ 1000) (hu : NdArg w u L.length (ndF L)) (hv : NdArg w v M.length (ndF M)) :
    Calls Tryd.prog 12 #[u, v] w fun e w' => e = .returned (.bool (eqNB L M)) ∧ Below w.heap.size w w' := by
  obtain ⟨a, c, rfl, hr⟩ := hu
  obtain ⟨b, d, rfl, hs⟩ := hv
  by_cases hne : L.length = M.length
  rotate_left
  · rw [eqNB_no fun c => hne (by rw [c])]
    have hn1 : ((L.length : Int) != (M.length : Int)) = true := by rw [bne_iff_ne]; omega
    have hn2 : ((L.length : Int) == (M.length : Int)) = false := beq_eq_false_iff_ne.2 (by omega)
    clear hr hs
    generalize L.length = n at hn1 hn2 ⊢
    generalize M.length = m at hn1 hn2 ⊢
    clear hL hM hne
    go_enter Tryd.func12, Tryd.ntmps12
    go_wp2_with fail
    go_ret
    exact ⟨rfl, Below.refl _ _⟩
  rw [← hne] at hs ⊢
  obtain ⟨n, hn⟩ : ∃ n, n = L.length := ⟨_, rfl⟩
  rw [← hn] at hr hs ⊢
  have hnJ : (n : Int) ≤ 1000 := by omega
  have HN : Hid (n = L.length ∧ n = M.length) := ⟨hn, hn.trans hne⟩
  have HR : Hid (0 < n → ∃ g h, a = some ⟨g, 0, none⟩ ∧ b = some ⟨h, 0, none⟩ ∧ NdRow w g n (ndF L) ∧ NdRow w h n (ndF M)) := fun h0 => by
    obtain ⟨g, h1, h2⟩ := hr h0
    obtain ⟨h, h3, h4⟩ := hs h0
    exact ⟨g, h, h1, h3, h2, h4⟩
  clear hr hs hn hne hL hM
  go_enter Tryd.func12, Tryd.ntmps12
  go_wp2_with fail
  go_loopw [5] (fun y wr => ∃ i : Nat, i ≤ n ∧ y = .int .i64 (i : Int) ∧ Hid (∀ j, j < i → ndF L j = ndF M j) ∧ Hid (Below w.heap.size w wr ∧ wr.heap = w.heap)) (fun y _ => n - (intNd y).toNat)
  case atStart => exact ⟨0, by omega, rfl, fun j hj => absurd hj (by omega), Below.refl _ _, rfl⟩
  case round =>
    obtain ⟨i, hi, rfl, HT, HW⟩ := hrel
    by_cases hlt : i < n
    · have hltI : (i : Int) < (n : Int) := by omega
      obtain ⟨g, h, rfl, rfl, hg, hh⟩ := HR.out (by omega)
      obtain ⟨q, hq⟩ : ∃ q, q = 4 * i := ⟨_, rfl⟩
      have hiq : i * 4 = q := by omega
      have e : ∀ a, wr.cell? a = w.cell? a := fun a => by simp [World.cell?, HW.out.2]
      have x0 := hg.c0 i hlt
      have x1 := hg.c1 i hlt
      have x2 := hg.c2 i hlt
      have x3 := hg.c3 i hlt
      have y0 := hh.c0 i hlt
      have y1 := hh.c1 i hlt
      have y2 := hh.c2 i hlt
      have y3 := hh.c3 i hlt
      rw [← hq, ← e] at x0 x1 x2 x3 y0 y1 y2 y3
      have HEQ : Hid (ndF L i = ndF M i → ∀ j, j < i + 1 → ndF L j = ndF M j) := fun h j hj => by
        by_cases e : j = i
        · subst e; exact h
        · exact HT.out j (by omega)
      have HNQ : Hid (ndF L i ≠ ndF M i → eqNB L M = false) := fun h => eqNB_no fun c => h (by rw [c])
      have HIN := hidN hlt
      clear e hq hg hh
      generalize ndF L i = P at x0 x1 x2 x3 HEQ HNQ
      generalize ndF M i = Q at y0 y1 y2 y3 HEQ HNQ
      have hnq := fun w => nd_neq P Q w
      by_cases hpq : P = Q
      · rw [ndNe_no hpq] at hnq
        have HE2 := hidN (HEQ.out hpq)
        clear HEQ HNQ hpq
        obtain ⟨pa, pr, pm, pd⟩ := P
        obtain ⟨qa, qr, qm, qd⟩ := Q
        simp only at x0 x1 x2 x3 y0 y1 y2 y3 hnq
        go_wp2_with fail
        go_region
        go_wp2_with fail
        go_roundw
        case rel => exact ⟨i + 1, by have := HIN.out; omega, by go_num, HE2, HW.out.1.drew, HW.out.2⟩
        case measure => simp [intNd]; have := HIN.out; omega
      · rw [ndNe_yes hpq] at hnq
        have HE2 := hidN (HNQ.out hpq)
        clear HEQ HNQ hpq
        obtain ⟨pa, pr, pm, pd⟩ := P
        obtain ⟨qa, qr, qm, qd⟩ := Q
        simp only at x0 x1 x2 x3 y0 y1 y2 y3 hnq
        go_wp2_with fail
        go_region
        go_wp2_with fail
        go_ret
        exact ⟨by rw [HE2.out]; rfl, HW.out.1.drew⟩
    · obtain rfl : i = n := by omega
      have HF : Hid (eqNB L M = true) := eqNB_yes (List.ext_getElem (by rw [← HN.out.1, ← HN.out.2]) fun j h1 h2 => by
        have := HT.out j (by rw [HN.out.1]; exact h1)
        rwa [ndF_gt h1, ndF_gt h2] at this)
      go_wp2_with fail
      go_ret
      exact ⟨by rw [HF.out]; rfl, HW.out.1⟩
end Go.Proofs.YtbmcjoaigajjkaaDoor
