/-
  Whether two lists of files are one.
-/
import Derived.Test.YtanlggglbpibfaaFlV
import Derived.Test.YtanlggglbpibfaaSfA
import Derived.Laws.StructEq
import Derived.BigRegion
import Derived.BigQuiet
namespace Go.Proofs.Ytanlggglbpibfaa
open Go.RowKit
set_option linter.unusedVariables false
set_option linter.unusedSimpArgs false
def flNe (p q : FlI) : Bool := !((p.a.toList == q.a.toList) && (p.d.toList == q.d.toList))
theorem flNe_no {p q : FlI} (h : p = q) : flNe p q = false := by subst h; unfold flNe; simp
theorem flNe_yes {p q : FlI} (h : p ≠ q) : flNe p q = true := by
  cases hb : flNe p q with
  | true => rfl
  | false =>
    exfalso
    apply h
    unfold flNe at hb
    simp only [Bool.not_eq_false', Bool.and_eq_true, beq_iff_eq] at hb
    obtain ⟨h1, h2⟩ := hb
    obtain ⟨a, b⟩ := p
    obtain ⟨e, f⟩ := q
    simp only at h1 h2
    rw [bl_inj h1, bl_inj h2]
set_option maxRecDepth 100000 in
set_option maxHeartbeats 1000000 in
theorem fl_neq (p q : FlI) (w : World) : Sem.run Try.prog (binOp .neq 88 (.agg #[.string p.a, .string p.d]) (.agg #[.string q.a, .string q.d])) w = .ok (.bool (flNe p q)) w := by
  have hS : Try.prog.underlying 88 = some (.struct (Try.prog.fieldsOf 88)) := by kernel_rfl
  have hp : Try.prog.stoodInHeld 88 = false := by kernel_rfl
  rw [run_neq_struct, show (10000 : Nat) = 9999 + 1 from rfl, run_equalIn_agg w 9999 88 _ _ hS hp]
  simp only [Program.fieldsOf, Try.underlying88]
  go_simp
  unfold flNe
  by_cases h1 : p.a.toList = q.a.toList <;> by_cases h2 : p.d.toList = q.d.toList <;> simp [h1, h2]
noncomputable def eqB (L M : List FlI) : Bool := open Classical in decide (L = M)
theorem eqB_yes {L M : List FlI} (h : L = M) : eqB L M = true := by unfold eqB; exact (open Classical in decide_eq_true h)
theorem eqB_no {L M : List FlI} (h : L ≠ M) : eqB L M = false := by unfold eqB; exact (open Classical in decide_eq_false h)
set_option maxRecDepth 100000 in
set_option maxHeartbeats 1500000 in
theorem ssame15_any (u v : Value) (L M : List FlI) (w : World) (hL : L.length ≤ 1100000) (hM : M.length ≤ 1100000) (hu : FlV w u L) (hv : FlV w v M) :
    Calls Try.prog 45 #[u, v] w fun e w' => e = .returned (.bool (eqB L M)) ∧ Below w.heap.size w w' := by
  have h1 := hu.arg
  have h2 := hv.arg
  obtain ⟨a, c, rfl, hr⟩ := h1
  obtain ⟨b, d, rfl, hs⟩ := h2
  clear hu hv
  by_cases hne : L.length = M.length
  rotate_left
  · rw [eqB_no fun c => hne (by rw [c])]
    have hn1 : ((L.length : Int) != (M.length : Int)) = true := by rw [bne_iff_ne]; omega
    have hn2 : ((L.length : Int) == (M.length : Int)) = false := beq_eq_false_iff_ne.2 (by omega)
    clear hr hs
    generalize L.length = n at hn1 hn2 ⊢
    generalize M.length = m at hn1 hn2 ⊢
    clear hL hM hne
    go_enter Try.func45, Try.ntmps45
    go_wp2_with fail
    go_ret
    exact ⟨rfl, Below.refl _ _⟩
  rw [← hne] at hs ⊢
  obtain ⟨n, hn⟩ : ∃ n, n = L.length := ⟨_, rfl⟩
  rw [← hn] at hr hs ⊢
  have hnJ : (n : Int) ≤ 1100000 := by omega
  have HN : Hid (n = L.length ∧ n = M.length) := ⟨hn, hn.trans hne⟩
  have HR : Hid (0 < n → ∃ g h, a = some ⟨g, 0, none⟩ ∧ b = some ⟨h, 0, none⟩ ∧ FlRow w g n (flF L) ∧ FlRow w h n (flF M)) := fun h0 => by
    obtain ⟨g, h1, h2⟩ := hr h0
    obtain ⟨h, h3, h4⟩ := hs h0
    exact ⟨g, h, h1, h3, h2, h4⟩
  clear hr hs hn hne hL hM
  go_enter Try.func45, Try.ntmps45
  go_wp2_with fail
  go_loopw [5] (fun y wr => ∃ i : Nat, i ≤ n ∧ y = .int .i64 (i : Int) ∧ Hid (∀ j, j < i → flF L j = flF M j) ∧ Hid (Below w.heap.size w wr ∧ wr.heap = w.heap)) (fun y _ => n - (intFl y).toNat)
  case atStart => exact ⟨0, by omega, rfl, fun j hj => absurd hj (by omega), Below.refl _ _, rfl⟩
  case round =>
    obtain ⟨i, hi, rfl, HT, HW⟩ := hrel
    by_cases hlt : i < n
    · have hltI : (i : Int) < (n : Int) := by omega
      obtain ⟨g, h, rfl, rfl, hg, hh⟩ := HR.out (by omega)
      obtain ⟨q, hq⟩ : ∃ q, q = 2 * i := ⟨_, rfl⟩
      have hiq : i * 2 = q := by omega
      have e : ∀ a, wr.cell? a = w.cell? a := fun a => by simp [World.cell?, HW.out.2]
      have x0 := hg.c0 i hlt
      have x1 := hg.c1 i hlt
      have y0 := hh.c0 i hlt
      have y1 := hh.c1 i hlt
      rw [← hq, ← e] at x0 x1 y0 y1
      have HEQ : Hid (flF L i = flF M i → ∀ j, j < i + 1 → flF L j = flF M j) := fun h j hj => by
        by_cases e : j = i
        · subst e; exact h
        · exact HT.out j (by omega)
      have HNQ : Hid (flF L i ≠ flF M i → eqB L M = false) := fun h => eqB_no fun c => h (by rw [c])
      have HIN := hidF hlt
      clear e hq hg hh
      generalize flF L i = P at x0 x1 HEQ HNQ
      generalize flF M i = Q at y0 y1 HEQ HNQ
      have hnq := fun w => fl_neq P Q w
      by_cases hpq : P = Q
      · rw [flNe_no hpq] at hnq
        have HE2 := hidF (HEQ.out hpq)
        clear HEQ HNQ hpq
        obtain ⟨pa, pd⟩ := P
        obtain ⟨qa, qd⟩ := Q
        simp only at x0 x1 y0 y1 hnq
        go_wp2_with fail
        go_region
        go_wp2_with fail
        go_roundw
        case rel => exact ⟨i + 1, by have := HIN.out; omega, by go_num, HE2, HW.out.1.drew, HW.out.2⟩
        case measure => simp [intFl]; have := HIN.out; omega
      · rw [flNe_yes hpq] at hnq
        have HE2 := hidF (HNQ.out hpq)
        clear HEQ HNQ hpq
        obtain ⟨pa, pd⟩ := P
        obtain ⟨qa, qd⟩ := Q
        simp only at x0 x1 y0 y1 hnq
        go_wp2_with fail
        go_region
        go_wp2_with fail
        go_ret
        exact ⟨by rw [HE2.out]; rfl, HW.out.1.drew⟩
    · obtain rfl : i = n := by omega
      have HF : Hid (eqB L M = true) := eqB_yes (List.ext_getElem (by rw [← HN.out.1, ← HN.out.2]) fun j h1 h2 => by
        have := HT.out j (by rw [HN.out.1]; exact h1)
        rwa [flF_at h1, flF_at h2] at this)
      go_wp2_with fail
      go_ret
      exact ⟨by rw [HF.out]; rfl, HW.out.1⟩
set_option maxRecDepth 100000 in
set_option maxHeartbeats 1500000 in
theorem equal15_any (u v : Value) (L M : List FlI) (w : World) (hL : L.length ≤ 1100000) (hM : M.length ≤ 1100000) (hu : FlV w u L) (hv : FlV w v M) :
    Calls Try.prog 79 #[u, v] w fun e w' => e = .returned (.bool (eqB L M)) ∧ Below w.heap.size w w' := by
  have h1 := hu.arg
  have h2 := hv.arg
  obtain ⟨a, c, rfl, hr⟩ := h1
  obtain ⟨b, d, rfl, hs⟩ := h2
  clear hu hv
  by_cases hne : L.length = M.length
  rotate_left
  · rw [eqB_no fun c => hne (by rw [c])]
    have hn1 : ((L.length : Int) != (M.length : Int)) = true := by rw [bne_iff_ne]; omega
    have hn2 : ((L.length : Int) == (M.length : Int)) = false := beq_eq_false_iff_ne.2 (by omega)
    clear hr hs
    generalize L.length = n at hn1 hn2 ⊢
    generalize M.length = m at hn1 hn2 ⊢
    clear hL hM hne
    go_enter Try.func79, Try.ntmps79
    go_wp2_with fail
    go_ret
    exact ⟨rfl, Below.refl _ _⟩
  rw [← hne] at hs ⊢
  obtain ⟨n, hn⟩ : ∃ n, n = L.length := ⟨_, rfl⟩
  rw [← hn] at hr hs ⊢
  have hnJ : (n : Int) ≤ 1100000 := by omega
  have HN : Hid (n = L.length ∧ n = M.length) := ⟨hn, hn.trans hne⟩
  have HR : Hid (0 < n → ∃ g h, a = some ⟨g, 0, none⟩ ∧ b = some ⟨h, 0, none⟩ ∧ FlRow w g n (flF L) ∧ FlRow w h n (flF M)) := fun h0 => by
    obtain ⟨g, h1, h2⟩ := hr h0
    obtain ⟨h, h3, h4⟩ := hs h0
    exact ⟨g, h, h1, h3, h2, h4⟩
  clear hr hs hn hne hL hM
  go_enter Try.func79, Try.ntmps79
  go_wp2_with fail
  go_loopw [13] (fun y wr => ∃ i : Nat, i ≤ n ∧ y = .int .i64 (i : Int) ∧ Hid (∀ j, j < i → flF L j = flF M j) ∧ Hid (Below w.heap.size w wr ∧ wr.heap = w.heap)) (fun y _ => n - (intFl y).toNat)
  case atStart => exact ⟨0, by omega, rfl, fun j hj => absurd hj (by omega), Below.refl _ _, rfl⟩
  case round =>
    obtain ⟨i, hi, rfl, HT, HW⟩ := hrel
    by_cases hlt : i < n
    · have hltI : (i : Int) < (n : Int) := by omega
      obtain ⟨g, h, rfl, rfl, hg, hh⟩ := HR.out (by omega)
      obtain ⟨q, hq⟩ : ∃ q, q = 2 * i := ⟨_, rfl⟩
      have hiq : i * 2 = q := by omega
      have e : ∀ a, wr.cell? a = w.cell? a := fun a => by simp [World.cell?, HW.out.2]
      have x0 := hg.c0 i hlt
      have x1 := hg.c1 i hlt
      have y0 := hh.c0 i hlt
      have y1 := hh.c1 i hlt
      rw [← hq, ← e] at x0 x1 y0 y1
      have HEQ : Hid (flF L i = flF M i → ∀ j, j < i + 1 → flF L j = flF M j) := fun h j hj => by
        by_cases e : j = i
        · subst e; exact h
        · exact HT.out j (by omega)
      have HNQ : Hid (flF L i ≠ flF M i → eqB L M = false) := fun h => eqB_no fun c => h (by rw [c])
      have HIN := hidF hlt
      clear e hq hg hh
      generalize flF L i = P at x0 x1 HEQ HNQ
      generalize flF M i = Q at y0 y1 HEQ HNQ
      have hnq := fun w => fl_neq P Q w
      by_cases hpq : P = Q
      · rw [flNe_no hpq] at hnq
        have HE2 := hidF (HEQ.out hpq)
        clear HEQ HNQ hpq
        obtain ⟨pa, pd⟩ := P
        obtain ⟨qa, qd⟩ := Q
        simp only at x0 x1 y0 y1 hnq
        go_wp2_with fail
        go_region
        go_wp2_with fail
        go_roundw
        case rel => exact ⟨i + 1, by have := HIN.out; omega, by go_num, HE2, HW.out.1.drew, HW.out.2⟩
        case measure => simp [intFl]; have := HIN.out; omega
      · rw [flNe_yes hpq] at hnq
        have HE2 := hidF (HNQ.out hpq)
        clear HEQ HNQ hpq
        obtain ⟨pa, pd⟩ := P
        obtain ⟨qa, qd⟩ := Q
        simp only at x0 x1 y0 y1 hnq
        go_wp2_with fail
        go_region
        go_wp2_with fail
        go_ret
        exact ⟨by rw [HE2.out]; rfl, HW.out.1.drew⟩
    · obtain rfl : i = n := by omega
      have HF : Hid (eqB L M = true) := eqB_yes (List.ext_getElem (by rw [← HN.out.1, ← HN.out.2]) fun j h1 h2 => by
        have := HT.out j (by rw [HN.out.1]; exact h1)
        rwa [flF_at h1, flF_at h2] at this)
      go_wp2_with fail
      go_ret
      exact ⟨by rw [HF.out]; rfl, HW.out.1⟩
end Go.Proofs.Ytanlggglbpibfaa
