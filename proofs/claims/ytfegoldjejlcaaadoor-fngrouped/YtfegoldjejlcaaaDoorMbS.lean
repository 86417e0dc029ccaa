/-
  Whether members are right: the specification's, name by name.
-/
import Derived.Test.YtfegoldjejlcaaaDoorMbC
import Derived.BigQuiet
import Derived.BigRegion
namespace Go.Proofs.YtfegoldjejlcaaaDoor
open Go.RowKit
set_option linter.unusedVariables false
set_option linter.unusedSimpArgs false
set_option maxRecDepth 100000 in
set_option maxHeartbeats 4000000 in
theorem smbs_loop (a : Option Addr) (c n : Nat) (F : Nat → MbI) (w : World) (hn : n ≤ 60) (hF : MbLe F n) (hr : 0 < n → ∃ g, a = some ⟨g, 0, none⟩ ∧ MbRow w g n F) :
    Calls Tryd.prog 25 #[.slice a n c] w fun e w' => e = .returned (.bool (mbB F n)) ∧ Below w.heap.size w w' := by
  have hnI : ¬ (60 : Int) < (n : Int) := by omega
  have hn60 : (n : Int) ≤ 60 := by omega
  have HF := hidM hF
  have HR : Hid (0 < n → ∃ g, a = some ⟨g, 0, none⟩ ∧ MbRow w g n F) := hr
  clear hr hF
  go_enter Tryd.func25, Tryd.ntmps25
  go_wp2_with fail
  go_loopw [3, 4] (fun u x wr => ∃ i : Nat, i ≤ n ∧ x = .int .i64 (i : Int) ∧ u = .int .i64 ((mbSum F i : Nat) : Int) ∧ Hid ((∀ j, j < i → mbN (F j)) ∧ mbSum F i ≤ 4000 ∧ mbU F i) ∧ Hid (Below w.heap.size w wr)) (fun _ x _ => n - (intMb x).toNat)
  case atStart => exact ⟨0, by omega, rfl, rfl, ⟨fun j hj => absurd hj (by omega), Nat.zero_le _, fun j k hk hj => absurd hj (by omega)⟩, Below.refl _ _⟩
  case round =>
    obtain ⟨i, hi, rfl, rfl, HG, HB⟩ := hrel
    by_cases hlt : i < n
    · have hltI : (i : Int) < (n : Int) := by omega
      obtain ⟨g, rfl, hrow⟩ := HR.out (by omega)
      have HRW : Hid (∀ w', Below w.heap.size w w' → MbRow w' g n F) := fun w' hb => hrow.below hb hrow.lt
      have hrow2 := HRW.out wr HB.out
      obtain ⟨q, hq⟩ : ∃ q, q = 2 * i := ⟨_, rfl⟩
      have x0 := hrow2.c0 i hlt
      have x1 := hrow2.c1 i hlt
      rw [← hq] at x0 x1
      have hiq : i * 2 = q := by omega
      have HQ : Hid (q = 2 * i) := hq
      have HNO : Hid (¬ mbN (F i) → mbB F n = false) := fun h => mbB_no fun c => h (c.2.1 i hlt)
      have HNS : Hid (4000 < mbSum F (i + 1) → mbB F n = false) := fun h => mbB_no fun c => by
        have h1 := mbSum_mono F (i := i + 1) (n := n) hlt
        have h2 := c.2.2.1
        omega
      have HS : Hid (mbSum F (i + 1) = mbSum F i + (F i).d.size) := rfl
      have hs0 := HG.out.2.1
      have hsd := (HF.out.n hlt).2
      obtain ⟨X, hX⟩ : ∃ X, X = mbSum F i := ⟨_, rfl⟩
      rw [← hX] at HS hs0 ⊢
      have HIL : Hid (i < n ∧ i ≤ 60) := ⟨hlt, by omega⟩
      have hi60 : i ≤ 60 := by omega
      clear hrow hrow2 hq hX
      have hin : mbN (F i) ∨ ¬ mbN (F i) := Classical.em _
      obtain ⟨pa, hpa⟩ : ∃ pa, pa = (F i).a := ⟨_, rfl⟩
      obtain ⟨pd, hpd⟩ : ∃ pd, pd = (F i).d := ⟨_, rfl⟩
      rw [← hpa] at x0
      rw [← hpd] at x1 HS hsd
      have HPA : Hid (pa = (F i).a) := hpa
      have HPD : Hid (pd = (F i).d) := hpd
      have hw : IntKind.i64.wrap ((X : Int) + (pd.size : Int)) = ((X + pd.size : Nat) : Int) := by rw [IntKind.wrap_i64]; omega
      unfold mbN at hin HNO
      rw [← hpa] at hin HNO
      clear hpa hpd
      rcases hin with ⟨h1, h2⟩ | hno
      · have h1I : ¬ (pa.size : Int) < 1 := by omega
        have h2I : ¬ (120 : Int) < (pa.size : Int) := by omega
        have HIN : Hid (mbN (F i)) := ⟨by rw [← HPA.out]; exact h1, by rw [← HPA.out]; exact h2⟩
        have HX1 := hidM x1
        have hsX : Hid (X ≤ 4000 ∧ pd.size ≤ 1100000) := ⟨hs0, hsd⟩
        have HW := hidM hw
        clear h1 h2 HNO x1 hs0 hsd hw
        go_wp2_with fail
        clear h1I h2I
        go_loopw [5] (fun y wr2 => ∃ k : Nat, k ≤ i ∧ y = .int .i64 (k : Int) ∧ Hid (∀ j, j < k → (F j).a ≠ (F i).a) ∧ Below w.heap.size w wr2) (fun y _ => i - (intMb y).toNat)
        case atStart => exact ⟨0, by omega, rfl, fun j hj => absurd hj (by omega), HB.out⟩
        case round =>
          obtain ⟨k, hk, rfl, HK, hb2⟩ := hrel
          by_cases hki : k < i
          · have hkI : (k : Int) < (i : Int) := by omega
            have hrowk := HRW.out _ hb2
            have kn : k < n := by have := HIL.out; omega
            have y0 := hrowk.c0 k kn
            have z0 := hrowk.c0 i HIL.out.1
            rw [← HQ.out, ← HPA.out] at z0
            obtain ⟨t, ht⟩ : ∃ t, t = 2 * k := ⟨_, rfl⟩
            rw [← ht] at y0
            have hkt : k * 2 = t := by omega
            have hknI : (k : Int) < (n : Int) := by omega
            have HCN : Hid ((F k).a ≠ (F i).a → ∀ j, j < k + 1 → (F j).a ≠ (F i).a) := fun h j hj => by
              by_cases e : j < k
              · exact HK.out j e
              · obtain rfl : j = k := by omega
                exact h
            have HEQ : Hid ((F k).a = (F i).a → mbB F n = false) := fun h => mbB_no fun c => c.2.2.2 k i hki HIL.out.1 h
            rw [← HPA.out] at HCN HEQ
            have HBB := hidM hb2
            generalize (F k).a = ka at y0 HCN HEQ
            clear hrowk ht hb2 x0
            by_cases he : ka = pa
            · subst he
              have HEE := hidM (HEQ.out rfl)
              clear HEQ HCN
              go_wp2_with fail
              go_region
              go_wp2_with fail
              go_ret
              exact ⟨by rw [HEE.out]; rfl, HBB.out.drew⟩
            · have he2 : (ka.toList == pa.toList) = false := by
                refine beq_eq_false_iff_ne.2 fun c => he ?_
                rw [ByteArray.toList_eq, ByteArray.toList_eq] at c
                have h2 : ka.data = pa.data := Array.toList_inj.1 c
                cases ka; cases pa
                simp at h2
                rw [h2]
              have HCC := hidM (HCN.out he)
              clear HEQ HCN he
              go_wp2_with fail
              go_region
              go_wp2_with fail
              go_roundw
              case rel => exact ⟨k + 1, by omega, by go_num, by rw [← HPA.out]; exact HCC, HBB.out.drew⟩
              case measure => simp [intMb]; omega
          · obtain rfl : k = i := by omega
            have HU : Hid (mbU F (k + 1)) := fun p r hpr hr => by
              by_cases e : r < k
              · exact HG.out.2.2 p r hpr e
              · obtain rfl : r = k := by omega
                exact HK.out p hpr
            have HNN : Hid (∀ j, j < k + 1 → mbN (F j)) := fun j hj => by
              by_cases e : j < k
              · exact HG.out.1 j e
              · obtain rfl : j = k := by omega
                exact HIN.out
            have hrowk := HRW.out _ hb2
            have x1 := hrowk.c1 k HIL.out.1
            rw [← HQ.out, ← HPD.out] at x1
            have hw := HW.out
            have HBB := hidM hb2
            clear hrowk hb2 HG HX1
            by_cases h5 : X + pd.size ≤ 4000
            · have h5I : ¬ (4000 : Int) < ((X + pd.size : Nat) : Int) := by omega
              have H5 : Hid (mbSum F (k + 1) ≤ 4000) := by rw [HS.out]; exact h5
              clear h5
              obtain ⟨Y, hY⟩ : ∃ Y, Y = X + pd.size := ⟨_, rfl⟩
              rw [← hY] at hw h5I HS
              clear hY
              go_wp2_with fail
              go_roundw
              case rel => exact ⟨k + 1, by omega, by go_num, by rw [HS.out], ⟨HNN.out, H5.out, HU.out⟩, HBB⟩
              case measure => simp [intMb]; omega
            · have h5I : (4000 : Int) < ((X + pd.size : Nat) : Int) := by omega
              have H5 : Hid (mbB F n = false) := HNS.out (by rw [HS.out]; omega)
              clear h5
              obtain ⟨Y, hY⟩ : ∃ Y, Y = X + pd.size := ⟨_, rfl⟩
              rw [← hY] at hw h5I HS
              clear hY
              go_wp2_with fail
              go_ret
              exact ⟨by rw [H5.out]; rfl, HBB.out⟩
      · have HNN := hidM (HNO.out hno)
        by_cases h1 : 1 ≤ pa.size
        · have h2I : (120 : Int) < (pa.size : Int) := by
            have : ¬ pa.size ≤ 120 := fun c => hno ⟨h1, c⟩
            omega
          have h1I : ¬ (pa.size : Int) < 1 := by omega
          clear h1 hno HNO HNS HS hw x1
          go_wp2_with fail
          go_ret
          exact ⟨by rw [HNN.out]; rfl, HB.out⟩
        · have h1I : (pa.size : Int) < 1 := by omega
          clear h1 hno HNO HNS HS hw x1
          go_wp2_with fail
          go_ret
          exact ⟨by rw [HNN.out]; rfl, HB.out⟩
    · obtain rfl : i = n := by omega
      have HQ : Hid (mbB F i = true) := mbB_yes ⟨hn, HG.out.1, HG.out.2.1, HG.out.2.2⟩
      clear HG
      generalize mbSum F i = X
      go_wp2_with fail
      go_ret
      exact ⟨by rw [HQ.out]; rfl, HB.out⟩
set_option maxRecDepth 100000 in
theorem smbs_bad (a : Option Addr) (c n : Nat) (F : Nat → MbI) (w : World) (h : ¬ n ≤ 60) :
    Calls Tryd.prog 25 #[.slice a n c] w fun e w' => e = .returned (.bool (mbB F n)) ∧ Below w.heap.size w w' := by
  rw [mbB_no fun c => h c.1]
  have h3I : (60 : Int) < (n : Int) := by omega
  clear h
  go_enter Tryd.func25, Tryd.ntmps25
  go_wp2_with fail
  go_ret
  exact ⟨rfl, Below.refl _ _⟩
theorem smbs_any (v : Value) (n : Nat) (F : Nat → MbI) (w : World) (hF : MbLe F n) (h : MbArg w v n F) :
    Calls Tryd.prog 25 #[v] w fun e w' => e = .returned (.bool (mbB F n)) ∧ Below w.heap.size w w' := by
  obtain ⟨a, c, rfl, hr⟩ := h
  by_cases h : n ≤ 60
  · exact smbs_loop a c n F w h hF hr
  · exact smbs_bad a c n F w h
end Go.Proofs.YtfegoldjejlcaaaDoor
