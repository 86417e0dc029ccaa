/-
  Whether pieces are right: the code's.
-/
import Derived.Test.YtpeddaljgmkomaaPcOk
namespace Go.Proofs.Ytpeddaljgmkomaa
open Go.RowKit
set_option linter.unusedVariables false
set_option linter.unusedSimpArgs false
noncomputable def pcB (F : Nat → PcI) (n : Nat) (old : Int) : Bool := open Classical in decide (pcR F n old)
theorem pcB_yes {F : Nat → PcI} {n : Nat} {old : Int} (h : pcR F n old) : pcB F n old = true := by unfold pcB; simp [h]
theorem pcB_no {F : Nat → PcI} {n : Nat} {old : Int} (h : ¬ pcR F n old) : pcB F n old = false := by unfold pcB; simp [h]
/-- what the law's measure lets in -/
structure PcLe (F : Nat → PcI) (n : Nat) : Prop where
  len : n ≤ 1048576
  d : ∀ i, i < n → (F i).d.size ≤ 1048576
set_option maxRecDepth 100000 in
set_option maxHeartbeats 2000000 in
theorem pcs_loop (a : Option Addr) (c n : Nat) (F : Nat → PcI) (old : Int) (w : World) (ho : 0 ≤ old) (ho2 : old ≤ 4000) (hn : n ≤ 500) (hd : ∀ i, i < n → (F i).d.size ≤ 1048576) (hr : 0 < n → ∃ g, a = some ⟨g, 0, none⟩ ∧ PcRow w g n F) :
    Calls Try.prog 80 #[.int .i64 old, .slice a n c] w fun e w' => e = .returned (.bool (pcB F n old)) ∧ Below w.heap.size w w' := by
  have hnI : (n : Int) ≤ 500 := by omega
  have hnI2 : ¬ (500 : Int) < (n : Int) := by omega
  have hoI : ¬ old < 0 := by omega
  have hoI2 : ¬ 4000 < old := by omega
  have HY : Hid (∀ p w, pcP p old → Calls Try.prog 101 #[pcV p.f p.l p.d, .int .i64 old] w fun e w' => e = .returned (.bool true) ∧ Below w.heap.size w w') := fun p w h => okFor_yes p old w h ho2
  have HN : Hid (∀ p w, ¬ pcP p old → Calls Try.prog 101 #[pcV p.f p.l p.d, .int .i64 old] w fun e w' => e = .returned (.bool false) ∧ Below w.heap.size w w') := fun p w h => okFor_no p old w h ho2
  unfold pcV at HY HN
  have HR : Hid (0 < n → ∃ g, a = some ⟨g, 0, none⟩ ∧ PcRow w g n F) := hr
  have HD : Hid (∀ i, i < n → (F i).d.size ≤ 1048576) := hd
  have HO : Hid (0 ≤ old ∧ old ≤ 4000 ∧ n ≤ 500) := ⟨ho, ho2, hn⟩
  have HM : Hid (∀ w', Below w.heap.size w w' → (∀ j, j < n → pcP (F j) old) → Calls Try.prog 81 #[.slice a n c] w' fun e w'' => e = .returned (.int .i64 (pcSum F n)) ∧ Below w'.heap.size w' w'') := fun w' hb hg =>
    made_any _ n F old w' hn ho2 hd hg ⟨a, c, rfl, fun h0 => by obtain ⟨g, h1, h2⟩ := hr h0; exact ⟨g, h1, h2.below hb h2.lt⟩⟩
  clear hr hd
  go_enter Try.func80, Try.ntmps80
  go_wp2_with fail
  go_loopw [20] (fun v wr => ∃ (i : Nat), i ≤ n ∧ v = .int .i64 (i : Int) ∧ Hid (∀ j, j < i → pcP (F j) old) ∧ Hid (Below w.heap.size w wr)) (fun v _ => n - (intN v).toNat)
  case atStart => exact ⟨0, by omega, rfl, fun j hj => absurd hj (by omega), Below.refl _ _⟩
  case round =>
    obtain ⟨i, hi, rfl, HG, HB⟩ := hrel
    by_cases hlt : i < n
    · have hltI : (i : Int) < (n : Int) := by omega
      obtain ⟨g, rfl, hrow⟩ := HR.out (by omega)
      have hrow2 := hrow.below HB.out hrow.lt
      obtain ⟨q, hq⟩ : ∃ q, q = 3 * i := ⟨_, rfl⟩
      have x0 := hrow2.c0 i hlt
      have x1 := hrow2.c1 i hlt
      have x2 := hrow2.c2 i hlt
      rw [← hq] at x0 x1 x2
      have hiq : i * 3 = q := by omega
      have HST : Hid (pcP (F i) old → ∀ j, j < i + 1 → pcP (F j) old) := fun h j hj => by
        by_cases e : j < i
        · exact HG.out j e
        · obtain rfl : j = i := by omega
          exact h
      have HNO : Hid (¬ pcP (F i) old → pcB F n old = false) := fun h => pcB_no fun c => h (c.2.2.2.1 i hlt)
      have HLT : Hid (i < n) := hlt
      clear hrow hrow2 hq HG
      generalize F i = p at x0 x1 x2 HST HNO
      have HY2 := HY.out p
      have HN2 := HN.out p
      have HY2 : Hid (∀ w, pcP p old → _) := HY2
      have HN2 : Hid (∀ w, ¬ pcP p old → _) := HN2
      have HB1 : Hid (Below w.heap.size w (wr.alloc (.cells #[.int .i64 p.f, .int .i64 p.l, .string p.d] 89))) := HB.out.alloc HB.out.size _
      by_cases hp : pcP p old
      · have HST2 : Hid _ := HST.out hp
        have HP : Hid (pcP p old) := hp
        clear hp HST HNO HN2
        go_wp2_with fail
        refine (HY2.out _ HP.out).mono ?_
        rintro e w3 ⟨rfl, hb3⟩
        have HB3 : Hid (Below w.heap.size w w3) := bl3 HB1.out hb3 HB1.out.size
        clear hb3 x0 x1 x2 HB HB1 HY2 HP
        go_wp2_with fail
        go_roundw
        case rel => exact ⟨i + 1, by omega, by go_num, HST2, HB3⟩
        case measure => simp [intN]; omega
      · have HNN : Hid (pcB F n old = false) := HNO.out hp
        have HP : Hid (¬ pcP p old) := hp
        clear hp HST HNO HY2
        go_wp2_with fail
        refine (HN2.out _ HP.out).mono ?_
        rintro e w3 ⟨rfl, hb3⟩
        have HB3 : Hid (Below w.heap.size w w3) := bl3 HB1.out hb3 HB1.out.size
        clear hb3 x0 x1 x2 HB HB1 HP HN2
        go_wp2_with fail
        go_ret
        exact ⟨by rw [HNN.out]; rfl, HB3.out⟩
    · obtain rfl : i = n := by omega
      have HM2 : Hid (Calls Try.prog 81 #[.slice a i c] wr fun e w'' => e = .returned (.int .i64 (pcSum F i)) ∧ Below wr.heap.size wr w'') := HM.out _ HB.out HG.out
      clear HM HY HN HR
      by_cases h4 : pcSum F i ≤ 4000
      · have HQ : Hid (pcB F i old = true) := pcB_yes ⟨HO.out.1, HO.out.2.1, HO.out.2.2, HG.out, h4⟩
        clear HG
        generalize pcSum F i = X at h4 HM2
        go_wp2_with fail
        refine HM2.out.mono ?_
        rintro e w3 ⟨rfl, hb3⟩
        have HB3 : Hid (Below w.heap.size w w3) := bl3 HB.out hb3 HB.out.size
        clear hb3
        go_wp2_with fail
        go_ret
        exact ⟨by rw [HQ.out]; rfl, HB3.out⟩
      · have HQ : Hid (pcB F i old = false) := pcB_no fun c => h4 c.2.2.2.2
        clear HG
        generalize pcSum F i = X at h4 HM2
        go_wp2_with fail
        refine HM2.out.mono ?_
        rintro e w3 ⟨rfl, hb3⟩
        have HB3 : Hid (Below w.heap.size w w3) := bl3 HB.out hb3 HB.out.size
        clear hb3
        go_wp2_with fail
        go_ret
        have e : decide (X ≤ 4000) = false := decide_eq_false (by omega)
        exact ⟨by rw [HQ.out, ← e]; rfl, HB3.out⟩
set_option maxRecDepth 100000 in
set_option maxHeartbeats 1000000 in
theorem pcs_bad (a : Option Addr) (c n : Nat) (F : Nat → PcI) (old : Int) (w : World) (h : ¬ (0 ≤ old ∧ old ≤ 4000 ∧ n ≤ 500)) :
    Calls Try.prog 80 #[.int .i64 old, .slice a n c] w fun e w' => e = .returned (.bool (pcB F n old)) ∧ Below w.heap.size w w' := by
  rw [pcB_no fun c => h ⟨c.1, c.2.1, c.2.2.1⟩]
  by_cases h1 : 0 ≤ old
  · by_cases h2 : old ≤ 4000
    · have h3 : ¬ n ≤ 500 := fun c => h ⟨h1, h2, c⟩
      have h3I : (500 : Int) < (n : Int) := by omega
      clear h h3
      go_enter Try.func80, Try.ntmps80
      go_wp2_with fail
      go_ret
      exact ⟨rfl, Below.refl _ _⟩
    · clear h
      go_enter Try.func80, Try.ntmps80
      go_wp2_with fail
      go_ret
      exact ⟨rfl, Below.refl _ _⟩
  · clear h
    go_enter Try.func80, Try.ntmps80
    go_wp2_with fail
    go_ret
    exact ⟨rfl, Below.refl _ _⟩
theorem pcs_any (v : Value) (n : Nat) (F : Nat → PcI) (old : Int) (w : World) (hF : PcLe F n) (h : PcArg w v n F) :
    Calls Try.prog 80 #[.int .i64 old, v] w fun e w' => e = .returned (.bool (pcB F n old)) ∧ Below w.heap.size w w' := by
  obtain ⟨a, c, rfl, hr⟩ := h
  by_cases h : 0 ≤ old ∧ old ≤ 4000 ∧ n ≤ 500
  · exact pcs_loop a c n F old w h.1 h.2.1 h.2.2 hF.d hr
  · exact pcs_bad a c n F old w h
end Go.Proofs.Ytpeddaljgmkomaa
