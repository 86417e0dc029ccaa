/-
  What pieces make: the code's.
-/
import Derived.Test.YtpeddaljgmkomaaPatM
import Derived.Test.YtpeddaljgmkomaaBld
namespace Go.Proofs.Ytpeddaljgmkomaa
open Go.RowKit
set_option linter.unusedVariables false
set_option linter.unusedSimpArgs false
set_option maxRecDepth 100000 in
set_option maxHeartbeats 2000000 in
theorem pat_yes (old : ByteArray) (a : Option Addr) (c n : Nat) (F : Nat → PcI) (w : World) (hF : PcLe F n) (hok : pcR F n (old.size : Int)) (hr : 0 < n → ∃ g, a = some ⟨g, 0, none⟩ ∧ PcRow w g n F) :
    Calls Try.prog 95 #[.string old, .slice a n c] w fun e w' => e = .returned (.tuple #[.string (patB old F n), .bool true]) ∧ Below w.heap.size w w' := by
  have hnI : (n : Int) ≤ 500 := by have := hok.2.2.1; omega
  have HK : Hid (∀ w, PcArg w (.slice a n c) n F → Calls Try.prog 80 #[.int .i64 (old.size : Int), .slice a n c] w fun e w' => e = .returned (.bool true) ∧ Below w.heap.size w w') := fun w h => by
    have h2 := pcs_any (.slice a n c) n F (old.size : Int) w hF h
    rw [pcB_yes hok] at h2
    exact h2
  have HR : Hid (∀ w', Below w.heap.size w w' → 0 < n → ∃ g, a = some ⟨g, 0, none⟩ ∧ PcRow w' g n F) := fun w' hb h0 => by
    obtain ⟨g, h1, h2⟩ := hr h0
    exact ⟨g, h1, h2.below hb h2.lt⟩
  have HA : Hid (PcArg w (.slice a n c) n F) := ⟨a, c, rfl, hr⟩
  have HO : Hid (pcR F n (old.size : Int)) := hok
  clear hr hok hF
  go_enter Try.func95, Try.ntmps95
  go_wp2_with fail
  refine (HK.out _ HA.out).mono ?_
  rintro e w1 ⟨rfl, hb1⟩
  have HB1 : Hid (Below w.heap.size w w1) := hb1
  have HBL : Hid (BldIs w1.heap.size w1.heap.size ⟨#[]⟩ (w1.alloc (.cells #[.pointer none, .slice none 0 0] 99))) := bld_new w1
  have HB2 : Hid (Below w.heap.size w (w1.alloc (.cells #[.pointer none, .slice none 0 0] 99))) := hb1.alloc hb1.size _
  clear hb1
  go_wp2_with fail
  go_loopw [16] (fun v wr => ∃ (i : Nat), i ≤ n ∧ v = .int .i64 (i : Int) ∧ w1.heap.size ≤ wr.heap.size ∧ Hid (BldIs w1.heap.size w1.heap.size (patB old F i) wr) ∧ Hid (Below w.heap.size w wr)) (fun v _ => n - (intN v).toNat)
  case atStart => exact ⟨0, by omega, rfl, by simp, HBL, HB2⟩
  case round =>
    clear HBL HB2
    obtain ⟨i, hi, rfl, hws, HBL, HB⟩ := hrel
    by_cases hlt : i < n
    · have hltI : (i : Int) < (n : Int) := by omega
      obtain ⟨g, rfl, hrow⟩ := HR.out _ HB.out (by omega)
      obtain ⟨q, hq⟩ : ∃ q, q = 3 * i := ⟨_, rfl⟩
      have x0 := hrow.c0 i hlt
      have x1 := hrow.c1 i hlt
      have x2 := hrow.c2 i hlt
      rw [← hq] at x0 x1 x2
      have hiq : i * 3 = q := by omega
      have hp := HO.out.2.2.2.1 i hlt
      have hle := patB_le HO.out (i := i) (by omega)
      have hle2 := patB_le HO.out (i := i + 1) (by omega)
      have HST : Hid (patB old F (i + 1) = patB old F i ++ pcTx old (F i)) := rfl
      have hb0 : ∀ X, Below w.heap.size w (wr.alloc X) := fun X => HB.out.alloc HB.out.size _
      have HB0 : Hid _ := hb0
      have HBL1 : Hid (∀ X, BldIs w1.heap.size w1.heap.size (patB old F i) (wr.alloc X)) := fun X => HBL.out.alloc X
      have hold := HO.out.2.1
      clear hrow hq hb0 HBL HB
      generalize F i = p at x0 x1 x2 hp HST
      rw [HST.out] at hle2
      generalize patB old F i = acc at hle hle2 HST HBL1
      obtain ⟨f, l, d⟩ := p
      simp only at x0 x1 x2
      rcases hp with ⟨h, h1, h2, h3, h4⟩ | ⟨h, h1, h2⟩
      · simp only at h h1 h2 h3 h4
        subst h
        rw [pcTx_no rfl] at hle2 HST
        have hwo : IntKind.i64.wrap (f + l) = f + l := by rw [IntKind.wrap_i64]; omega
        obtain ⟨f2, rfl⟩ : ∃ f2 : Nat, f = (f2 : Int) := ⟨f.toNat, by omega⟩
        obtain ⟨l2, rfl⟩ : ∃ l2 : Nat, l = (l2 : Int) := ⟨l.toNat, by omega⟩
        have e1 : (f2 : Int) + (l2 : Int) = ((f2 + l2 : Nat) : Int) := by omega
        simp only [e1, Int.toNat_natCast] at hle2 HST hwo
        have hs1 : f2 ≤ f2 + l2 := by omega
        have hs2 : f2 + l2 ≤ old.size := by omega
        obtain ⟨z, hz⟩ : ∃ z, z = f2 + l2 := ⟨_, rfl⟩
        rw [← hz] at e1 hle2 HST hwo hs1 hs2
        have hs1I : (f2 : Int) ≤ (z : Int) := by omega
        have hs2I : (z : Int) ≤ (old.size : Int) := by omega
        clear hz h1 h2 h3 h4
        go_wp2_with fail
        refine (bld_add w1.heap.size w1.heap.size acc _ _ (HBL1.out _) (by rw [← ByteArray.size_append]; omega) (by simp; omega)).mono ?_
        rintro e w3 ⟨rfl, hbl3, hb3⟩
        have HB3 : Hid (Below w.heap.size w w3) := (HB0.out _).trans (hb3.mono HB1.out.size)
        have HBL3 : Hid (BldIs w1.heap.size w1.heap.size (patB old F (i + 1)) w3) := by rw [HST.out]; exact hbl3
        have hws3 : w1.heap.size ≤ w3.heap.size := by have := hb3.size; simp at this; omega
        clear hb3 hbl3 HST hle hle2 x0 x1 x2 HB0 HBL1
        go_wp2_with fail
        go_roundw
        case rel => exact ⟨i + 1, by omega, by go_num, hws3, HBL3, HB3⟩
        case measure => simp [intN]; omega
      · simp only at h h1 h2
        subst h1 h2
        rw [pcTx_yes h] at hle2 HST
        have he := d_ne h
        simp only at he hle2 HST
        clear h
        go_wp2_with fail
        refine (bld_add w1.heap.size w1.heap.size acc _ _ (HBL1.out _) (by rw [← ByteArray.size_append]; omega) (by simp; omega)).mono ?_
        rintro e w3 ⟨rfl, hbl3, hb3⟩
        have HB3 : Hid (Below w.heap.size w w3) := (HB0.out _).trans (hb3.mono HB1.out.size)
        have HBL3 : Hid (BldIs w1.heap.size w1.heap.size (patB old F (i + 1)) w3) := by rw [HST.out]; exact hbl3
        have hws3 : w1.heap.size ≤ w3.heap.size := by have := hb3.size; simp at this; omega
        clear hb3 hbl3 HST hle hle2 x0 x1 x2 HB0 HBL1
        go_wp2_with fail
        go_roundw
        case rel => exact ⟨i + 1, by omega, by go_num, hws3, HBL3, HB3⟩
        case measure => simp [intN]; omega
    · obtain rfl : i = n := by omega
      go_wp2_with fail
      refine (bld_tell w1.heap.size w1.heap.size (patB old F i) _ HBL.out hws).mono ?_
      rintro e w3 ⟨rfl, hb3⟩
      have HB3 : Hid (Below w.heap.size w w3) := HB.out.trans (hb3.mono HB1.out.size)
      clear hb3
      go_wp2_with fail
      go_ret2
      exact ⟨rfl, HB3.out⟩
set_option maxRecDepth 100000 in
set_option maxHeartbeats 1000000 in
theorem pat_no (old : ByteArray) (v : Value) (n : Nat) (F : Nat → PcI) (w : World) (hF : PcLe F n) (hok : ¬ pcR F n (old.size : Int)) (hr : PcArg w v n F) :
    Calls Try.prog 95 #[.string old, v] w fun e w' => e = .returned (.tuple #[.string ⟨#[]⟩, .bool false]) ∧ Below w.heap.size w w' := by
  have HK : Hid (Calls Try.prog 80 #[.int .i64 (old.size : Int), v] w fun e w' => e = .returned (.bool false) ∧ Below w.heap.size w w') := by
    have h2 := pcs_any v n F (old.size : Int) w hF hr
    rw [pcB_no hok] at h2
    exact h2
  obtain ⟨a, c, rfl, _⟩ := hr
  clear hok hF
  go_enter Try.func95, Try.ntmps95
  go_wp2_with fail
  refine HK.out.mono ?_
  rintro e w1 ⟨rfl, hb1⟩
  go_wp2_with fail
  go_ret2
  exact ⟨rfl, hb1⟩
theorem patB_zero (old : ByteArray) (F : Nat → PcI) (n : Nat) (h : ¬ pcR F n (old.size : Int)) : patV old F n = ⟨#[]⟩ := by unfold patV; rw [pcB_no h]; rfl
theorem patB_some (old : ByteArray) (F : Nat → PcI) (n : Nat) (h : pcR F n (old.size : Int)) : patV old F n = patB old F n := by unfold patV; rw [pcB_yes h]; rfl
theorem pat_any (old : ByteArray) (v : Value) (n : Nat) (F : Nat → PcI) (w : World) (hF : PcLe F n) (hr : PcArg w v n F) :
    Calls Try.prog 95 #[.string old, v] w fun e w' => e = .returned (.tuple #[.string (patV old F n), .bool (pcB F n (old.size : Int))]) ∧ Below w.heap.size w w' := by
  by_cases h : pcR F n (old.size : Int)
  · rw [patB_some old F n h, pcB_yes h]
    obtain ⟨a, c, rfl, hr⟩ := hr
    exact pat_yes old a c n F w hF h hr
  · rw [patB_zero old F n h, pcB_no h]
    exact pat_no old v n F w hF h hr
end Go.Proofs.Ytpeddaljgmkomaa
