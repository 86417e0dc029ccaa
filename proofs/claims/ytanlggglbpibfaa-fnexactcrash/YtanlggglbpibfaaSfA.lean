/-
  The specification's files: whether a name, whether files are as those of a right disk.
-/
import Derived.Test.YtanlggglbpibfaaDkF
import Derived.WalkKit
import Derived.BigQuiet
import Derived.BigRegion
import Derived.Laws.Cover1
namespace Go.Proofs.Ytanlggglbpibfaa
open Go.RowKit
set_option linter.unusedVariables false
set_option linter.unusedSimpArgs false
theorem hidF {p : Prop} (h : p) : Hid p := h
theorem sname_any (s : ByteArray) (w : World) : Calls Try.prog 80 #[.string s] w fun e w' => e = .returned (.bool (decide (nmOk s))) ∧ w' = w := by
  by_cases h1 : (1 : Int) ≤ (s.size : Int)
  · by_cases h2 : (s.size : Int) ≤ 100
    · have hd : decide (nmOk s) = true := decide_eq_true ⟨by omega, by omega⟩
      rw [hd]
      clear hd
      go_enter Try.func80, Try.ntmps80
      go_wp2_with fail
      go_ret
      exact ⟨rfl, rfl⟩
    · have hd : decide (nmOk s) = false := decide_eq_false fun h => h2 (by have := h.2; omega)
      rw [hd]
      clear hd
      go_enter Try.func80, Try.ntmps80
      go_wp2_with fail
      go_ret
      exact ⟨rfl, rfl⟩
  · have hd : decide (nmOk s) = false := decide_eq_false fun h => h1 (by have := h.1; omega)
    rw [hd]
    clear hd
    go_enter Try.func80, Try.ntmps80
    go_wp2_with fail
    go_ret
    exact ⟨rfl, rfl⟩
theorem sfiles_long (a : Option Addr) (n c : Nat) (w : World) (h : 60 < n) : Calls Try.prog 42 #[.slice a n c] w fun e w' => e = .returned (.bool false) ∧ Below w.heap.size w w' := by
  have hn : (60 : Int) < (n : Int) := by omega
  go_enter Try.func42, Try.ntmps42
  go_wp2_with fail
  go_ret
  exact ⟨rfl, Below.refl _ _⟩
set_option maxRecDepth 100000 in
set_option maxHeartbeats 1500000 in
theorem sfiles_any (v : Value) (L : List FlI) (w : World) (hL : FlLe L) (h : FlArg w v L.length (flF L)) :
    Calls Try.prog 42 #[v] w fun e w' => e = .returned (.bool (flB L)) ∧ Below w.heap.size w w' := by
  obtain ⟨a, c, rfl, hr⟩ := h
  by_cases h60 : 60 < L.length
  · rw [flB_no fun k => by have := k.len; omega]
    exact sfiles_long a _ c w h60
  obtain ⟨n, hn⟩ : ∃ n, n = L.length := ⟨_, rfl⟩
  rw [← hn] at hr ⊢
  have hnI : ¬ (60 : Int) < (n : Int) := by omega
  have hnJ : (n : Int) ≤ 60 := by omega
  have HR : Hid (∀ w', Below w.heap.size w w' → 0 < n → ∃ g, a = some ⟨g, 0, none⟩ ∧ FlRow w' g n (flF L)) := fun w' hb h0 => by
    obtain ⟨g, h1, h2⟩ := hr h0
    exact ⟨g, h1, h2.below hb h2.lt⟩
  have HN : Hid (n = L.length ∧ n ≤ 60) := ⟨hn, by omega⟩
  have HLE := hidF hL
  have HNM : Hid (∀ (s : ByteArray) (w : World), Calls Try.prog 80 #[.string s] w fun e w' => e = .returned (.bool (decide (nmOk s))) ∧ w' = w) := sname_any
  have HS0 : Hid (fileT L 0 ∧ Below w.heap.size w w) := ⟨fileT_zero L, Below.refl _ _⟩
  clear hr hL h60 hn
  go_enter Try.func42, Try.ntmps42
  go_wp2_with fail
  go_loopw [3, 4] (fun x y wr => ∃ i X : Nat, i ≤ n ∧ X ≤ 1500000 * i ∧ x = .int .i64 (X : Int) ∧ y = .int .i64 (i : Int) ∧ Hid (X = sumD (L.take i)) ∧ Hid (fileT L i ∧ Below w.heap.size w wr)) (fun _ y _ => n - (intFl y).toNat)
  case atStart => exact ⟨0, 0, by omega, by omega, rfl, rfl, rfl, HS0⟩
  case round =>
    clear HS0
    obtain ⟨i, X, hi, hX, rfl, rfl, HX, HT⟩ := hrel
    by_cases hlt : i < n
    · have hltI : (i : Int) < (n : Int) := by omega
      have hin : i < L.length := by rw [← HN.out.1]; exact hlt
      obtain ⟨g, rfl, hrow⟩ := HR.out _ HT.out.2 (by omega)
      obtain ⟨q, hq⟩ : ∃ q, q = 2 * i := ⟨_, rfl⟩
      have x0 := hrow.c0 i hlt
      have x1 := hrow.c1 i hlt
      rw [← hq] at x0 x1
      have hiq : i * 2 = q := by omega
      have hsz := (HLE.out.at hin).2
      have HX2 : Hid (X + (flF L i).d.size = sumD (L.take (i + 1))) := by show _ = _; rw [sumD_step hin, HX.out]
      have HNO : Hid (¬ nmOk (flF L i).a → flB L = false) := fun h => flB_no fun k => h (k.nmAt hin)
      have HST : Hid (nmOk (flF L i).a → (∀ j, j + 1 = i → fnL (flF L j).a (flF L i).a) → fileT L (i + 1)) := fun h1 h2 => fileT_step HT.out.1 h1 h2
      have HNR : Hid (∀ j, j + 1 = i → ¬ fnL (flF L j).a (flF L i).a → flB L = false) := fun j e h => flB_no fun k => h (rise_at k.rise (by omega) hin)
      have HIN : Hid (i < n ∧ i < 60) := ⟨hlt, by have := HN.out.2; omega⟩
      have hw : IntKind.i64.wrap ((X : Int) + ((flF L i).d.size : Int)) = ((X + (flF L i).d.size : Nat) : Int) := by rw [IntKind.wrap_i64]; omega
      have HRW : Hid (∀ w', Below w.heap.size w w' → w'.cell? ⟨g, q, none⟩ = some (.string (flF L i).a) ∧ w'.cell? ⟨g, q + 1, none⟩ = some (.string (flF L i).d)) := fun w' hb => by
        obtain ⟨g2, e, h2⟩ := HR.out _ hb (by omega)
        cases e
        rw [hq]
        exact ⟨h2.c0 i hlt, h2.c1 i hlt⟩
      by_cases h0 : i = 0
      · have hz : decide (0 < i) = false := by simp [h0]
        have HNR2 : Hid (∀ j, j + 1 = i → fnL (flF L j).a (flF L i).a) := fun j e => absurd e (by omega)
        generalize flF L i = f at x0 x1 hsz HX2 HNO HST HNR HNR2 hw HRW
        obtain ⟨fa, fd⟩ := f
        simp only at x0 x1 hsz HX2 HNO HST HNR HNR2 hw HRW
        have HWW := hidF hw
        clear hrow hq HX x1 hw h0
        by_cases hnm : nmOk fa
        · have hd : decide (nmOk fa) = true := decide_eq_true hnm
          have HT1 := hidF (HST.out hnm HNR2.out)
          have HNM1 : Hid (∀ w, Calls Try.prog 80 #[.string fa] w fun e w' => e = .returned (.bool true) ∧ w' = w) := fun w => by have := HNM.out fa w; rwa [hd] at this
          clear HST HNR HNR2 HNO hnm hd
          go_wp2_with fail
          go_quiet ((go_at_call 80; exact Calls.quiet_of_same (HNM1.out _)))
          rename Nat => nz
          have HBN := hidF (blFl HT.out.2 (⟨rfl, rfl, rfl, Nat.le_refl _, fun _ _ => rfl⟩ : Below wr.heap.size wr (wr.drewN nz)) HT.out.2.size)
          generalize wr.drewN nz = w9 at HBN ⊢
          have x1 := (HRW.out _ HBN.out).2
          have hw := HWW.out
          clear x0 nz HT
          go_wp2_with fail
          go_roundw
          case rel => exact ⟨i + 1, X + fd.size, by have := HIN.out; omega, by omega, by go_num, by go_num, HX2, HT1.out, HBN.out⟩
          case measure => simp [intFl]; have := HIN.out; omega
        · have hd : decide (nmOk fa) = false := decide_eq_false hnm
          have HF := hidF (HNO.out hnm)
          have HNM1 : Hid (∀ w, Calls Try.prog 80 #[.string fa] w fun e w' => e = .returned (.bool false) ∧ w' = w) := fun w => by have := HNM.out fa w; rwa [hd] at this
          clear HST HNR HNR2 HNO hnm hd HWW
          go_wp2_with fail
          go_quiet ((go_at_call 80; exact Calls.quiet_of_same (HNM1.out _)))
          rename Nat => nz
          have HBN := hidF (blFl HT.out.2 (⟨rfl, rfl, rfl, Nat.le_refl _, fun _ _ => rfl⟩ : Below wr.heap.size wr (wr.drewN nz)) HT.out.2.size)
          generalize wr.drewN nz = w9 at HBN ⊢
          clear x0 nz HT
          go_wp2_with fail
          go_ret
          exact ⟨by rw [HF.out]; rfl, HBN.out⟩
      · have hz : decide (0 < i) = true := decide_eq_true (by omega)
        obtain ⟨k, hk⟩ : ∃ k, i = k + 1 := ⟨i - 1, by omega⟩
        have hi1 : (i : Int) - 1 = (k : Int) := by omega
        obtain ⟨r, hr⟩ : ∃ r, r = 2 * k := ⟨_, rfl⟩
        have hkr : k * 2 = r := by omega
        have hkn : (k : Int) < (n : Int) := by omega
        have y0 := hrow.c0 k (by omega)
        rw [← hr] at y0
        have HNR2 : Hid (¬ fnL (flF L k).a (flF L i).a → flB L = false) := HNR.out k hk.symm
        have HST2 : Hid (nmOk (flF L i).a → fnL (flF L k).a (flF L i).a → fileT L (i + 1)) := fun h1 h2 => HST.out h1 fun j e => by
          have : j = k := by omega
          subst this; exact h2
        generalize flF L k = p at y0 HNR2 HST2
        obtain ⟨pa, pd⟩ := p
        generalize flF L i = f at x0 x1 hsz HX2 HNO HST HNR HNR2 hw HRW HST2
        obtain ⟨fa, fd⟩ := f
        simp only at x0 x1 y0 hsz HX2 HNO HST HNR HNR2 hw HRW HST2
        have HWW := hidF hw
        clear hrow hq HX x1 hw h0 HST HNR hk hr
        by_cases hnm : nmOk fa
        · have hd : decide (nmOk fa) = true := decide_eq_true hnm
          have HNM1 : Hid (∀ w, Calls Try.prog 80 #[.string fa] w fun e w' => e = .returned (.bool true) ∧ w' = w) := fun w => by have := HNM.out fa w; rwa [hd] at this
          by_cases hfn : fnL pa fa
          · have HT1 := hidF (HST2.out hnm hfn)
            have hb1 := blF_yes hfn
            have hb2 := blF_no (fnL_no hfn)
            have hb3 := beqF_no (fun c => fnL_ne hfn c.symm)
            clear HST2 HNR2 HNO hnm hd hfn
            go_wp2_with fail
            go_quiet ((go_at_call 80; exact Calls.quiet_of_same (HNM1.out _)))
            rename Nat => nz
            have HBN := hidF (blFl HT.out.2 (⟨rfl, rfl, rfl, Nat.le_refl _, fun _ _ => rfl⟩ : Below wr.heap.size wr (wr.drewN nz)) HT.out.2.size)
            generalize wr.drewN nz = w9 at HBN ⊢
            have x1 := (HRW.out _ HBN.out).2
            have hw := HWW.out
            clear x0 y0 hb1 hb2 hb3 nz HT
            go_wp2_with fail
            go_roundw
            case rel => exact ⟨i + 1, X + fd.size, by have := HIN.out; omega, by omega, by go_num, by go_num, HX2, HT1.out, HBN.out⟩
            case measure => simp [intFl]; have := HIN.out; omega
          · have HF := hidF (HNR2.out hfn)
            rcases (fnL_tri fa pa) with hk | hk | hk
            · have hb1 := blF_yes hk
              clear HST2 HNR2 HNO hnm hd hfn HWW hk
              go_wp2_with fail
              go_quiet ((go_at_call 80; exact Calls.quiet_of_same (HNM1.out _)))
              rename Nat => nz
              have HBN := hidF (blFl HT.out.2 (⟨rfl, rfl, rfl, Nat.le_refl _, fun _ _ => rfl⟩ : Below wr.heap.size wr (wr.drewN nz)) HT.out.2.size)
              generalize wr.drewN nz = w9 at HBN ⊢
              clear x0 y0 hb1 nz HT
              go_wp2_with fail
              go_ret
              exact ⟨by rw [HF.out]; rfl, HBN.out⟩
            · subst hk
              clear HST2 HNR2 HNO hnm hd hfn HWW
              go_wp2_with fail
              go_quiet ((go_at_call 80; exact Calls.quiet_of_same (HNM1.out _)))
              rename Nat => nz
              have HBN := hidF (blFl HT.out.2 (⟨rfl, rfl, rfl, Nat.le_refl _, fun _ _ => rfl⟩ : Below wr.heap.size wr (wr.drewN nz)) HT.out.2.size)
              generalize wr.drewN nz = w9 at HBN ⊢
              clear x0 y0 nz HT
              go_wp2_with fail
              go_ret
              exact ⟨by rw [HF.out]; rfl, HBN.out⟩
            · exact absurd hk hfn
        · have hd : decide (nmOk fa) = false := decide_eq_false hnm
          have HF := hidF (HNO.out hnm)
          have HNM1 : Hid (∀ w, Calls Try.prog 80 #[.string fa] w fun e w' => e = .returned (.bool false) ∧ w' = w) := fun w => by have := HNM.out fa w; rwa [hd] at this
          clear HST2 HNR2 HNO hnm hd HWW
          go_wp2_with fail
          go_quiet ((go_at_call 80; exact Calls.quiet_of_same (HNM1.out _)))
          rename Nat => nz
          have HBN := hidF (blFl HT.out.2 (⟨rfl, rfl, rfl, Nat.le_refl _, fun _ _ => rfl⟩ : Below wr.heap.size wr (wr.drewN nz)) HT.out.2.size)
          generalize wr.drewN nz = w9 at HBN ⊢
          clear x0 y0 nz HT
          go_wp2_with fail
          go_ret
          exact ⟨by rw [HF.out]; rfl, HBN.out⟩
    · obtain rfl : i = n := by omega
      by_cases h2 : X ≤ 200000
      · have h2I : (X : Int) ≤ 200000 := by omega
        have HF : Hid (flB L = true) := flB_yes (fileT_all (by have := HT.out.1; rwa [HN.out.1] at this) (by have := HN.out; omega) (by have e := HX.out; rw [HN.out.1, List.take_length] at e; omega))
        clear h2
        go_wp2_with fail
        go_ret
        exact ⟨by rw [HF.out]; rfl, HT.out.2⟩
      · have h2I : ¬ (X : Int) ≤ 200000 := by omega
        have HF : Hid (flB L = false) := flB_no fun k => by have e := HX.out; rw [HN.out.1, List.take_length] at e; have := k.sum; omega
        clear h2
        go_wp2_with fail
        go_ret
        exact ⟨by rw [HF.out]; rfl, HT.out.2⟩
end Go.Proofs.Ytanlggglbpibfaa
