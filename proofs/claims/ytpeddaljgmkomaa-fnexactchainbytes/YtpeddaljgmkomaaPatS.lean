/-
  What pieces make: the specification's.
-/
import Derived.Test.YtpeddaljgmkomaaPatM
import Derived.Test.YtpeddaljgmkomaaPcsS
namespace Go.Proofs.Ytpeddaljgmkomaa
open Go.RowKit
set_option linter.unusedVariables false
set_option linter.unusedSimpArgs false
set_option maxRecDepth 100000 in
set_option maxHeartbeats 2000000 in
theorem spat9 (old : ByteArray) (a : Option Addr) (c n : Nat) (F : Nat → PcI) (w : World) (hok : pcR F n (old.size : Int)) (hr : 0 < n → ∃ g, a = some ⟨g, 0, none⟩ ∧ PcRow w g n F) :
    Calls Try.prog 69 #[.string old, .slice a n c] w fun e w' => e = .returned (.string (patB old F n)) ∧ Below w.heap.size w w' := by
  have hnI : (n : Int) ≤ 500 := by have := hok.2.2.1; omega
  have HR : Hid (∀ w', Below w.heap.size w w' → 0 < n → ∃ g, a = some ⟨g, 0, none⟩ ∧ PcRow w' g n F) := fun w' hb h0 => by
    obtain ⟨g, h1, h2⟩ := hr h0
    exact ⟨g, h1, h2.below hb h2.lt⟩
  have HO : Hid (pcR F n (old.size : Int)) := hok
  clear hr hok
  go_enter Try.func69, Try.ntmps69
  go_wp2_with fail
  go_loopw [5, 6] (fun u v wr => ∃ (i : Nat), i ≤ n ∧ v = .int .i64 (i : Int) ∧ u = .string (patB old F i) ∧ Hid (Below w.heap.size w wr)) (fun _ v _ => n - (intN v).toNat)
  case atStart => exact ⟨0, by omega, rfl, rfl, Below.refl _ _⟩
  case round =>
    obtain ⟨i, hi, rfl, rfl, HB⟩ := hrel
    by_cases hlt : i < n
    · have hltI : (i : Int) < (n : Int) := by omega
      obtain ⟨g, rfl, hrow⟩ := HR.out _ HB.out (by omega)
      obtain ⟨q, hq⟩ : ∃ q, q = 3 * i := ⟨_, rfl⟩
      have x0 := hrow.c0 i hlt
      have x1 := hrow.c1 i hlt
      have x2 := hrow.c2 i hlt
      rw [← hq] at x0 x1 x2
      have hiq : i * 3 = q := by omega
      have hp := HO.out.2.2.2.1 i hlt
      have hle := patB_le HO.out (i := i) (by omega)
      have hle2 := patB_le HO.out (i := i + 1) (by omega)
      have HST : Hid (patB old F (i + 1) = patB old F i ++ pcTx old (F i)) := rfl
      have hb0 : ∀ X, Below w.heap.size w (wr.alloc X) := fun X => HB.out.alloc HB.out.size _
      have HB0 : Hid _ := hb0
      have hold := HO.out.2.1
      clear hrow hq hb0 HB
      generalize F i = p at x0 x1 x2 hp HST
      rw [HST.out] at hle2
      generalize patB old F i = acc at hle hle2 HST ⊢
      obtain ⟨f, l, d⟩ := p
      simp only at x0 x1 x2
      rcases hp with ⟨h, h1, h2, h3, h4⟩ | ⟨h, h1, h2⟩
      · simp only at h h1 h2 h3 h4
        subst h
        rw [pcTx_no rfl] at hle2 HST
        have hwo : IntKind.i64.wrap (f + l) = f + l := by rw [IntKind.wrap_i64]; omega
        obtain ⟨f2, rfl⟩ : ∃ f2 : Nat, f = (f2 : Int) := ⟨f.toNat, by omega⟩
        obtain ⟨l2, rfl⟩ : ∃ l2 : Nat, l = (l2 : Int) := ⟨l.toNat, by omega⟩
        have e1 : (f2 : Int) + (l2 : Int) = ((f2 + l2 : Nat) : Int) := by omega
        simp only [e1, Int.toNat_natCast] at hle2 HST hwo
        have hs1 : f2 ≤ f2 + l2 := by omega
        have hs2 : f2 + l2 ≤ old.size := by omega
        obtain ⟨z, hz⟩ : ∃ z, z = f2 + l2 := ⟨_, rfl⟩
        rw [← hz] at e1 hle2 HST hwo hs1 hs2
        have hs1I : (f2 : Int) ≤ (z : Int) := by omega
        have hs2I : (z : Int) ≤ (old.size : Int) := by omega
        clear hz h1 h2 h3 h4
        have hle3 := hle2
        rw [ByteArray.size_append, ByteArray.size_extract] at hle3
        go_wp2_with fail
        go_roundw
        case rel => exact ⟨i + 1, by omega, by go_num, by rw [HST.out]; try rfl, HB0.out _⟩
        case measure => simp [intN]; omega
      · simp only at h h1 h2
        subst h1 h2
        rw [pcTx_yes h] at hle2 HST
        have he := d_ne h
        simp only at he hle2 HST
        rw [ByteArray.size_append] at hle2
        clear h
        go_wp2_with fail
        go_roundw
        case rel => exact ⟨i + 1, by omega, by go_num, by rw [HST.out]; try rfl, HB0.out _⟩
        case measure => simp [intN]; omega
    · obtain rfl : i = n := by omega
      go_wp2_with fail
      go_ret
      exact ⟨rfl, HB.out⟩
end Go.Proofs.Ytpeddaljgmkomaa
