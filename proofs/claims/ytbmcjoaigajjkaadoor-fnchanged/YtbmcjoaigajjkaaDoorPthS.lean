/-
  Whether a path is right, what is above it, its extension: the specification's.
-/
import Derived.Test.YtbmcjoaigajjkaaDoorPthN
import Derived.Lib.LastIndexByte
namespace Go.Proofs.YtbmcjoaigajjkaaDoor
open Go.RowKit
set_option linter.unusedVariables false
set_option linter.unusedSimpArgs false
theorem okc_facts (c : Nat) (h : c < 256) : (okc c = true ∧ (((97 : Int) ≤ c ∧ (c : Int) ≤ 122) ∨ ((48 : Int) ≤ c ∧ (c : Int) ≤ 57) ∨ c = 46 ∨ c = 45 ∨ c = 95)) ∨ (okc c = false ∧ ¬ (((97 : Int) ≤ c ∧ (c : Int) ≤ 122) ∨ ((48 : Int) ≤ c ∧ (c : Int) ≤ 57) ∨ c = 46 ∨ c = 45 ∨ c = 95)) := by
  unfold okc
  by_cases d : (97 ≤ c ∧ c ≤ 122) ∨ (48 ≤ c ∧ c ≤ 57) ∨ c = 46 ∨ c = 45 ∨ c = 95
  · rw [decide_eq_true d]; exact Or.inl ⟨rfl, by omega⟩
  · rw [decide_eq_false d]; exact Or.inr ⟨rfl, by omega⟩
set_option maxRecDepth 100000 in
set_option maxHeartbeats 2000000 in
theorem sname_any (s : ByteArray) (w : World) (hs : s.size ≤ 1099511627776) :
    Calls Tryd.prog 59 #[.string s] w fun e w' => e = .returned (.bool (nameB s.toList)) ∧ w' = w := by
  by_cases h0 : s.size = 0
  · have q0 : s.toList = [] := by
      have := len_toList s
      rw [h0] at this
      exact List.length_eq_zero_iff.1 this
    have e : nameB s.toList = false := by rw [q0]; rfl
    rw [e]; clear e
    have h1I : (s.size : Int) < 1 := by omega
    go_enter Tryd.func59, Tryd.ntmps59
    go_wp2_with fail
    go_ret
    exact ⟨rfl, rfl⟩
  have h1 : 1 ≤ s.size := by omega
  have h1I : ¬ (s.size : Int) < 1 := by omega
  by_cases h20 : 20 < s.size
  · rw [name_long h20]
    have h20I : (20 : Int) < s.size := by omega
    go_enter Tryd.func59, Tryd.ntmps59
    go_wp2_with fail
    go_ret
    exact ⟨rfl, rfl⟩
  have h20I : ¬ (20 : Int) < s.size := by omega
  by_cases q1 : s.toList = [46]
  · have e : nameB s.toList = false := by rw [q1]; rfl
    rw [e]; clear e
    go_enter Tryd.func59, Tryd.ntmps59
    go_wp2_with fail
    go_ret
    exact ⟨rfl, rfl⟩
  by_cases q2 : s.toList = [46, 46]
  · have e : nameB s.toList = false := by rw [q2]; rfl
    rw [e]; clear e
    go_enter Tryd.func59, Tryd.ntmps59
    go_wp2_with fail
    go_ret
    exact ⟨rfl, rfl⟩
  have HG : Hid ((∀ i (h : i < s.size), okc s[i].toNat = true) → nameB s.toList = true) := fun h => name_good h1 (by omega) q1 q2 h
  have HB : Hid (∀ i (h : i < s.size), okc s[i].toNat = false → nameB s.toList = false) := fun i h => name_bad h
  generalize hN : nameB s.toList = N at HG HB ⊢
  have f1 : (s.toList == [46]) = false := beq_eq_false_iff_ne.2 q1
  have f2 : (s.toList == [46, 46]) = false := beq_eq_false_iff_ne.2 q2
  clear hN q1 q2
  go_enter Tryd.func59, Tryd.ntmps59
  go_wp2_with fail
  go_loopw [3] (fun v wr => ∃ i : Nat, i ≤ s.size ∧ v = .int .i64 (i : Int) ∧ Hid (∀ j (h : j < s.size), j < i → okc s[j].toNat = true) ∧ wr = w) (fun v _ => s.size - (nIntOf v).toNat)
  case atStart => exact ⟨0, by omega, rfl, fun j _ hj => absurd hj (by omega), rfl⟩
  case round =>
    obtain ⟨i, hi, rfl, HA, hw⟩ := hrel
    subst hw
    by_cases hlt : i < s.size
    · have hltI : (i : Int) < (s.size : Int) := by omega
      have hc := UInt8.toNat_lt s[i]
      rcases okc_facts s[i].toNat hc with ⟨ho, hd⟩ | ⟨ho, hd⟩
      · have HA2 : Hid (∀ j (h : j < s.size), j < i + 1 → okc s[j].toNat = true) := fun j h hj => by
          by_cases e : j = i
          · subst e; exact ho
          · exact HA.out j h (by omega)
        clear ho HA f1 f2 h1I h20I HG HB
        rcases hd with ⟨d1, d2⟩ | ⟨d1, d2⟩ | d1 | d1 | d1
        · have d3 : ¬ (s[i].toNat : Int) < 97 := by omega
          have d4 : ¬ (122 : Int) < (s[i].toNat : Int) := by omega
          clear d1 d2
          go_wp2_with fail
          go_roundw
          case rel => exact ⟨i + 1, by omega, by go_num, HA2, trivial⟩
          case measure => simp [nIntOf]; omega
        · have d3 : (s[i].toNat : Int) < 97 := by omega
          have d4 : ¬ (57 : Int) < (s[i].toNat : Int) := by omega
          have d5 : ¬ (s[i].toNat : Int) < 48 := by omega
          clear d1 d2
          go_wp2_with fail
          go_roundw
          case rel => exact ⟨i + 1, by omega, by go_num, HA2, trivial⟩
          case measure => simp [nIntOf]; omega
        all_goals
          go_wp2_with fail
          go_roundw
          case rel => exact ⟨i + 1, by omega, by go_num, HA2, trivial⟩
          case measure => simp [nIntOf]; omega
      · obtain rfl := HB.out i hlt ho
        clear ho HA f1 f2 h1I h20I HG HB
        have d6 : ((s[i].toNat : Int) != 46) = true := bne_iff_ne.2 (by omega)
        have d7 : ((s[i].toNat : Int) != 45) = true := bne_iff_ne.2 (by omega)
        have d8 : ((s[i].toNat : Int) != 95) = true := bne_iff_ne.2 (by omega)
        by_cases d1 : (s[i].toNat : Int) < 97 <;> by_cases d2 : (122 : Int) < (s[i].toNat : Int) <;> by_cases d3 : (s[i].toNat : Int) < 48 <;> by_cases d4 : (57 : Int) < (s[i].toNat : Int)
        all_goals first
          | (exfalso; omega)
          | (clear hd hc
             go_wp2_with fail
             go_ret
             exact ⟨rfl, rfl⟩)
    · obtain rfl : i = s.size := by omega
      obtain rfl := HG.out (fun j h => HA.out j h h)
      clear f1 f2 h1I h20I
      go_wp2_with fail
      go_ret
      exact ⟨rfl, rfl⟩
end Go.Proofs.YtbmcjoaigajjkaaDoor
