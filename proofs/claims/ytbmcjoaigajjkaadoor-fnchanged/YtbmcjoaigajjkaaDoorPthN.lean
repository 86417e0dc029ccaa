/-
  Names of paths: the code's and the specification's look at one.
-/
import Derived.Test.YtbmcjoaigajjkaaDoorPthMath
import Derived.Below
import Derived.BigQuiet
namespace Go.Proofs.YtbmcjoaigajjkaaDoor
open Go.RowKit
set_option linter.unusedVariables false
set_option linter.unusedSimpArgs false
def nIntOf : Value → Int | .int _ q => q | _ => 0
set_option maxRecDepth 100000 in
set_option maxHeartbeats 1000000 in
theorem may_any (c : Nat) (w : World) (hc : c < 256) :
    Calls Tryd.prog 114 #[.int .u8 (c : Int)] w fun e w' => e = .returned (.bool (okc c)) ∧ w' = w := by
  by_cases e1 : c = 46
  · subst e1
    have e : okc 46 = true := by decide
    rw [e]; clear e
    go_enter Tryd.func114, Tryd.ntmps114
    go_wp2_with fail
    go_ret
    exact ⟨rfl, rfl⟩
  by_cases e2 : c = 45
  · subst e2
    have e : okc 45 = true := by decide
    rw [e]; clear e
    go_enter Tryd.func114, Tryd.ntmps114
    go_wp2_with fail
    go_ret
    exact ⟨rfl, rfl⟩
  by_cases e3 : c = 95
  · subst e3
    have e : okc 95 = true := by decide
    rw [e]; clear e
    go_enter Tryd.func114, Tryd.ntmps114
    go_wp2_with fail
    go_ret
    exact ⟨rfl, rfl⟩
  have b1 : ((c : Int) == 46) = false := beq_eq_false_iff_ne.2 (by omega)
  have b2 : ((c : Int) == 45) = false := beq_eq_false_iff_ne.2 (by omega)
  have b3 : ((c : Int) == 95) = false := beq_eq_false_iff_ne.2 (by omega)
  by_cases h1 : (97 : Int) ≤ c <;> by_cases h2 : (c : Int) ≤ 122 <;> by_cases h3 : (48 : Int) ≤ c <;> by_cases h4 : (c : Int) ≤ 57
  all_goals first
    | (exfalso; omega)
    | (have e : okc c = true := by (simp [okc]; omega)
       rw [e]; clear e e1 e2 e3
       go_enter Tryd.func114, Tryd.ntmps114
       go_wp2_with fail
       go_ret
       exact ⟨rfl, rfl⟩)
    | (have e : okc c = false := by (simp [okc]; omega)
       rw [e]; clear e e1 e2 e3
       go_enter Tryd.func114, Tryd.ntmps114
       go_wp2_with fail
       go_ret
       exact ⟨rfl, rfl⟩)
theorem get_toList {s : ByteArray} {i : Nat} (h : i < s.size) (h2 : i < s.toList.length) : s.toList[i] = s[i] := by
  simp only [Lib.toList_data]
  rfl
theorem len_toList (s : ByteArray) : s.toList.length = s.size := by rw [Lib.toList_data, ← Lib.size_eq]
theorem name_bad {s : ByteArray} {i : Nat} (h : i < s.size) (hc : okc s[i].toNat = false) : nameB s.toList = false := by
  have h2 : i < s.toList.length := by rw [len_toList]; exact h
  have : (s.toList.all fun c => okc c.toNat) = false := by
    rw [Bool.eq_false_iff]
    intro c
    have := List.all_eq_true.1 c s.toList[i] (List.getElem_mem h2)
    rw [get_toList h h2, hc] at this; cases this
  unfold nameB; rw [this]; simp
theorem name_good {s : ByteArray} (h1 : 1 ≤ s.size) (h2 : s.size ≤ 20) (q1 : ¬ s.toList = [46]) (q2 : ¬ s.toList = [46, 46]) (hc : ∀ i (h : i < s.size), okc s[i].toNat = true) : nameB s.toList = true := by
  have : (s.toList.all fun c => okc c.toNat) = true := by
    refine List.all_eq_true.2 fun c hm => ?_
    obtain ⟨i, hi, rfl⟩ := List.getElem_of_mem hm
    have h3 : i < s.size := by rw [len_toList] at hi; exact hi
    rw [get_toList h3 hi]; exact hc i h3
  unfold nameB; rw [this, len_toList]; simp [q1, q2]; omega
theorem name_long {s : ByteArray} (h : 20 < s.size) : nameB s.toList = false := by unfold nameB; rw [len_toList]; simp; omega
set_option maxRecDepth 100000 in
set_option maxHeartbeats 1000000 in
theorem isname_any (s : ByteArray) (w : World) (hs : s.size ≤ 1099511627776) :
    Calls Tryd.prog 98 #[.string s] w fun e w' => e = .returned (.bool (nameB s.toList)) ∧ w' = w := by
  by_cases q0 : s.toList = []
  · have e : nameB s.toList = false := by rw [q0]; rfl
    rw [e]; clear e
    go_enter Tryd.func98, Tryd.ntmps98
    go_wp2_with fail
    go_ret
    exact ⟨rfl, rfl⟩
  have h1 : 1 ≤ s.size := by
    rw [← len_toList]
    cases h : s.toList with
    | nil => exact absurd h q0
    | cons _ _ => simp
  by_cases h20 : 20 < s.size
  · rw [name_long h20]
    have h20I : (20 : Int) < s.size := by omega
    go_enter Tryd.func98, Tryd.ntmps98
    go_wp2_with fail
    go_ret
    exact ⟨rfl, rfl⟩
  have h20I : ¬ (20 : Int) < s.size := by omega
  by_cases q1 : s.toList = [46]
  · have e : nameB s.toList = false := by rw [q1]; rfl
    rw [e]; clear e
    go_enter Tryd.func98, Tryd.ntmps98
    go_wp2_with fail
    go_ret
    exact ⟨rfl, rfl⟩
  by_cases q2 : s.toList = [46, 46]
  · have e : nameB s.toList = false := by rw [q2]; rfl
    rw [e]; clear e
    go_enter Tryd.func98, Tryd.ntmps98
    go_wp2_with fail
    go_ret
    exact ⟨rfl, rfl⟩
  have HM : Hid (∀ c w, c < 256 → Calls Tryd.prog 114 #[.int .u8 ((c : Nat) : Int)] w fun e w' => e = .returned (.bool (okc c)) ∧ w' = w) := fun c w h => may_any c w h
  have HG : Hid ((∀ i (h : i < s.size), okc s[i].toNat = true) → nameB s.toList = true) := fun h => name_good h1 (by omega) q1 q2 h
  have HB : Hid (∀ i (h : i < s.size), okc s[i].toNat = false → nameB s.toList = false) := fun i h => name_bad h
  generalize hN : nameB s.toList = N at HG HB ⊢
  have f0 : s.toList.isEmpty = false := by cases h : s.toList with | nil => exact absurd h q0 | cons _ _ => rfl
  have f1 : (s.toList == [46]) = false := beq_eq_false_iff_ne.2 q1
  have f2 : (s.toList == [46, 46]) = false := beq_eq_false_iff_ne.2 q2
  clear hN q0 q1 q2
  go_enter Tryd.func98, Tryd.ntmps98
  go_wp2_with fail
  go_loopw [21] (fun v wr => ∃ i : Nat, i ≤ s.size ∧ v = .int .i64 (i : Int) ∧ Hid (∀ j (h : j < s.size), j < i → okc s[j].toNat = true) ∧ wr = w) (fun v _ => s.size - (nIntOf v).toNat)
  case atStart => exact ⟨0, by omega, rfl, fun j _ hj => absurd hj (by omega), rfl⟩
  case round =>
    obtain ⟨i, hi, rfl, HA, hw⟩ := hrel
    subst hw
    by_cases hlt : i < s.size
    · have hltI : (i : Int) < (s.size : Int) := by omega
      go_wp2_with fail
      refine (HM.out s[i].toNat _ (UInt8.toNat_lt _)).mono ?_
      rintro e w1 ⟨rfl, hw⟩
      subst hw
      cases ho : okc s[i].toNat with
      | true =>
        have HA2 : Hid (∀ j (h : j < s.size), j < i + 1 → okc s[j].toNat = true) := fun j h hj => by
          by_cases e : j = i
          · subst e; exact ho
          · exact HA.out j h (by omega)
        clear ho HA
        go_wp2_with fail
        go_roundw
        case rel => exact ⟨i + 1, by omega, by go_num, HA2, trivial⟩
        case measure => simp [nIntOf]; omega
      | false =>
        obtain rfl := HB.out i hlt ho
        clear ho HA
        go_wp2_with fail
        go_ret
        exact ⟨rfl, rfl⟩
    · obtain rfl : i = s.size := by omega
      obtain rfl := HG.out (fun j h => HA.out j h h)
      go_wp2_with fail
      go_ret
      exact ⟨rfl, rfl⟩
end Go.Proofs.YtbmcjoaigajjkaaDoor
