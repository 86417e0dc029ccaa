/-
  Whether a path is right, what is above it, its extension: the specification's.
-/
import Derived.Test.YtbmcjoaigajjkaaDoorPthS
import Derived.Laws.DeepStrings4
import Derived.Laws.Strings3
namespace Go.Proofs.YtbmcjoaigajjkaaDoor
open Go.RowKit
set_option linter.unusedVariables false
set_option linter.unusedSimpArgs false
theorem ext_one {s : ByteArray} {i : Nat} (h : i < s.size) (h2 : i < s.toList.length) : (s.extract i (i + 1)).toList = [s.toList[i]] := by
  rw [Lib.toList_data, Lib.extract_data]
  rw [Lib.size_eq] at h
  simp only [Lib.toList_data]
  have e : i + 1 - i = 1 := by omega
  rw [e, List.drop_eq_getElem_cons h]; rfl
theorem nil_toList : (⟨#[]⟩ : ByteArray).toList = [] := by rw [Lib.toList_data]
theorem ext_zero (s : ByteArray) : s.extract 0 0 = ByteArray.empty := ByteArray.ext (by rw [ByteArray.data_extract]; simp)
theorem app_toList (a b : ByteArray) : (a ++ b).toList = a.toList ++ b.toList := by
  simp only [Lib.toList_data]
  simp
set_option maxRecDepth 100000 in
set_option maxHeartbeats 2000000 in
theorem spathOk_any (s : ByteArray) (w : World) (hs : s.size ≤ 1099511627776) :
    Calls Tryd.prog 27 #[.string s] w fun e w' => e = .returned (.bool (pathB s.toList)) ∧ w' = w := by
  have HS : Hid (∀ (x : ByteArray) w, x.size ≤ 1099511627776 → Calls Tryd.prog 59 #[.string x] w fun e w' => e = .returned (.bool (nameB x.toList)) ∧ w' = w) := fun x w h => sname_any x w h
  have hl : s.toList.length = s.size := len_toList s
  have H0 : Hid (PA s.toList 0 [] 0) := pa_start _
  have HST : Hid (∀ {acc i k} (h : PA s.toList i acc k) (hi : i < s.size), ¬ ((s[i].toNat : Nat) : Int) = 47 → PA s.toList (i + 1) (acc ++ (s.extract i (i + 1)).toList) k) := fun {acc i k} h hi hc => by
    have h2 : i < s.toList.length := by omega
    rw [ext_one hi h2]
    refine pa_step h h2 (fun e => hc ?_)
    rw [← get_toList hi h2, e]; rfl
  have HSL : Hid (∀ {acc i k} (h : PA s.toList i acc k) (hi : i < s.size), ((s[i].toNat : Nat) : Int) = 47 → (nameB acc = true → PA s.toList (i + 1) [] (k + 1)) ∧ (nameB acc = false → pathB s.toList = false)) := fun {acc i k} h hi hc => by
    have h2 : i < s.toList.length := by omega
    have hc2 : s.toList[i] = 47 := by
      rw [get_toList hi h2]
      apply UInt8.toNat_inj.1
      have : (47 : UInt8).toNat = 47 := rfl
      omega
    exact ⟨fun hn => pa_slash h h2 hc2 hn, fun hn => pa_bad h (Or.inr ⟨h2, hc2⟩) hn⟩
  have HLA : Hid (∀ {acc k} (h : PA s.toList s.size acc k), (nameB acc = true → PA s.toList (s.size + 1) [] (k + 1)) ∧ (nameB acc = false → pathB s.toList = false)) := fun {acc k} h => by
    rw [← hl] at h ⊢
    exact ⟨fun hn => pa_last h hn, fun hn => pa_bad h (Or.inl rfl) hn⟩
  have HE : Hid (∀ {acc i k} (h : PA s.toList i acc k), s.size < i → pathB s.toList = decide (k ≤ 6)) := fun h hi => pa_end h (by omega)
  have HK : Hid (∀ {acc i k} (h : PA s.toList i acc k), k ≤ s.size + 1) := fun h => by have := pa_k h; omega
  clear hl
  generalize PA s.toList = G at H0 HST HSL HLA HE HK
  generalize pathB s.toList = R at HSL HLA HE ⊢
  go_enter Tryd.func27, Tryd.ntmps27
  go_wp2_with fail
  go_loopw [3, 4, 5] (fun p x v wr => ∃ (i k : Nat) (acc : ByteArray), i ≤ s.size + 1 ∧ p = .int .i64 (k : Int) ∧ x = .string acc ∧ v = .int .i64 (i : Int) ∧ acc.size ≤ i ∧ Hid (G i acc.toList k) ∧ wr = w) (fun _ _ v _ => s.size + 1 - (nIntOf v).toNat)
  case atStart => exact ⟨0, 0, ⟨#[]⟩, by omega, rfl, rfl, rfl, Nat.le_refl 0, by rw [nil_toList]; exact H0, rfl⟩
  case round =>
    obtain ⟨i, k, acc, hi, rfl, rfl, rfl, ha, HG, hw⟩ := hrel
    subst hw
    have hk := HK.out HG.out
    have hkw : IntKind.i64.wrap ((k : Int) + 1) = ((k + 1 : Nat) : Int) := by rw [IntKind.wrap_i64]; omega
    by_cases hle : i ≤ s.size
    · have hleI : (i : Int) ≤ (s.size : Int) := by omega
      by_cases hlt : i < s.size
      · have hltI : (i : Int) < (s.size : Int) := by omega
        by_cases hc : ((s[i].toNat : Nat) : Int) = 47
        · have HN := HSL.out HG.out hlt hc
          cases hn : nameB acc.toList with
          | true =>
            have HG2 : Hid (G (i + 1) [] (k + 1)) := HN.1 hn
            clear HN
            go_wp2_with fail
            refine (HS.out acc _ (by omega)).mono ?_
            rintro e w1 ⟨rfl, hw⟩
            subst hw
            rw [hn]
            clear hn
            go_wp2_with fail
            go_roundw
            case rel => exact ⟨i + 1, k + 1, ⟨#[]⟩, by omega, by go_num, rfl, by go_num, Nat.zero_le _, (by rw [nil_toList]; exact HG2), trivial⟩
            case measure => simp [nIntOf]; omega
          | false =>
            obtain rfl := HN.2 hn
            clear HN
            go_wp2_with fail
            refine (HS.out acc _ (by omega)).mono ?_
            rintro e w1 ⟨rfl, hw⟩
            subst hw
            rw [hn]
            clear hn
            go_wp2_with fail
            go_ret
            exact ⟨rfl, rfl⟩
        · have hcb : (((s[i].toNat : Nat) : Int) != 47) = true := bne_iff_ne.2 hc
          have HG2 : Hid (G (i + 1) (acc ++ s.extract i (i + 1)).toList k) := by
            have h := HST.out HG.out hlt hc
            rw [← app_toList] at h
            exact h
          have hx : (s.extract i (i + 1)).size = 1 := by rw [ByteArray.size_extract]; omega
          have hcat : ¬ 9223372036854775807 < acc.size + (s.extract i (i + 1)).size := by omega
          have hsz : (acc ++ s.extract i (i + 1)).size ≤ i + 1 := by rw [ByteArray.size_append]; omega
          have h1I : (i : Int) + 1 ≤ (s.size : Int) := by omega
          clear hc
          go_wp2_with fail
          go_roundw
          case rel => exact ⟨i + 1, k, acc ++ s.extract i (i + 1), by omega, rfl, rfl, by go_num, hsz, HG2, trivial⟩
          case measure => simp [nIntOf]; omega
      · obtain rfl : i = s.size := by omega
        have HN := HLA.out HG.out
        cases hn : nameB acc.toList with
        | true =>
          have HG2 : Hid (G (s.size + 1) [] (k + 1)) := HN.1 hn
          clear HN
          go_wp2_with fail
          refine (HS.out acc _ (by omega)).mono ?_
          rintro e w1 ⟨rfl, hw⟩
          subst hw
          rw [hn]
          clear hn
          go_wp2_with fail
          go_roundw
          case rel => exact ⟨s.size + 1, k + 1, ⟨#[]⟩, by omega, by go_num, rfl, by go_num, Nat.zero_le _, (by rw [nil_toList]; exact HG2), trivial⟩
          case measure => simp [nIntOf] <;> omega
        | false =>
          obtain rfl := HN.2 hn
          clear HN
          go_wp2_with fail
          refine (HS.out acc _ (by omega)).mono ?_
          rintro e w1 ⟨rfl, hw⟩
          subst hw
          rw [hn]
          clear hn
          go_wp2_with fail
          go_ret
          exact ⟨rfl, rfl⟩
    · have hleI : ¬ (i : Int) ≤ (s.size : Int) := by omega
      have hE := HE.out HG.out (by omega)
      by_cases h6 : k ≤ 6
      · have h6I : (k : Int) ≤ 6 := by omega
        obtain rfl : R = true := by rw [hE]; simp [h6]
        clear hE
        go_wp2_with fail
        go_ret
        exact ⟨rfl, rfl⟩
      · have h6I : ¬ (k : Int) ≤ 6 := by omega
        obtain rfl : R = false := by rw [hE]; simp [h6]
        clear hE
        go_wp2_with fail
        go_ret
        exact ⟨rfl, rfl⟩
/-- the place of the last slash -/
def cutI (s : ByteArray) : Int := Lib.lastIndexByte s 47
theorem lastIdx_lo (s : ByteArray) (c : Int) (k : Nat) : -1 ≤ Lib.lastIdx s c k ∧ Lib.lastIdx s c k < k := by
  induction k with
  | zero => unfold Lib.lastIdx; omega
  | succ k ih => unfold Lib.lastIdx; split <;> omega
theorem cut_lo (s : ByteArray) : -1 ≤ cutI s ∧ cutI s < s.size := lastIdx_lo s 47 s.size
theorem bang_get {s : ByteArray} {k : Nat} (h : k < s.size) : s.data[k]! = s[k] := by
  have h2 : k < s.data.size := h
  rw [getElem!_pos s.data k h2]; rfl
set_option maxRecDepth 100000 in
set_option maxHeartbeats 2000000 in
theorem scut_any (s : ByteArray) (w : World) (hs : s.size ≤ 1099511627776) :
    Calls Tryd.prog 60 #[.string s] w fun e w' => e = .returned (.int .i64 (cutI s)) ∧ w' = w := by
  have H1 : Hid (∀ k (h : k < s.size), ((s[k].toNat : Nat) : Int) = 47 → Lib.lastIdx s 47 (k + 1) = k) := fun k h hc => Lib.lastIdx_hit s 47 k (by rw [bang_get h]; exact hc)
  have H2 : Hid (∀ k (h : k < s.size), ¬ ((s[k].toNat : Nat) : Int) = 47 → Lib.lastIdx s 47 (k + 1) = Lib.lastIdx s 47 k) := fun k h hc => Lib.lastIdx_miss s 47 k (by rw [bang_get h]; exact hc)
  have H3 : Hid (Lib.lastIdx s 47 s.size = cutI s) := rfl
  have H0 : Hid (Lib.lastIdx s 47 0 = -1) := rfl
  generalize Lib.lastIdx s 47 = L at H0 H1 H2 H3
  generalize cutI s = R at H3 ⊢
  go_enter Tryd.func60, Tryd.ntmps60
  go_wp2_with fail
  go_loopw [3] (fun v wr => ∃ k : Nat, k ≤ s.size ∧ v = .int .i64 ((k : Int) - 1) ∧ Hid (L k = R) ∧ wr = w) (fun v _ => (nIntOf v + 1).toNat)
  case atStart => exact ⟨s.size, Nat.le_refl _, rfl, H3, rfl⟩
  case round =>
    obtain ⟨k, hk, rfl, HL, hw⟩ := hrel
    subst hw
    by_cases hk0 : k = 0
    · subst hk0
      have e : R = -1 := by rw [← HL.out, H0.out]
      go_wp2_with fail
      go_ret
      exact ⟨by rw [e]; rfl, rfl⟩
    · obtain ⟨j, rfl⟩ : ∃ j, k = j + 1 := ⟨k - 1, by omega⟩
      have hj : j < s.size := by omega
      have hjI : (j : Int) < (s.size : Int) := by omega
      have e1 : ((j + 1 : Nat) : Int) - 1 = (j : Int) := by omega
      rw [e1]
      by_cases hc : ((s[j].toNat : Nat) : Int) = 47
      · have e : R = j := by rw [← HL.out, H1.out j hj hc]
        have hcb : (((s[j].toNat : Nat) : Int) != 47) = false := by rw [hc]; rfl
        clear hc
        go_wp2_with fail
        go_ret
        exact ⟨by rw [e]; rfl, rfl⟩
      · have hcb : (((s[j].toNat : Nat) : Int) != 47) = true := bne_iff_ne.2 hc
        have HL2 : Hid (L j = R) := by rw [← HL.out, H2.out j hj hc]; exact rfl
        have hwj : IntKind.i64.wrap ((j : Int) - 1) = (j : Int) - 1 := by rw [IntKind.wrap_i64]; omega
        clear hc e1 HL
        go_wp2_with fail
        go_roundw
        case rel => exact ⟨j, by omega, rfl, HL2, trivial⟩
        case measure => simp [nIntOf] <;> omega
/-- what stands ahead of the last slash -/
def parB (s : ByteArray) : ByteArray := if pathB s.toList then s.extract 0 (cutI s).toNat else ⟨#[]⟩
/-- the last name's extension -/
def lastN (s : ByteArray) : ByteArray := s.extract (cutI s + 1).toNat s.size
def dotI (n : ByteArray) : Int := Lib.lastIndexByte n 46
def exB (n : ByteArray) : ByteArray := if dotI n ≤ 0 then ⟨#[]⟩ else n.extract (dotI n + 1).toNat n.size
def extB (s : ByteArray) : ByteArray := if pathB s.toList then exB (lastN s) else ⟨#[]⟩
set_option maxRecDepth 100000 in
set_option maxHeartbeats 2000000 in
theorem sparent_any (s : ByteArray) (w : World) (hs : s.size ≤ 1099511627776) :
    Calls Tryd.prog 29 #[.string s] w fun e w' => e = .returned (.string (parB s)) ∧ w' = w := by
  have HP : Hid (∀ w, Calls Tryd.prog 27 #[.string s] w fun e w' => e = .returned (.bool (pathB s.toList)) ∧ w' = w) := fun w => spathOk_any s w hs
  have HC : Hid (∀ w, Calls Tryd.prog 60 #[.string s] w fun e w' => e = .returned (.int .i64 (cutI s)) ∧ w' = w) := fun w => scut_any s w hs
  obtain ⟨h1, h2⟩ := cut_lo s
  unfold parB
  cases hp : pathB s.toList with
  | false =>
    rw [hp] at HP
    go_enter Tryd.func29, Tryd.ntmps29
    go_wp2_with fail
    refine (HP.out _).mono ?_
    rintro e w1 ⟨rfl, hw⟩
    subst hw
    go_wp2_with fail
    go_ret
    exact ⟨rfl, rfl⟩
  | true =>
    rw [hp] at HP
    rw [if_pos rfl]
    generalize cutI s = C at HC h1 h2
    by_cases h0 : 0 < C
    · obtain ⟨m, rfl⟩ : ∃ m : Nat, C = (m : Int) := ⟨C.toNat, by omega⟩
      have hmx : max (0 : Int) (m : Int) = (m : Int) := by omega
      have hms : (m : Int) ≤ (s.size : Int) := by omega
      rw [Int.toNat_natCast]
      clear h1 h2
      go_enter Tryd.func29, Tryd.ntmps29
      go_wp2_with fail
      refine (HP.out _).mono ?_
      rintro e w1 ⟨rfl, hw⟩
      subst hw
      go_wp2_with fail
      refine (HC.out _).mono ?_
      rintro e w1 ⟨rfl, hw⟩
      subst hw
      go_wp2_with fail
      go_ret
      exact ⟨rfl, rfl⟩
    · have e0 : C.toNat = 0 := by omega
      have hmx : max (0 : Int) C = 0 := by omega
      rw [e0, ext_zero]
      clear e0 h1 h2 h0
      go_enter Tryd.func29, Tryd.ntmps29
      go_wp2_with fail
      refine (HP.out _).mono ?_
      rintro e w1 ⟨rfl, hw⟩
      subst hw
      go_wp2_with fail
      refine (HC.out _).mono ?_
      rintro e w1 ⟨rfl, hw⟩
      subst hw
      go_wp2_with fail
      go_ret
      exact ⟨rfl, rfl⟩
end Go.Proofs.YtbmcjoaigajjkaaDoor
