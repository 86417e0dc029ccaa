/-
  Two bytes or one that stood before: the code's.
-/
import Derived.Test.YtnkahdidelhdaacLonC
namespace Go.Proofs.Ytnkahdidelhdaac
open Go.RowKit
set_option linter.unusedVariables false
set_option linter.unusedSimpArgs false

/-- what shortAt tells -/
theorem occ_len (s : ByteArray) (a l j : Nat) (hl : 1 ≤ l) (hj : j < a) (ha : a + l ≤ s.size) (h66 : l ≤ 66) :
    Lib.occAt (s.extract 0 (a + l - 1)).data.toList (s.extract a (a + l)).data.toList j = true ↔ l ≤ lonF s a (a - j) := by
  rw [occ_iff s a l j hl hj ha]
  unfold lonF
  rw [mlen_ge (by omega)]
  constructor
  · intro h t ht; rw [show a + t - (a - j) = j + t by omega]; exact h t ht
  · intro h t ht; have := h t ht; rwa [show a + t - (a - j) = j + t by omega] at this
theorem last_spec (s : ByteArray) (a l : Nat) (hl : 1 ≤ l) (ha : a + l ≤ s.size) (h66 : l ≤ 66) (hf : ∀ e, 1 ≤ e → e ≤ a → lonF s a e ≤ l) :
    (Lib.lastIndex (s.extract 0 (a + l - 1)).data.toList (s.extract a (a + l)).data.toList = -1 ∧ ∀ e, 1 ≤ e → e ≤ a → lonF s a e ≤ l - 1) ∨
    (∃ i : Nat, i < a ∧ Lib.lastIndex (s.extract 0 (a + l - 1)).data.toList (s.extract a (a + l)).data.toList = (i : Int) ∧ IsB (lonF s a) a (a - i) l) := by
  have hsz : s.size = s.data.toList.length := Lib.size_eq s
  have n1 : (s.extract a (a + l)).data.toList.length = l := by rw [ext_lst, List.length_take, List.length_drop]; omega
  have n2 : (s.extract 0 (a + l - 1)).data.toList.length = a + l - 1 := by rw [ext_lst, List.length_take, List.length_drop]; omega
  unfold Lib.lastIndex
  rw [n1, n2]
  by_cases h0 : a = 0
  · subst h0
    rw [if_neg (by omega)]
    exact Or.inl ⟨rfl, fun e h1 h2 => by omega⟩
  · rw [if_pos (by omega), show a + l - 1 - l + 1 = a by omega]
    have no : ∀ j, j < a → Lib.occAt (s.extract 0 (a + l - 1)).data.toList (s.extract a (a + l)).data.toList j = false → lonF s a (a - j) < l := fun j hj h => by
      by_cases c : l ≤ lonF s a (a - j)
      · rw [(occ_len s a l j hl hj ha h66).2 c] at h; cases h
      · omega
    rcases Lib.lastOcc_spec (s.extract 0 (a + l - 1)).data.toList (s.extract a (a + l)).data.toList a with ⟨h1, h2⟩ | ⟨i, h1, h2, h3, h4⟩
    · refine Or.inl ⟨h1, fun e he1 he2 => ?_⟩
      have := no (a - e) (by omega) (h2 (a - e) (by omega))
      rw [show a - (a - e) = e by omega] at this
      omega
    · have hi := (occ_len s a l i hl h1 ha h66).1 h3
      refine Or.inr ⟨i, h1, h2, hf, fun e he1 he2 => ?_, Or.inr ⟨by omega, by omega, ?_, by omega⟩⟩
      · have := no (a - e) (by omega) (h4 (a - e) (by omega) (by omega))
        rwa [show a - (a - e) = e by omega] at this
      · have := hf (a - i) (by omega) (by omega)
        omega
set_option maxRecDepth 100000 in
set_option maxHeartbeats 1000000 in
theorem short_any (s : ByteArray) (a : Nat) (w : World) (ha : a < s.size) (hs : s.size ≤ 4000) (hf : ∀ e, 1 ≤ e → e ≤ a → lonF s a e < 3) :
    Calls Try.prog 46 #[.string s, .int .i64 (a : Int)] w fun e w' => (∃ d n : Nat, IsB (lonF s a) a d n ∧ e = .returned (.tuple #[.int .i64 (d : Int), .int .i64 (n : Int)])) ∧ Below w.heap.size w w' := by
  have HLI : Hid (∀ l, 1 ≤ l → l ≤ 2 → a + l ≤ s.size → ∀ w, Calls Try.prog 61 #[.string (s.extract 0 (a + l - 1)), .string (s.extract a (a + l))] w fun e w' => e = .returned (.int .i64 (Lib.lastIndex (s.extract 0 (a + l - 1)).data.toList (s.extract a (a + l)).data.toList)) ∧ w' = w) := fun l h1 h2 h3 w => Try.strings_LastIndex _ _ (by simp; omega) w
  have HSP : Hid (∀ l, 1 ≤ l → l ≤ 2 → a + l ≤ s.size → (∀ e, 1 ≤ e → e ≤ a → lonF s a e ≤ l) → _) := fun l h1 h2 h3 h4 => last_spec s a l h1 h3 (by omega) h4
  have HM : Hid (∀ e, lonF s a e ≤ s.size - a) := fun e => by have := (mlen_spec (bsOf s) (min 66 (s.size - a)) a e).1; unfold lonF; omega
  have HF : Hid (∀ e, 1 ≤ e → e ≤ a → lonF s a e < 3) := hf
  have hsz : (s.size : Int) ≤ 4000 := by omega
  have haI : (a : Int) < (s.size : Int) := by omega
  have hs2 : 0 ≤ (s.size : Int) - (a : Int) := by omega
  have hw0 : IntKind.i64.wrap ((s.size : Int) - (a : Int)) = (s.size : Int) - (a : Int) := by rw [IntKind.wrap_i64]; omega
  clear hf
  have main : ∀ (m : Nat), 1 ≤ m → m ≤ 2 → a + m ≤ s.size → (∀ e, 1 ≤ e → e ≤ a → lonF s a e ≤ m) → True := fun _ _ _ _ _ => trivial
  clear main
  by_cases hm : 2 ≤ s.size - a
  · have hmi : 2 ≤ (s.size : Int) - (a : Int) := by omega
    obtain ⟨m, hmm0⟩ : ∃ m : Nat, m = 2 := ⟨_, rfl⟩
    have hmm : Hid (m = 2) := hmm0
    have H0 : Hid (a + m ≤ s.size ∧ ∀ e, 1 ≤ e → e ≤ a → lonF s a e ≤ m) := ⟨by omega, fun e h1 h2 => by have := HF.out e h1 h2; omega⟩
    clear hmm0
    go_enter Try.func46, Try.ntmps46
    go_wp2_with fail
    have hm2 : m ≤ 2 := by have := hmm.out; omega
    go_loopw [6] (fun c wr => ∃ l : Nat, l ≤ m ∧ c = .int .i64 (l : Int) ∧ Hid (a + l ≤ s.size ∧ ∀ e, 1 ≤ e → e ≤ a → lonF s a e ≤ l) ∧ Below w.heap.size w wr) (fun c _ => (lonIntOf c).toNat)
    case atStart => exact ⟨m, Nat.le_refl _, by first | rfl | (rw [hmm.out]; rfl) | (rw [hmm.out]; go_num) | (have := hmm.out; subst this; go_num), H0, Below.refl _ _⟩
    case round =>
      obtain ⟨l, hl, rfl, HL, hb⟩ := hrel
      clear hmm
      by_cases h1 : 0 < l
      · have h1I : 0 < (l : Int) := by omega
        have HC : Hid (∀ w, _) := HLI.out l (by omega) (by omega) HL.out.1
        have hsp := HSP.out l (by omega) (by omega) HL.out.1 HL.out.2
        have hal := HL.out.1
        obtain ⟨u, hu⟩ : ∃ u, u = a + l := ⟨_, rfl⟩
        obtain ⟨v, hv⟩ : ∃ v, v = a + l - 1 := ⟨_, rfl⟩
        have hw1 : IntKind.i64.wrap ((a : Int) + (l : Int)) = (u : Int) := by rw [IntKind.wrap_i64]; omega
        have hw2 : IntKind.i64.wrap ((u : Int) - 1) = (v : Int) := by rw [IntKind.wrap_i64]; omega
        have hx1 : (v : Int) ≤ (s.size : Int) := by omega
        have hx2 : (u : Int) ≤ (s.size : Int) := by omega
        have hx3 : (a : Int) ≤ (u : Int) := by omega
        have hx4 : v ≤ s.size := by omega
        have hx5 : u ≤ s.size := by omega
        have hx6 : a ≤ u := by omega
        rw [← hv, ← hu] at HC hsp
        have HSQ : Hid _ := hsp
        generalize Lib.lastIndex (s.extract 0 v).data.toList (s.extract a u).data.toList = r at HC HSQ
        clear hsp hu hv hal
        have hb0 : Below w.heap.size w wr.drew := hb.drew
        go_wp2_with fail
        go_region_with (first
          | (go_at_call 61; refine (HC.out _).mono ?_; rintro e w' ⟨rfl, hw⟩; subst w'))
        all_goals
          rcases HSQ.out with ⟨hr, hall⟩ | ⟨i, hi, hr, hB⟩
          · subst hr
            have HALL : Hid _ := hall
            clear hall HSQ HC
            go_wp2_with fail
            go_roundw
            case rel => exact ⟨l - 1, by omega, by go_num, ⟨by have := HL.out.1; omega, HALL.out⟩, hb0⟩
            case measure => simp [lonIntOf]; omega
          · subst hr
            have HBB : Hid _ := hB
            have hi0 : 0 ≤ (i : Int) := by omega
            have hai : (a : Int) - (i : Int) = ((a - i : Nat) : Int) := by omega
            clear hB HSQ HC
            go_wp2_with fail
            go_ret2
            exact ⟨⟨a - i, l, HBB.out, by first | rfl | (rw [← hai])⟩, hb0⟩
      · obtain rfl : l = 0 := by omega
        go_wp2_with fail
        go_ret2
        exact ⟨⟨0, 0, ⟨HL.out.2, fun e h1 h2 => by omega, Or.inl ⟨rfl, rfl⟩⟩, rfl⟩, hb⟩
  · have hmi : ¬ 2 ≤ (s.size : Int) - (a : Int) := by omega
    obtain ⟨m, hmm0⟩ : ∃ m : Nat, m = 1 := ⟨_, rfl⟩
    have hmm : Hid (m = 1) := hmm0
    have hs1 : (s.size : Int) = (a : Int) + 1 := by omega
    have H0 : Hid (a + m ≤ s.size ∧ ∀ e, 1 ≤ e → e ≤ a → lonF s a e ≤ m) := ⟨by omega, fun e h1 h2 => by have := HM.out e; omega⟩
    clear hmm0
    go_enter Try.func46, Try.ntmps46
    go_wp2_with fail
    have hm2 : m ≤ 2 := by have := hmm.out; omega
    go_loopw [6] (fun c wr => ∃ l : Nat, l ≤ m ∧ c = .int .i64 (l : Int) ∧ Hid (a + l ≤ s.size ∧ ∀ e, 1 ≤ e → e ≤ a → lonF s a e ≤ l) ∧ Below w.heap.size w wr) (fun c _ => (lonIntOf c).toNat)
    case atStart => exact ⟨m, Nat.le_refl _, by first | rfl | (rw [hmm.out]; rfl) | (rw [hmm.out]; go_num) | (have := hmm.out; subst this; go_num), H0, Below.refl _ _⟩
    case round =>
      obtain ⟨l, hl, rfl, HL, hb⟩ := hrel
      clear hmm
      by_cases h1 : 0 < l
      · have h1I : 0 < (l : Int) := by omega
        have HC : Hid (∀ w, _) := HLI.out l (by omega) (by omega) HL.out.1
        have hsp := HSP.out l (by omega) (by omega) HL.out.1 HL.out.2
        have hal := HL.out.1
        obtain ⟨u, hu⟩ : ∃ u, u = a + l := ⟨_, rfl⟩
        obtain ⟨v, hv⟩ : ∃ v, v = a + l - 1 := ⟨_, rfl⟩
        have hw1 : IntKind.i64.wrap ((a : Int) + (l : Int)) = (u : Int) := by rw [IntKind.wrap_i64]; omega
        have hw2 : IntKind.i64.wrap ((u : Int) - 1) = (v : Int) := by rw [IntKind.wrap_i64]; omega
        have hx1 : (v : Int) ≤ (s.size : Int) := by omega
        have hx2 : (u : Int) ≤ (s.size : Int) := by omega
        have hx3 : (a : Int) ≤ (u : Int) := by omega
        have hx4 : v ≤ s.size := by omega
        have hx5 : u ≤ s.size := by omega
        have hx6 : a ≤ u := by omega
        rw [← hv, ← hu] at HC hsp
        have HSQ : Hid _ := hsp
        generalize Lib.lastIndex (s.extract 0 v).data.toList (s.extract a u).data.toList = r at HC HSQ
        clear hsp hu hv hal
        have hb0 : Below w.heap.size w wr.drew := hb.drew
        go_wp2_with fail
        go_region_with (first
          | (go_at_call 61; refine (HC.out _).mono ?_; rintro e w' ⟨rfl, hw⟩; subst w'))
        all_goals
          rcases HSQ.out with ⟨hr, hall⟩ | ⟨i, hi, hr, hB⟩
          · subst hr
            have HALL : Hid _ := hall
            clear hall HSQ HC
            go_wp2_with fail
            go_roundw
            case rel => exact ⟨l - 1, by omega, by go_num, ⟨by have := HL.out.1; omega, HALL.out⟩, hb0⟩
            case measure => simp [lonIntOf]; omega
          · subst hr
            have HBB : Hid _ := hB
            have hi0 : 0 ≤ (i : Int) := by omega
            have hai : (a : Int) - (i : Int) = ((a - i : Nat) : Int) := by omega
            clear hB HSQ HC
            go_wp2_with fail
            go_ret2
            exact ⟨⟨a - i, l, HBB.out, by first | rfl | (rw [← hai])⟩, hb0⟩
      · obtain rfl : l = 0 := by omega
        go_wp2_with fail
        go_ret2
        exact ⟨⟨0, 0, ⟨HL.out.2, fun e h1 h2 => by omega, Or.inl ⟨rfl, rfl⟩⟩, rfl⟩, hb⟩
end Go.Proofs.Ytnkahdidelhdaac
