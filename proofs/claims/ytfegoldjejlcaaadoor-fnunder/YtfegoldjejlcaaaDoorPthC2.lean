/-
  What is above a path, its extension: the code's.
-/
import Derived.Test.YtfegoldjejlcaaaDoorPthC
import Derived.Test.YtfegoldjejlcaaaDoorPthS2
namespace Go.Proofs.YtfegoldjejlcaaaDoor
open Go.RowKit
set_option linter.unusedVariables false
set_option linter.unusedSimpArgs false
set_option maxRecDepth 100000 in
set_option maxHeartbeats 2000000 in
theorem parent_any (s : ByteArray) (w : World) (hs : s.size ≤ 1048576) (hm : MxL w) :
    Calls Tryd.prog 15 #[.string s] w fun e w' => e = .returned (.string (parB s)) ∧ Below w.heap.size w w' := by
  have HC : Hid (∀ w, Calls Tryd.prog 49 #[.string s, .int .u8 47] w fun e w' => e = .returned (.int .i64 (cutI s)) ∧ w' = w) := fun w => Tryd.strings_LastIndexByte s 47 (by omega) w
  have HP : Hid (Calls Tryd.prog 50 #[.string s] w fun e w' => e = .returned (.bool (pathB s.toList)) ∧ Below w.heap.size w w') := pathOk_any s w hs hm
  have HK : Hid (∀ (x : ByteArray) w, x.size ≤ 1048576 → Calls Tryd.prog 51 #[.string x] w fun e w' => e = .returned (.string x) ∧ Below w.heap.size w w') := fun x w h => clone_any x w (by omega)
  obtain ⟨h1, h2⟩ := cut_lo s
  have HX : Hid ((cutI s < 0 → parB s = ByteArray.empty) ∧ (pathB s.toList = false → parB s = ByteArray.empty) ∧ (pathB s.toList = true → ∀ m : Nat, cutI s = m → parB s = s.extract 0 m)) := by
    refine ⟨fun h => ?_, fun h => by unfold parB; rw [h]; rfl, fun h m hm => by unfold parB; rw [if_pos h, hm]; rfl⟩
    unfold parB
    have e0 : (cutI s).toNat = 0 := by omega
    split
    · rw [e0, ext_zero]
    · rfl
  clear hm
  generalize cutI s = C at HC h1 h2 HX
  generalize parB s = X at HX ⊢
  by_cases h0 : C < 0
  · obtain rfl := HX.out.1 h0
    clear h1 h2
    go_enter Tryd.func15, Tryd.ntmps15
    go_wp2_with fail
    refine (HC.out _).mono ?_
    rintro e w1 ⟨rfl, hw⟩
    subst hw
    go_wp2_with fail
    go_ret
    exact ⟨rfl, Below.refl _ _⟩
  · obtain ⟨m, rfl⟩ : ∃ m : Nat, C = (m : Int) := ⟨C.toNat, by omega⟩
    have hms : (m : Int) ≤ (s.size : Int) := by omega
    have hm0 : ¬ (m : Int) < 0 := by omega
    clear h0 h1 h2
    cases hp : pathB s.toList with
    | false =>
      obtain rfl := HX.out.2.1 hp
      rw [hp] at HP
      clear hp
      go_enter Tryd.func15, Tryd.ntmps15
      go_wp2_with fail
      refine (HC.out _).mono ?_
      rintro e w1 ⟨rfl, hw⟩
      subst hw
      go_wp2_with fail
      refine HP.out.mono ?_
      rintro e w2 ⟨rfl, hb⟩
      go_wp2_with fail
      go_ret
      exact ⟨rfl, hb⟩
    | true =>
      obtain rfl := HX.out.2.2 hp m rfl
      have hxs : (s.extract 0 m).size ≤ 1048576 := by rw [ByteArray.size_extract]; omega
      rw [hp] at HP
      clear hp
      go_enter Tryd.func15, Tryd.ntmps15
      go_wp2_with fail
      refine (HC.out _).mono ?_
      rintro e w1 ⟨rfl, hw⟩
      subst hw
      go_wp2_with fail
      refine HP.out.mono ?_
      rintro e w2 ⟨rfl, hb⟩
      go_wp2_with fail
      refine (HK.out _ _ hxs).mono ?_
      rintro e w3 ⟨rfl, hb3⟩
      go_wp2_with fail
      go_ret
      exact ⟨rfl, hb.trans (hb3.mono hb.size)⟩
set_option maxRecDepth 100000 in
set_option maxHeartbeats 2000000 in
theorem ext_any (s : ByteArray) (w : World) (hs : s.size ≤ 1048576) (hm : MxL w) :
    Calls Tryd.prog 26 #[.string s] w fun e w' => e = .returned (.string (extB s)) ∧ Below w.heap.size w w' := by
  have HC : Hid (∀ w, Calls Tryd.prog 49 #[.string s, .int .u8 47] w fun e w' => e = .returned (.int .i64 (cutI s)) ∧ w' = w) := fun w => Tryd.strings_LastIndexByte s 47 (by omega) w
  have HD : Hid (∀ (x : ByteArray) w, x.size ≤ 1048576 → Calls Tryd.prog 49 #[.string x, .int .u8 46] w fun e w' => e = .returned (.int .i64 (dotI x)) ∧ w' = w) := fun x w h => Tryd.strings_LastIndexByte x 46 (by omega) w
  have HP : Hid (Calls Tryd.prog 50 #[.string s] w fun e w' => e = .returned (.bool (pathB s.toList)) ∧ Below w.heap.size w w') := pathOk_any s w hs hm
  have HK : Hid (∀ (x : ByteArray) w, x.size ≤ 1048576 → Calls Tryd.prog 51 #[.string x] w fun e w' => e = .returned (.string x) ∧ Below w.heap.size w w') := fun x w h => clone_any x w (by omega)
  obtain ⟨h1, h2⟩ := cut_lo s
  clear hm
  cases hp : pathB s.toList with
  | false =>
    have e : extB s = ByteArray.empty := by unfold extB; rw [hp]; rfl
    rw [e]
    rw [hp] at HP
    clear hp e
    go_enter Tryd.func26, Tryd.ntmps26
    go_wp2_with fail
    refine HP.out.mono ?_
    rintro e w2 ⟨rfl, hb⟩
    go_wp2_with fail
    go_ret
    exact ⟨rfl, hb⟩
  | true =>
    have e : extB s = exB (lastN s) := by unfold extB; rw [hp]; rfl
    rw [e]
    rw [hp] at HP
    clear hp e
    obtain ⟨m, hm⟩ : ∃ m : Nat, m = (cutI s + 1).toNat := ⟨_, rfl⟩
    have hmx : IntKind.i64.wrap (cutI s + 1) = (m : Int) := by rw [IntKind.wrap_i64]; omega
    have hms : (m : Int) ≤ (s.size : Int) := by omega
    obtain ⟨n, hn⟩ : ∃ n, n = s.extract m s.size := ⟨_, rfl⟩
    have hl : lastN s = n := by unfold lastN; rw [← hm, hn]
    rw [hl]
    have hnl : n.size ≤ 1048576 := by rw [hn, ByteArray.size_extract]; omega
    have hn2 : s.extract m s.size = n := hn.symm
    obtain ⟨h3, h4⟩ := lastIdx_lo n 46 n.size
    change -1 ≤ dotI n at h3
    change dotI n < _ at h4
    have HX : Hid ((dotI n ≤ 0 → exB n = ByteArray.empty) ∧ ∀ j : Nat, dotI n = j → 0 < j → exB n = n.extract (j + 1) n.size) := by
      refine ⟨fun h => by unfold exB; rw [if_pos h]; rfl, fun j hj h0 => ?_⟩
      unfold exB; rw [if_neg (by omega), hj]; rfl
    have HDn := HD.out n
    have HDD : Hid _ := HDn
    clear hm hn hl HDn HD
    generalize cutI s = C at HC hmx h1 h2
    generalize dotI n = D at HDD h3 h4 HX
    generalize exB n = X at HX ⊢
    by_cases h0 : D ≤ 0
    · obtain rfl := HX.out.1 h0
      go_enter Tryd.func26, Tryd.ntmps26
      go_wp2_with fail
      refine HP.out.mono ?_
      rintro e w2 ⟨rfl, hb⟩
      go_wp2_with fail
      refine (HC.out _).mono ?_
      rintro e w1 ⟨rfl, hw⟩
      subst hw
      go_wp2_with fail
      refine (HDD.out _ hnl).mono ?_
      rintro e w1 ⟨rfl, hw⟩
      subst hw
      go_wp2_with fail
      go_ret
      exact ⟨rfl, hb⟩
    · obtain ⟨j, rfl⟩ : ∃ j : Nat, D = (j : Int) := ⟨D.toNat, by omega⟩
      obtain rfl := HX.out.2 j rfl (by omega)
      have hj1 : (j : Int) + 1 ≤ (n.size : Int) := by omega
      have hxs : (n.extract (j + 1) n.size).size ≤ 1048576 := by rw [ByteArray.size_extract]; omega
      clear h3 h4 HX
      go_enter Tryd.func26, Tryd.ntmps26
      go_wp2_with fail
      refine HP.out.mono ?_
      rintro e w2 ⟨rfl, hb⟩
      go_wp2_with fail
      refine (HC.out _).mono ?_
      rintro e w1 ⟨rfl, hw⟩
      subst hw
      go_wp2_with fail
      refine (HDD.out _ hnl).mono ?_
      rintro e w1 ⟨rfl, hw⟩
      subst hw
      go_wp2_with fail
      refine (HK.out _ _ hxs).mono ?_
      rintro e w3 ⟨rfl, hb3⟩
      go_wp2_with fail
      go_ret
      exact ⟨rfl, hb.trans (hb3.mono hb.size)⟩
end Go.Proofs.YtfegoldjejlcaaaDoor
