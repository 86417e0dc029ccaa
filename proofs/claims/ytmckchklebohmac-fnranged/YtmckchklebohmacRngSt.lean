/-
  The coder of ranges: the specification's RangeEncode.
-/
import Derived.Test.YtmckchklebohmacRngSr
import Derived.Test.YtmckchklebohmacRngZ
import Derived.Test.YtmckchklebohmacIn
namespace Go.Proofs.Ytmckchklebohmac
open Go.RowKit
set_option linter.unusedVariables false
set_option linter.unusedSimpArgs false
set_option maxRecDepth 100000 in
set_option maxHeartbeats 2000000 in
theorem senc_yes (a : Option Addr) (c n : Nat) (F : Nat → Int × Int) (w : World) (hn : n ≤ 40000) (hr : 0 < n → ∃ g, a = some ⟨g, 0, none⟩ ∧ ChRow w g n F) (hok : ∀ i, i < n → okCh (F i)) :
    Calls Try.prog 11 #[.slice a n c] w fun e w' => e = .returned (.tuple #[.string (encB (RS.start.run (chL F n))), .bool true]) ∧ Below w.heap.size w w' := by
  have hnI : (n : Int) ≤ 40000 := by omega
  have HR : Hid (0 < n → ∃ g, a = some ⟨g, 0, none⟩ ∧ ChRow w g n F) := hr
  have HOK : Hid (∀ i, i < n → okCh (F i)) := hok
  have HIY : Hid (∀ (x lo hi : Int) w, (lo ≤ x ∧ x ≤ hi) → Calls Try.prog 35 #[.int .i64 x, .int .i64 lo, .int .i64 hi] w fun e w' => e = .returned (.bool true) ∧ w' = w) := fun x lo hi w h => in_yes x lo hi w h.1 h.2
  have HEN : Hid (∀ w', Below w.heap.size w w' → Calls Try.prog 36 #[.slice a n c] w' fun e w'' => e = .returned (.string (encB (RS.start.run (chL F n)))) ∧ Below w'.heap.size w' w'') := fun w' hb => sencode_any a c n F w' hn (fun h0 => by obtain ⟨g, h1, h2⟩ := hr h0; exact ⟨g, h1, h2.below hb h2.lt⟩) hok
  generalize encB (RS.start.run (chL F n)) = R at HEN ⊢
  clear hr hok
  go_enter Try.func11, Try.ntmps11
  go_wp2_with fail
  go_loopw [4] (fun t wr => ∃ i : Nat, i ≤ n ∧ t = .int .i64 (i : Int) ∧ wr = w) (fun t _ => n - natOfI t)
  case atStart => exact ⟨0, by omega, rfl, rfl⟩
  case round =>
    obtain ⟨i, hi, rfl, rfl⟩ := hrel
    by_cases hlt : i < n
    · have hltI : (i : Int) < (n : Int) := by omega
      obtain ⟨g, rfl, hRR⟩ := HR.out (by omega)
      obtain ⟨⟨o1, o2⟩, o3⟩ := HOK.out i hlt
      obtain ⟨q, hq⟩ : ∃ q, q = 2 * i := ⟨_, rfl⟩
      have hiq : i * 2 = q := by omega
      have x0 := hRR.x i hlt
      have x1 := hRR.b i hlt
      rw [← hq] at x0 x1
      generalize (F i).1 = x at *
      generalize (F i).2 = b at *
      clear hRR hq
      go_wp2_with fail
      refine (HIY.out x 0 511 _ ⟨o1, by omega⟩).mono ?_
      rintro e w2 ⟨rfl, hw2⟩
      subst w2
      go_wp2_with fail
      refine (HIY.out b 0 1 _ (by omega)).mono ?_
      rintro e w2 ⟨rfl, hw2⟩
      subst w2
      go_wp2_with fail
      go_roundw
      case rel => exact ⟨i + 1, by omega, by go_num, trivial⟩
      case measure => simp [natOfI]; omega
    · obtain rfl : i = n := by omega
      go_wp2_with fail
      refine (HEN.out _ (Below.refl _ _)).mono ?_
      rintro e w2 ⟨rfl, hb2⟩
      go_wp2_with fail
      go_ret2
      exact ⟨rfl, hb2⟩
set_option maxRecDepth 100000 in
set_option maxHeartbeats 2000000 in
theorem senc_bad (g c n k : Nat) (F : Nat → Int × Int) (w : World) (hn : n ≤ 40000) (hk : k < n) (hr : ChRow w g n F) (hok : ∀ i, i < k → okCh (F i)) (hbad : ¬ okCh (F k)) :
    Calls Try.prog 11 #[.slice (some ⟨g, 0, none⟩) n c] w fun e w' => e = .returned (.tuple #[.string ⟨#[]⟩, .bool false]) ∧ Below w.heap.size w w' := by
  have hnI : (n : Int) ≤ 40000 := by omega
  have HR : Hid (ChRow w g n F) := hr
  have HOK : Hid ((∀ i, i < k → okCh (F i)) ∧ ¬ okCh (F k)) := ⟨hok, hbad⟩
  have HIY : Hid (∀ (x lo hi : Int) w, (lo ≤ x ∧ x ≤ hi) → Calls Try.prog 35 #[.int .i64 x, .int .i64 lo, .int .i64 hi] w fun e w' => e = .returned (.bool true) ∧ w' = w) := fun x lo hi w h => in_yes x lo hi w h.1 h.2
  have HIN : Hid (∀ (x lo hi : Int) w, ¬ (lo ≤ x ∧ x ≤ hi) → Calls Try.prog 35 #[.int .i64 x, .int .i64 lo, .int .i64 hi] w fun e w' => e = .returned (.bool false) ∧ w' = w) := fun x lo hi w h => in_no x lo hi w h
  clear hr hok hbad
  go_enter Try.func11, Try.ntmps11
  go_wp2_with fail
  go_loopw [4] (fun t wr => ∃ i : Nat, i ≤ k ∧ t = .int .i64 (i : Int) ∧ wr = w) (fun t _ => n - natOfI t)
  case atStart => exact ⟨0, by omega, rfl, rfl⟩
  case round =>
    obtain ⟨i, hi, rfl, rfl⟩ := hrel
    have hltI : (i : Int) < (n : Int) := by omega
    have hRR := HR.out
    obtain ⟨q, hq⟩ : ∃ q, q = 2 * i := ⟨_, rfl⟩
    have hiq : i * 2 = q := by omega
    have x0 := hRR.x i (by omega)
    have x1 := hRR.b i (by omega)
    rw [← hq] at x0 x1
    by_cases hlt : i < k
    · obtain ⟨⟨o1, o2⟩, o3⟩ := HOK.out.1 i hlt
      generalize (F i).1 = x at *
      generalize (F i).2 = b at *
      clear hRR hq
      go_wp2_with fail
      refine (HIY.out x 0 511 _ ⟨o1, by omega⟩).mono ?_
      rintro e w2 ⟨rfl, hw2⟩
      subst w2
      go_wp2_with fail
      refine (HIY.out b 0 1 _ (by omega)).mono ?_
      rintro e w2 ⟨rfl, hw2⟩
      subst w2
      go_wp2_with fail
      go_roundw
      case rel => exact ⟨i + 1, by omega, by go_num, trivial⟩
      case measure => simp [natOfI]; omega
    · obtain rfl : i = k := by omega
      have hb := HOK.out.2
      unfold okCh at hb
      generalize (F i).1 = x at *
      generalize (F i).2 = b at *
      have HB : Hid (¬ ((0 ≤ x ∧ x < 512) ∧ (b = 0 ∨ b = 1))) := hb
      clear hRR hq hb
      by_cases c1 : 0 ≤ x ∧ x ≤ 511
      · have C1 : Hid (0 ≤ x ∧ x ≤ 511) := c1
        clear c1
        go_wp2_with fail
        refine (HIY.out x 0 511 _ C1.out).mono ?_
        rintro e w2 ⟨rfl, hw2⟩
        subst w2
        go_wp2_with fail
        refine (HIN.out b 0 1 _ (by have := HB.out; have := C1.out; omega)).mono ?_
        rintro e w2 ⟨rfl, hw2⟩
        subst w2
        go_wp2_with fail
        go_ret2
        exact ⟨rfl, Below.refl _ _⟩
      · have C1 : Hid (¬ (0 ≤ x ∧ x ≤ 511)) := c1
        clear c1
        go_wp2_with fail
        refine (HIN.out x 0 511 _ C1.out).mono ?_
        rintro e w2 ⟨rfl, hw2⟩
        subst w2
        go_wp2_with fail
        go_ret2
        exact ⟨rfl, Below.refl _ _⟩
set_option maxRecDepth 100000 in
theorem senc_long (a : Option Addr) (c n : Nat) (w : World) (hn : ¬ n ≤ 40000) :
    Calls Try.prog 11 #[.slice a n c] w fun e w' => e = .returned (.tuple #[.string ⟨#[]⟩, .bool false]) ∧ Below w.heap.size w w' := by
  have hnI : (40000 : Int) < (n : Int) := by omega
  clear hn
  go_enter Try.func11, Try.ntmps11
  go_wp2_with fail
  go_ret2
  exact ⟨rfl, Below.refl _ _⟩
theorem sencR_any (v : Value) (n : Nat) (F : Nat → Int × Int) (w : World) (h : ChArg w v n F) :
    Calls Try.prog 11 #[v] w fun e w' => e = .returned (.tuple #[.string (encAns F n), .bool (encIs F n)]) ∧ Below w.heap.size w w' := by
  obtain ⟨a, c, rfl, hr⟩ := h
  by_cases hok : chOk F n
  · obtain ⟨e1, e2⟩ := encAns_yes hok
    rw [e1, e2]
    exact senc_yes a c n F w hok.1 hr hok.2
  · obtain ⟨e1, e2⟩ := encAns_no hok
    rw [e1, e2]
    by_cases hn : n ≤ 40000
    · obtain ⟨k, h1, h2, h3⟩ := first_bad (fun i => okCh (F i)) n (fun c => hok ⟨hn, c⟩)
      obtain ⟨g, rfl, hrow⟩ := hr (by omega)
      exact senc_bad g c n k F w hn h1 hrow h2 h3
    · exact senc_long a c n w hn
end Go.Proofs.Ytmckchklebohmac
