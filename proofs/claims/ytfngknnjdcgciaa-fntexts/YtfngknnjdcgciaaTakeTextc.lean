/-
  What TakeText answers, the code's.
-/
import Derived.Test.YtfngknnjdcgciaaTakeText
import Derived.Deep.RegionWith
namespace Go.Proofs.Ytfngknnjdcgciaa
open Go.RowKit

theorem clone_in (w : World) (s : ByteArray) (W : World) (hlim : s.size ≤ 281474976710656) (hB : Below w.heap.size w W) :
    Calls Try.prog 35 #[.string s] W fun e w' => e = .returned (.string s) ∧ Below w.heap.size w w' :=
  (clone_any s W hlim).mono fun _ _ ⟨h1, h2⟩ => ⟨h1, hB.trans (h2.mono hB.size)⟩
theorem ext_le {s : ByteArray} {B : Nat} (h : s.size ≤ B) (a b : Nat) : (s.extract a b).size ≤ B := by
  simp; omega

set_option maxRecDepth 100000 in
set_option maxHeartbeats 1000000 in
theorem takeText_any (s : ByteArray) (w : World) (hs : s.size ≤ maxLen) (hb : s.size ≤ 281474976710656) :
    Calls Try.prog 16 #[.string s] w fun e w' => e = .returned (textOut s) ∧ Below w.heap.size w w' := by
  rcases hn : num s with _ | ⟨X, u⟩
  · have H1 : Hid _ := numOut_none hn
    have H2 : Hid (textOut s = _) := textOut_none (by unfold txt; rw [hn])
    clear hn
    go_enter Try.func16, Try.ntmps16
    go_wp2_with fail
    refine (read_any s _ hs).mono ?_
    rintro e w1 ⟨he, rfl⟩
    rw [H1.out] at he
    subst he
    go_wp2_with fail
    go_ret3
    exact ⟨by rw [H2.out]; rfl, Below.refl _ _⟩
  · have hu := num_bd hn
    have hnn := rd_nn _ _ _ _ _ hn
    obtain ⟨n, rfl⟩ := Int.eq_ofNat_of_zero_le hnn
    have H1 : Hid _ := numOut_some hn
    obtain ⟨hu1, hu2, hu3⟩ := hu
    have hu0 : ((u : Int) == 0) = false := beq_eq_false_iff_ne.2 (by omega)
    by_cases h1 : n ≤ 100000
    · by_cases h2 : n ≤ s.size - u
      · have H2 : Hid (textOut s = _) := textOut_some (n := n) (u := u) (by unfold txt; rw [hn]; simp only []; rw [if_pos ⟨by omega, by omega⟩]; rfl)
        clear hn
        go_enter Try.func16, Try.ntmps16
        go_wp2_with fail
        refine (read_any s _ hs).mono ?_
        rintro e w1 ⟨he, rfl⟩
        rw [H1.out] at he
        subst he
        go_wp2_with fail
        have hb0 : Below w1.heap.size w1 w1.drew := (Below.refl _ _).drew
        go_region_with (first
          | (go_at_call 35; refine (clone_in w1 _ _ (ext_le hb _ _) hb0).mono ?_; clear hb0; rintro e w' ⟨rfl, hb0⟩))
        all_goals (go_wp2_with fail; go_ret3; refine ⟨?_, hb0⟩; rw [H2.out]; rfl)
      · have H2 : Hid (textOut s = _) := textOut_none (by unfold txt; rw [hn]; simp only []; rw [if_neg (by omega)])
        clear hn
        go_enter Try.func16, Try.ntmps16
        go_wp2_with fail
        refine (read_any s _ hs).mono ?_
        rintro e w1 ⟨he, rfl⟩
        rw [H1.out] at he
        subst he
        go_wp2_with fail
        go_ret3
        exact ⟨by rw [H2.out]; rfl, Below.refl _ _⟩
    · have H2 : Hid (textOut s = _) := textOut_none (by unfold txt; rw [hn]; simp only []; rw [if_neg (by omega)])
      clear hn
      go_enter Try.func16, Try.ntmps16
      go_wp2_with fail
      refine (read_any s _ hs).mono ?_
      rintro e w1 ⟨he, rfl⟩
      rw [H1.out] at he
      subst he
      go_wp2_with fail
      go_ret3
      exact ⟨by rw [H2.out]; rfl, Below.refl _ _⟩
end Go.Proofs.Ytfngknnjdcgciaa
