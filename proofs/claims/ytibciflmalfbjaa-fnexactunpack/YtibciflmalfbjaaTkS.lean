/-
  Tokens: the specification's.
-/
import Derived.Test.YtibciflmalfbjaaTkC
import Derived.Test.YtibciflmalfbjaaLonS
import Derived.Laws.MakeOwn
namespace Go.Proofs.Ytibciflmalfbjaa
open Go.RowKit
set_option linter.unusedVariables false
set_option linter.unusedSimpArgs false

set_option maxRecDepth 100000 in
set_option maxHeartbeats 2000000 in
theorem stokens_any (s : ByteArray) (w : World) (hs : s.size ≤ 4000) :
    Calls Try.prog 69 #[.string s] w fun e w' => (∃ v, e = .returned (.tuple #[v, .bool true]) ∧ w'.ownsRow w.heap.size 95 4 v (tkL s).length (tkC (tkL s))) ∧ Below w.heap.size w w' := by
  obtain ⟨i0, hi, hz0, hz1, hz2⟩ := info_parts Try.infT
  have hsI : (s.size : Int) ≤ 4000 := by omega
  have HL : Hid (∀ (a : Nat) (w : World), a < s.size → Calls Try.prog 84 #[.string s, .int .i64 (a : Int)] w fun e w' => e = .returned (lonV s a) ∧ Below w.heap.size w w') := fun a w ha => sl6_any s a w ha hs
  have HTA : Hid (∀ a, tokAt s a = if 3 ≤ (best (lonF s a) a).2 then ⟨1, 0, (best (lonF s a) a).1, (best (lonF s a) a).2⟩ else ⟨0, bsOf s a, 0, 0⟩) := fun a => rfl
  have HSA : Hid (∀ a, stepAt s a = if 3 ≤ (best (lonF s a) a).2 then (best (lonF s a) a).2 else 1) := fun a => rfl
  go_enter Try.func69, Try.ntmps69
  go_wp2_with fail
  go_loopw [4, 5] (fun v c wr => ∃ (l : List TkN) (a : Nat), c = .int .i64 (a : Int) ∧ Hid (TkS s l a) ∧ wr.ownsRow w.heap.size 95 4 v l.length (tkC l) ∧ Below w.heap.size w wr) (fun _ c _ => s.size - (lonIntOf c).toNat)
  case atStart => exact ⟨[], 0, rfl, TkS.start s, World.ownsRow_made w #[] 0 (Nat.le_refl _) (by unfold maxLen; omega) rfl, (Below.refl _ _).alloc (Nat.le_refl _) _⟩
  case round =>
    obtain ⟨l, a, rfl, HT, hown, hb⟩ := hrel
    have hlen := HT.out.len
    by_cases ha : a < s.size
    · have haI : (a : Int) < (s.size : Int) := by omega
      have HCC : Hid (Calls Try.prog 84 #[.string s, .int .i64 (a : Int)] wr fun e w' => e = .returned (.tuple #[.int .i64 ((best (lonF s a) a).1 : Nat), .int .i64 ((best (lonF s a) a).2 : Nat)]) ∧ Below wr.heap.size wr w') := HL.out a wr ha
      have HTN : Hid (TkS s (l ++ [tokAt s a]) (a + stepAt s a)) := HT.out.step ha
      have HSN0 : Hid _ := tkC_snoc l (tokAt s a)
      have hstep := step_in ha
      have hca := bsOf_at s a ha
      have hcl := bsOf_lt s a
      have hta := HTA.out a
      have hsa := HSA.out a
      generalize (best (lonF s a) a).1 = d at *
      generalize (best (lonF s a) a).2 = n at *
      go_wp2_with fail
      refine HCC.out.mono ?_
      rintro e w3 ⟨rfl, hb3⟩
      replace hown := owns_call4 hown hb3
      replace hb3 := bl_trans3 hb hb3 hb.size
      clear hb HCC
      by_cases h0 : 3 ≤ n
      · have h0I : 3 ≤ (n : Int) := by omega
        rw [if_pos h0] at hta hsa
        have HSTEP : Hid (stepAt s a = n) := hsa
        have HSN : Hid (tkC l ++ [Value.int .i64 1, .int .i64 0, .int .i64 (d : Int), .int .i64 (n : Int)] = tkC (l ++ [tokAt s a])) := by
          have := HSN0.out
          rw [hta] at this ⊢
          exact this
        have hn1 : a + n ≤ s.size := by omega
        have hst1 := HSTEP.out
        clear HSN0 hta hsa hca hcl
        go_wp2_with (at_builtin; (refine wpList_append_own _ rfl _ _ 102 rfl w.heap.size 95 i0 _ 4 32 Try.underlying102 hi hz0 hz1 hz2 rfl (by decide) _ _ _ rfl (hown.alloc _) ⟨w3.heap.size, 0, none⟩ 1 1 [_, _, _, _] rfl rfl (cell_four_new _ _ _ _ _ _) ?c2 ?c3 ?c4 ?c5 ?_))
        case c2 => exact four_one _ _ _ _
        case c3 => unfold maxLen; omega
        case c4 => omega
        case c5 => have := hb3.size; simp; omega
        intro v' w4 hown' hgrow _
        have hb4 : Below w.heap.size w w4 := (hb3.alloc hb3.size _).grown hgrow (by have := hb3.size; simp; omega) (fun k hk => (hown.lt k hk).1)
        have H4 : Hid (w4.ownsRow w.heap.size 95 4 v' (l.length + 1) (tkC (l ++ [tokAt s a])) ∧ Below w.heap.size w w4) := ⟨by have h := hown'; rw [HSN.out] at h; exact h, hb4⟩
        clear hown' hgrow hown hb4 HSN
        go_wp2_with fail
        go_roundw
        case rel => exact ⟨l ++ [tokAt s a], a + stepAt s a, by rw [HSTEP.out]; go_num, HTN.out, by rw [List.length_append]; exact H4.out.1, H4.out.2⟩
        case measure => simp [lonIntOf]; omega
      · have h0I : ¬ 3 ≤ (n : Int) := by omega
        rw [if_neg h0] at hta hsa
        have HSTEP : Hid (stepAt s a = 1) := hsa
        have HSN : Hid (tkC l ++ [Value.int .i64 0, .int .i64 ((bsOf s a : Nat) : Int), .int .i64 0, .int .i64 0] = tkC (l ++ [tokAt s a])) := by
          have := HSN0.out
          rw [hta] at this ⊢
          exact this
        have hst1 := HSTEP.out
        clear HSN0 hta hsa
        generalize bsOf s a = c0 at hca hcl HSN
        go_wp2_with (at_builtin; (refine wpList_append_own _ rfl _ _ 102 rfl w.heap.size 95 i0 _ 4 32 Try.underlying102 hi hz0 hz1 hz2 rfl (by decide) _ _ _ rfl (hown.alloc _) ⟨w3.heap.size, 0, none⟩ 1 1 [_, _, _, _] rfl rfl (cell_four_new _ _ _ _ _ _) ?c2 ?c3 ?c4 ?c5 ?_))
        case c2 => exact four_one _ _ _ _
        case c3 => unfold maxLen; omega
        case c4 => omega
        case c5 => have := hb3.size; simp; omega
        intro v' w4 hown' hgrow _
        have hb4 : Below w.heap.size w w4 := (hb3.alloc hb3.size _).grown hgrow (by have := hb3.size; simp; omega) (fun k hk => (hown.lt k hk).1)
        have H4 : Hid (w4.ownsRow w.heap.size 95 4 v' (l.length + 1) (tkC (l ++ [tokAt s a])) ∧ Below w.heap.size w w4) := ⟨by have h := hown'; rw [HSN.out] at h; exact h, hb4⟩
        clear hown' hgrow hown hb4 HSN
        go_wp2_with fail
        go_roundw
        case rel => exact ⟨l ++ [tokAt s a], a + stepAt s a, by rw [HSTEP.out]; go_num, HTN.out, by rw [List.length_append]; exact H4.out.1, H4.out.2⟩
        case measure => simp [lonIntOf]; omega
    · have haI : ¬ (a : Int) < (s.size : Int) := by omega
      have hfin := HT.out.fin ha
      subst hfin
      go_wp2_with fail
      go_ret2
      exact ⟨⟨_, rfl, hown⟩, hb⟩
set_option maxRecDepth 100000 in
theorem tokens_no (s : ByteArray) (w : World) (hs : ¬ s.size ≤ 4000) :
    Calls Try.prog 59 #[.string s] w fun e w' => e = .returned (.tuple #[.slice none 0 0, .bool false]) ∧ w' = w := by
  have h1 : (4000 : Int) < (s.size : Int) := by omega
  clear hs
  go_enter Try.func59, Try.ntmps59
  go_wp2_with fail
  go_ret2
  exact ⟨rfl, rfl⟩
set_option maxRecDepth 100000 in
theorem stokens_no (s : ByteArray) (w : World) (hs : ¬ s.size ≤ 4000) :
    Calls Try.prog 69 #[.string s] w fun e w' => e = .returned (.tuple #[.slice none 0 0, .bool false]) ∧ w' = w := by
  have h1 : (4000 : Int) < (s.size : Int) := by omega
  clear hs
  go_enter Try.func69, Try.ntmps69
  go_wp2_with fail
  go_ret2
  exact ⟨rfl, rfl⟩
end Go.Proofs.Ytibciflmalfbjaa
