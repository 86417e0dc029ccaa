/-
  Tokens: the code's.
-/
import Derived.Test.YtibciflmalfbjaaTkMath
import Derived.Test.YtibciflmalfbjaaStepC2
import Derived.Test.YtibciflmalfbjaaLonC3
import Derived.Laws.AppendOwn
import Derived.OwnWalk
namespace Go.Proofs.Ytibciflmalfbjaa
open Go.RowKit
set_option linter.unusedVariables false
set_option linter.unusedSimpArgs false

theorem owns_base {w : World} {B C : Nat} {e : TypeId} {v : Value} {n : Nat} {xs : List Value} (h : w.ownsRow B e 4 v n xs) (hC : C ≤ B) : w.ownsRow C e 4 v n xs := by
  obtain ⟨h0, h1 | ⟨g, cap, cur, h1, h2, h3⟩⟩ := h
  · exact ⟨h0, Or.inl h1⟩
  · exact ⟨h0, Or.inr ⟨g, cap, cur, h1, Nat.le_trans hC h2, h3⟩⟩
set_option maxRecDepth 100000 in
set_option maxHeartbeats 2000000 in
theorem tokens_any (s : ByteArray) (w : World) (hs : s.size ≤ 4000) :
    Calls Try.prog 59 #[.string s] w fun e w' => (∃ v, e = .returned (.tuple #[v, .bool true]) ∧ w'.ownsRow w.heap.size 95 4 v (tkL s).length (tkC (tkL s))) ∧ Below w.heap.size w w' := by
  obtain ⟨i0, hi, hz0, hz1, hz2⟩ := info_parts Try.infT
  have hsI : (s.size : Int) ≤ 4000 := by omega
  have HS : Hid (∀ w, Calls Try.prog 79 #[.string s] w fun e w' => (e = .returned (.slice (some ⟨w.heap.size, 0, none⟩) s.size s.size) ∧ w.heap.size < w'.heap.size ∧ ∀ j, j < s.size → w'.cell? ⟨w.heap.size, j, none⟩ = some (.int .i64 (stF (bsOf s) s.size j : Nat))) ∧ Below w.heap.size w w') := fun w => steps_any s w hs
  have HC : Hid (∀ (a : Nat) (w : World) (g : Nat), a < s.size → g < w.heap.size → (∀ j, j < s.size → w.cell? ⟨g, j, none⟩ = some (.int .i64 (stF (bsOf s) s.size j : Nat))) → Calls Try.prog 80 #[.string s, .slice (some ⟨g, 0, none⟩) s.size s.size, .int .i64 (a : Int)] w fun e w' => (∃ d n : Nat, IsB (g3 (lonF s a)) a d n ∧ n ≤ 66 ∧ e = .returned (.tuple #[.int .i64 (d : Int), .int .i64 (n : Int)])) ∧ Below w.heap.size w w') := fun a w g ha hg hc =>
    copy_any s a g s.size (stF (bsOf s) s.size) w ha hs (stF_ok _ _) (fun j hj => by have := stF_le (bsOf s) s.size j; omega) hc hg
  go_enter Try.func59, Try.ntmps59
  go_wp2_with fail
  refine (HS.out _).mono ?_
  rintro e w1 ⟨⟨rfl, hl1, hc1⟩, hb1⟩
  have HB1 : Hid (Below w.heap.size w w1) := hb1
  have HL1 : Hid (w.heap.size < w1.heap.size) := hl1
  have HC1 : Hid (∀ j, j < s.size → w1.cell? ⟨w.heap.size, j, none⟩ = some (.int .i64 (stF (bsOf s) s.size j : Nat))) := hc1
  clear hl1 hc1 hb1 HS
  go_wp2_with fail
  go_loopw [5, 6] (fun v c wr => ∃ (l : List TkN) (a : Nat), c = .int .i64 (a : Int) ∧ Hid (TkS s l a) ∧ wr.ownsRow w1.heap.size 95 4 v l.length (tkC l) ∧ Below w1.heap.size w1 wr) (fun _ c _ => s.size - (lonIntOf c).toNat)
  case atStart => exact ⟨[], 0, rfl, TkS.start s, ⟨rfl, Or.inl ⟨rfl, rfl⟩⟩, Below.refl _ _⟩
  case round =>
    obtain ⟨l, a, rfl, HT, hown, hb⟩ := hrel
    have hlen := HT.out.len
    by_cases ha : a < s.size
    · have haI : (a : Int) < (s.size : Int) := by omega
      have HCC : Hid (Calls Try.prog 80 #[.string s, .slice (some ⟨w.heap.size, 0, none⟩) s.size s.size, .int .i64 (a : Int)] wr fun e w' => (∃ d n : Nat, IsB (g3 (lonF s a)) a d n ∧ n ≤ 66 ∧ e = .returned (.tuple #[.int .i64 (d : Int), .int .i64 (n : Int)])) ∧ Below wr.heap.size wr w') :=
        HC.out a wr w.heap.size ha (Nat.lt_of_lt_of_le HL1.out hb.size) (fun j hj => (hb.cell (p := ⟨w.heap.size, j, none⟩) HL1.out).trans (HC1.out j hj))
      have HTN : Hid (TkS s (l ++ [tokAt s a]) (a + stepAt s a)) := HT.out.step ha
      have HSN0 : Hid _ := tkC_snoc l (tokAt s a)
      have hstep := step_in ha
      have hca := bsOf_at s a ha
      have hcl := bsOf_lt s a
      go_wp2_with fail
      refine HCC.out.mono ?_
      rintro e w3 ⟨⟨d, n, hB, hn66, rfl⟩, hb3⟩
      replace hown := owns_call4 hown hb3
      replace hb3 := bl_trans3 hb hb3 hb.size
      clear hb HCC
      by_cases h0 : n = 0
      · subst h0
        obtain ⟨ht, hst⟩ := tok_byte hB
        have HSTEP : Hid (stepAt s a = 1) := hst
        have HSN : Hid (tkC l ++ [Value.int .i64 0, .int .i64 ((bsOf s a : Nat) : Int), .int .i64 0, .int .i64 0] = tkC (l ++ [tokAt s a])) := by
          have := HSN0.out
          rw [ht] at this ⊢
          exact this
        have hst1 := HSTEP.out
        clear hB HSN0 ht hst
        generalize bsOf s a = c0 at hca hcl HSN
        go_wp2_with (at_builtin; (refine wpList_append_own _ rfl _ _ 102 rfl w1.heap.size 95 i0 _ 4 32 Try.underlying102 hi hz0 hz1 hz2 rfl (by decide) _ _ _ rfl (hown.alloc _) ⟨w3.heap.size, 0, none⟩ 1 1 [_, _, _, _] rfl rfl (cell_four_new _ _ _ _ _ _) ?c2 ?c3 ?c4 ?c5 ?_))
        case c2 => exact four_one _ _ _ _
        case c3 => unfold maxLen; omega
        case c4 => omega
        case c5 => have := hb3.size; simp; omega
        intro v' w4 hown' hgrow _
        have hb4 : Below w1.heap.size w1 w4 := (hb3.alloc hb3.size _).grown hgrow (by have := hb3.size; simp; omega) (fun k hk => (hown.lt k hk).1)
        have H4 : Hid (w4.ownsRow w1.heap.size 95 4 v' (l.length + 1) (tkC (l ++ [tokAt s a])) ∧ Below w1.heap.size w1 w4) := ⟨by have h := hown'; rw [HSN.out] at h; exact h, hb4⟩
        clear hown' hgrow hown hb4 HSN
        go_wp2_with fail
        go_roundw
        case rel => exact ⟨l ++ [tokAt s a], a + stepAt s a, by rw [HSTEP.out]; go_num, HTN.out, by rw [List.length_append]; exact H4.out.1, H4.out.2⟩
        case measure => simp [lonIntOf]; omega
      · have h0I : ¬ (n : Int) = 0 := by omega
        have h0b : ((n : Int) == 0) = false := beq_eq_false_iff_ne.2 h0I
        obtain ⟨ht, hst⟩ := tok_copy hB (by omega)
        have HSTEP : Hid (stepAt s a = n) := hst
        have HSN : Hid (tkC l ++ [Value.int .i64 1, .int .i64 0, .int .i64 (d : Int), .int .i64 (n : Int)] = tkC (l ++ [tokAt s a])) := by
          have := HSN0.out
          rw [ht] at this ⊢
          exact this
        have hst1 := HSTEP.out
        have hwn : IntKind.i64.wrap ((a : Int) + (n : Int)) = ((a + n : Nat) : Int) := by rw [IntKind.wrap_i64]; omega
        clear hB HSN0 ht hst hca hcl
        go_wp2_with (at_builtin; (refine wpList_append_own _ rfl _ _ 102 rfl w1.heap.size 95 i0 _ 4 32 Try.underlying102 hi hz0 hz1 hz2 rfl (by decide) _ _ _ rfl (hown.alloc _) ⟨w3.heap.size, 0, none⟩ 1 1 [_, _, _, _] rfl rfl (cell_four_new _ _ _ _ _ _) ?c2 ?c3 ?c4 ?c5 ?_))
        case c2 => exact four_one _ _ _ _
        case c3 => unfold maxLen; omega
        case c4 => omega
        case c5 => have := hb3.size; simp; omega
        intro v' w4 hown' hgrow _
        have hb4 : Below w1.heap.size w1 w4 := (hb3.alloc hb3.size _).grown hgrow (by have := hb3.size; simp; omega) (fun k hk => (hown.lt k hk).1)
        have H4 : Hid (w4.ownsRow w1.heap.size 95 4 v' (l.length + 1) (tkC (l ++ [tokAt s a])) ∧ Below w1.heap.size w1 w4) := ⟨by have h := hown'; rw [HSN.out] at h; exact h, hb4⟩
        clear hown' hgrow hown hb4 HSN
        go_wp2_with fail
        go_roundw
        case rel => exact ⟨l ++ [tokAt s a], a + stepAt s a, by rw [HSTEP.out]; go_num, HTN.out, by rw [List.length_append]; exact H4.out.1, H4.out.2⟩
        case measure => simp [lonIntOf]; omega
    · have haI : ¬ (a : Int) < (s.size : Int) := by omega
      have hfin := HT.out.fin ha
      subst hfin
      go_wp2_with fail
      go_ret2
      exact ⟨⟨_, rfl, owns_base hown (Nat.le_of_lt HL1.out)⟩, bl_trans3 HB1.out hb HB1.out.size⟩
end Go.Proofs.Ytibciflmalfbjaa
