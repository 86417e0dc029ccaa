/-
  The choices of a text: the specification's.
-/
import Derived.Test.YtmckchklebohmanChC
import Derived.Test.YtmckchklebohmanTkS
import Derived.Test.YtmckchklebohmanUnTk
import Derived.Test.YtmckchklebohmanAppF
import Derived.Test.YtmckchklebohmanConv
namespace Go.Proofs.Ytmckchklebohman
open Go.RowKit
set_option linter.unusedVariables false
set_option linter.unusedSimpArgs false
def cIntOf : Value → Int | .int _ q => q | _ => 0
theorem Try.infChc : (Try.prog.info? 61).map (fun i => (i.zero, i.size, i.bytes)) = some (some (.agg #[.int .i64 0, .int .i64 0]), 2, 16) := by kernel_rfl
set_option maxRecDepth 100000 in
set_option maxHeartbeats 2000000 in
theorem stree_any (B gv cap : Nat) (L : List (Nat × Nat)) (f nb n : Nat) (w : World) (hf : f ≤ 1000) (hb : nb ≤ 8) (hn : n < 1000000) (hL : L.length ≤ 100000) (ho : w.ownsRow B 61 2 (.slice (some ⟨gv, 0, none⟩) L.length cap) L.length (cC L)) (hBw : B ≤ w.heap.size) :
    Calls Try.prog 38 #[.slice (some ⟨gv, 0, none⟩) L.length cap, .int .i64 (f : Int), .int .i64 (nb : Int), .int .i64 (n : Int)] w fun e w' => (∃ g' c', e = .returned (.slice (some ⟨g', 0, none⟩) (L ++ treeL f n nb 1).length c') ∧ w'.ownsRow B 61 2 (.slice (some ⟨g', 0, none⟩) (L ++ treeL f n nb 1).length c') (L ++ treeL f n nb 1).length (cC (L ++ treeL f n nb 1)) ∧ (g' = gv ∨ w.heap.size ≤ g')) ∧ w.grownBy w' (some gv) := by
  obtain ⟨i0, hi0, hz0, hz1, hz2⟩ := info_parts Try.infChc
  have HO0 : Hid (w.ownsRow B 61 2 (.slice (some ⟨gv, 0, none⟩) L.length cap) L.length (cC L)) := ho
  obtain ⟨A, hA⟩ : ∃ A, A = L ++ treeL f n nb 1 := ⟨_, rfl⟩
  have HA : Hid (A = L ++ treeL f n nb 1) := hA
  rw [← hA]
  clear ho hA
  go_enter Try.func38, Try.ntmps38
  go_wp2_with fail
  go_loopw [0, 9, 10] (fun x nd i wr => ∃ (gu cu k d : Nat) (M : List (Nat × Nat)), x = .slice (some ⟨gu, 0, none⟩) M.length cu ∧ nd = .int .i64 (d : Int) ∧ i = .int .i64 ((k : Int) - 1) ∧ k ≤ nb ∧ d < 2 ^ (nb - k + 1) ∧ Hid (A = M ++ treeL f n k d) ∧ M.length + k ≤ 100008 ∧ Hid (wr.ownsRow B 61 2 (.slice (some ⟨gu, 0, none⟩) M.length cu) M.length (cC M)) ∧ Hid (w.grownBy wr (some gv) ∧ (gu = gv ∨ w.heap.size ≤ gu))) (fun _ _ i _ => (cIntOf i + 1).toNat)
  case atStart => exact ⟨gv, cap, nb, 1, L, rfl, rfl, rfl, Nat.le_refl _, by rw [Nat.sub_self]; decide, HA, by omega, HO0, World.grownBy.refl _ _, Or.inl rfl⟩
  case round =>
    obtain ⟨gu, cu, k, d, M, rfl, rfl, rfl, hk, hd, HM, hML, HO, HB⟩ := hrel
    have hd9 : d < 512 := Nat.lt_of_lt_of_le hd (Nat.pow_le_pow_right (by omega) (by omega : nb - k + 1 ≤ 9))
    by_cases hk0 : k = 0
    · subst hk0
      have HF : Hid (M.length = A.length ∧ wr.ownsRow B 61 2 (.slice (some ⟨gu, 0, none⟩) A.length cu) A.length (cC A)) := by
        have e := HM.out
        rw [show treeL f n 0 d = [] from rfl, List.append_nil] at e
        rw [e]; exact ⟨rfl, HO.out⟩
      clear hd HO
      go_wp2_with fail
      go_ret
      exact ⟨⟨gu, cu, by rw [← HF.out.1]; rfl, HF.out.2, HB.out.2⟩, HB.out.1⟩
    · obtain ⟨j, rfl⟩ : ∃ j, k = j + 1 := ⟨k - 1, by omega⟩
      have e1 : ((j + 1 : Nat) : Int) - 1 = (j : Int) := by omega
      rw [e1]
      obtain ⟨t, ht⟩ : ∃ t, t = n / 2 ^ j % 2 := ⟨_, rfl⟩
      obtain ⟨q, hq⟩ : ∃ q, q = n / 2 ^ j := ⟨_, rfl⟩
      have ht2 : t < 2 := by omega
      have hshr : (n : Int) / (2 : Int) ^ j = (q : Int) := by rw [hq]; simp
      have hrem : Int.tmod (q : Int) 2 = (t : Int) := by rw [Int.tmod_eq_emod_of_nonneg (by omega), ht, hq]; omega
      have hju : IntKind.u32.wrap (j : Int) = (j : Int) := by rw [IntKind.wrap_u32]; omega
      have HM2 : Hid (A = (M ++ [(f + d, t)]) ++ treeL f n j (2 * d + t)) := by
        show A = _
        rw [HM.out, treeL, ← ht]; simp
      have hd2 : 2 * d + t < 2 ^ (nb - j + 1) := by
        have e : nb - j + 1 = (nb - (j + 1) + 1) + 1 := by omega
        rw [e, Nat.pow_succ]; omega
      have hw1 : IntKind.i64.wrap ((f : Int) + (d : Int)) = ((f + d : Nat) : Int) := by rw [IntKind.wrap_i64]; omega
      have hw1b : (f : Int) + (d : Int) = ((f + d : Nat) : Int) := by omega
      have hw2 : IntKind.i64.wrap (2 * (d : Int)) = 2 * (d : Int) := by rw [IntKind.wrap_i64]; omega
      obtain ⟨nd2, hnd2⟩ : ∃ nd2, nd2 = 2 * d + t := ⟨_, rfl⟩
      have hw3b : 2 * (d : Int) + (t : Int) = (nd2 : Int) := by omega
      have hw3 : IntKind.i64.wrap (nd2 : Int) = (nd2 : Int) := by rw [IntKind.wrap_i64]; omega
      rw [← hnd2] at HM2 hd2
      have HSN : Hid (cC (M ++ [(f + d, t)]) = cC M ++ [.int .i64 ((f + d : Nat) : Int), .int .i64 (t : Int)]) := cC_snoc _ _ _
      have hsz := HB.out.1.size
      clear hd ht hq HM e1 hnd2
      generalize f + d = z at *
      go_wp2_with (at_builtin; refine wpList_append_fr _ rfl _ _ 34 rfl B 61 i0 (.agg #[.int .i64 0, .int .i64 0]) 2 16 Try.underlying34 hi0 hz0 hz1 hz2 rfl (by decide) gu cu M.length _ rfl (HO.out.alloc _) ⟨wr.heap.size, 0, none⟩ 1 1 [_, _] rfl rfl cell_two ?c2 ?c3 ?c4 ?c5 ?_)
      case c2 => intro u hu; simp at hu; rcases hu with rfl | rfl <;> rfl
      case c3 => unfold maxLen; omega
      case c4 => omega
      case c5 => simp; omega
      intro g3 c3 w3 hown' hgrow hg3
      have H3 : Hid (w3.ownsRow B 61 2 (.slice (some ⟨g3, 0, none⟩) (M ++ [(z, t)]).length c3) (M ++ [(z, t)]).length (cC (M ++ [(z, t)])) ∧ w.grownBy w3 (some gv) ∧ (g3 = gv ∨ w.heap.size ≤ g3)) := by
        refine ⟨by rw [HSN.out, List.length_append]; exact hown', ?_, ?_⟩
        · exact (HB.out.1.trans (World.grownBy_alloc wr _ _)).andThen hgrow (fun j hj => by
            have e := Option.some.inj hj
            subst e
            rcases HB.out.2 with h | h
            · exact Or.inr (by rw [h])
            · exact Or.inl h)
        · rcases hg3 with h | h
          · rw [h]; exact HB.out.2
          · exact Or.inr (by have h' : wr.heap.size + 1 ≤ g3 := by simpa using h
                             omega)
      have HL3 : Hid ((M ++ [(z, t)]).length = M.length + 1) := by show _ = _; simp
      clear hown' hgrow hg3 HO HB
      go_wp2_with fail
      go_roundw
      case rel => exact ⟨g3, c3, j, nd2, M ++ [(z, t)], by rw [HL3.out], by go_num, rfl, by omega, hd2, HM2, by rw [HL3.out]; omega, H3.out.1, H3.out.2⟩
      case measure => simp [cIntOf] <;> omega
end Go.Proofs.Ytmckchklebohman
