/-
  Choices: the code's are the specification's.
-/
import Derived.Test.YtmckchklebohmanRows
import Derived.Test.YtmckchklebohmanPost
import Derived.Test.YtmckchklebohmanChoI
import Derived.Test.YtmckchklebohmanChoS2
import Derived.Test.YtmckchklebohmanChMk
import Derived.Test.YtmckchklebohmanChoN
import Derived.WalkKit
import Derived.ProofKit
import Derived.OpenShut
import Derived.ShutString
namespace Go.Proofs.Ytmckchklebohman.fnExactChoices
open Go.ChangeShapes Go.WideShapes Go.ChangeAt Go.RowKit
open Go.ChangeMaps (open_string shut_string)
set_option linter.unusedVariables false      -- a walk need not use every 'w<i>' (that an integer argument fits its kind)

theorem own : ownKnob Try.prog.godebug = none := by kernel_rfl

theorem cC_two (L : List (Nat × Nat)) (i : Nat) (h : i < L.length) : ∃ k b : Int, (cC L)[2 * i]? = some (.int .i64 k) ∧ (cC L)[2 * i + 1]? = some (.int .i64 b) := ⟨_, _, (cC_at L i h).1, (cC_at L i h).2⟩
theorem own_form2 {w : World} {B n : Nat} {v : Value} {xs : List Value} (h : w.ownsRow B 61 2 v n xs) (h0 : 0 < n) :
    ∃ g cap cur, v = .slice (some ⟨g, 0, none⟩) n cap ∧ B ≤ g ∧ w.heap[g]? = some (.cells cur 61 (0, 0)) ∧ 2 * n ≤ cur.size ∧ ∀ (j : Nat) (u : Value), xs[j]? = some u → cur[j]? = some u := by
  obtain ⟨hl, ⟨_, h1⟩ | ⟨g, cap, cur, h1, h2, h3, h4, h5, h6, h7⟩⟩ := h
  · omega
  · refine ⟨g, cap, cur, h1, h2, h3, by omega, fun j u hj => ?_⟩
    rw [← h7, List.getElem?_take] at hj
    split at hj
    · simpa using hj
    · cases hj
theorem own_zero2 {w : World} {B : Nat} {v : Value} {xs : List Value} (h : w.ownsRow B 61 2 v 0 xs) : ∃ a c, v = .slice a 0 c := by
  obtain ⟨hl, ⟨h0, _⟩ | ⟨g, cap, cur, h1, _⟩⟩ := h
  · exact ⟨_, _, h0⟩
  · exact ⟨_, _, h1⟩

set_option maxRecDepth 100000 in
set_option maxHeartbeats 1000000 in
theorem walk (a0 : ByteArray) (w0 : a0.size ≤ maxLen) (w : World) :
    Calls Try.prog 5 #[.string a0] w fun e w' => e = .returned (.bool true) ∧ Below w.heap.size w w' := by
  by_cases hbig0 : (1048576 : Int) < (a0.size : Int)
  · go_enter Try.func5, Try.ntmps5
    go_wp2_with fail
    go_ret
    exact ⟨rfl, Below.refl _ _⟩
  by_cases hz : a0.size ≤ 4000 ∧ 0 < (choS a0).length
  · have HN : Hid ((choS a0).length ≤ 40000) := by have := choS_len hz.1; show _ ≤ _; omega
    have HA : Hid (∀ w, Calls Try.prog 18 #[.string a0] w fun e w' => (∃ v, e = .returned (.tuple #[v, .bool true]) ∧ w'.ownsRow w.heap.size 61 2 v (choS a0).length (cC (choS a0))) ∧ Below w.heap.size w w') := fun w => schoices_any a0 w hz.1
    have HB : Hid (∀ w, Calls Try.prog 19 #[.string a0] w fun e w' => (∃ v, e = .returned (.tuple #[v, .bool true]) ∧ w'.ownsRow w.heap.size 61 2 v (choS a0).length (cC (choS a0))) ∧ Below w.heap.size w w') := fun w => choices_any a0 w hz.1
    have HX : Hid _ := cC_two (choS a0)
    have H0 : Hid (0 < (choS a0).length) := hz.2
    generalize (choS a0).length = n at *
    generalize cC (choS a0) = xs at *
    clear hz w0
    go_enter Try.func5, Try.ntmps5
    go_wp2_with fail
    refine (HA.out _).mono ?_
    rintro e w1 ⟨⟨v1, rfl, ho1⟩, hb1⟩
    obtain ⟨g1, c1, cur1, rfl, hg1, hr1, hs1, hx1⟩ := own_form2 ho1 H0.out
    have HR1 : Hid (w1.heap[g1]? = some (.cells cur1 61 (0, 0))) := hr1
    have HX1 : Hid _ := hx1
    have HG1 : Hid (g1 < w1.heap.size) := (Array.getElem?_eq_some_iff.1 hr1).1
    have HB1 : Hid (Below w.heap.size w w1) := hb1
    clear ho1 hg1 hr1 hs1 hx1 hb1
    go_wp2_with fail
    refine (HB.out _).mono ?_
    rintro e w2 ⟨⟨v2, rfl, ho2⟩, hb2⟩
    obtain ⟨g2, c2, cur2, rfl, hg2, hr2, hs2, hx2⟩ := own_form2 ho2 H0.out
    have HR2 : Hid (w2.heap[g2]? = some (.cells cur2 61 (0, 0)) ∧ 2 * n ≤ cur2.size ∧ w1.heap.size ≤ g2) := ⟨hr2, hs2, hg2⟩
    have HG2 : Hid (g2 < w2.heap.size) := (Array.getElem?_eq_some_iff.1 hr2).1
    have HB2 : Hid (Below w1.heap.size w1 w2) := hb2
    have HE2 : Hid (Calls Try.prog 20 #[.slice (some ⟨g2, 0, none⟩) n c2, .slice (some ⟨g1, 0, none⟩) n c1] w2 fun e w' => e = .returned (.bool true) ∧ Below w2.heap.size w2 w') :=
      eqCS_any g2 g1 c2 c1 n xs w2 HN.out HX.out (fun j u hj => (cell_of_row w2 _ j _ _ _ hr2).trans (hx2 j u hj)) (fun j u hj => (cell_of_row w2 _ j _ _ _ ((hb2.block g1 HG1.out).trans HR1.out)).trans (HX1.out j u hj)) HG2.out (Nat.lt_of_lt_of_le HG1.out hb2.size)
    clear ho2 hg2 hr2 hs2 hx2 hb2
    go_wp2_with fail
    refine HE2.out.mono ?_
    rintro e w3 ⟨rfl, hb3⟩
    have HB3 : Hid (Below w2.heap.size w2 w3) := hb3
    obtain ⟨K, hK⟩ : ∃ K : Nat, K = 2 * n + 1 := ⟨_, rfl⟩
    have HKK : Hid (K = 2 * n + 1) := hK
    have HM : Hid (Calls Try.prog 21 #[.slice (some ⟨g2, 0, none⟩) n c2, .int .i64 1] w3 fun e w' => (e = .returned (.int .i64 (K : Int)) ∧ ∀ j, j < 2 * n → w'.cell? ⟨g2, j, none⟩ = some (.int .i64 ((j + 1 : Nat) : Int))) ∧ OnlyB g2 w3 w') := by
      show Calls _ _ _ _ _
      rw [hK]
      exact markCS_any g2 c2 n cur2 w3 HN.out ((hb3.block g2 HG2.out).trans HR2.out.1) HR2.out.2.1
    have hnn : ¬ (K : Int) < 0 := by omega
    clear hK
    clear hb3 HE2
    go_wp2_with fail
    refine HM.out.mono ?_
    rintro e w4 ⟨⟨rfl, hm4⟩, ho4⟩
    have HM4 : Hid (∀ j, j < 2 * n → w4.cell? ⟨g2, j, none⟩ = some (.int .i64 ((j + 1 : Nat) : Int))) := hm4
    have HO4 : Hid (OnlyB g2 w3 w4) := ho4
    have HH4 : Hid (Calls Try.prog 22 #[.slice (some ⟨g2, 0, none⟩) n c2, .int .i64 1] w4 fun e w' => e = .returned (.int .i64 (K : Int)) ∧ w' = w4) := by
      show Calls _ _ _ _ _
      rw [HKK.out]
      exact heldCS_any g2 c2 n w4 HN.out hm4
    clear hm4 ho4 HM
    go_wp2_with fail
    refine HH4.out.mono ?_
    rintro e w' ⟨rfl, hw'⟩
    subst w'
    go_wp2_with fail
    refine (HB.out _).mono ?_
    rintro e w5 ⟨⟨v3, rfl, ho5⟩, hb5⟩
    obtain ⟨g3, c3, cur3, rfl, hg3, hr3, hs3, hx3⟩ := own_form2 ho5 H0.out
    have hsz34 : w4.heap.size = w3.heap.size := HO4.out.size
    have hl1 : g1 < w4.heap.size := by have := HG1.out; have := HB2.out.size; have := HB3.out.size; omega
    have hl2 : g2 < w4.heap.size := by have := HG2.out; have := HB3.out.size; omega
    have hrow1 : w5.heap[g1]? = some (.cells cur1 61 (0, 0)) := by
      rw [hb5.block g1 hl1, HO4.out.block g1 (by have := HG1.out; have := HR2.out.2.2; omega), HB3.out.block g1 (by have := HG1.out; have := HB2.out.size; omega), HB2.out.block g1 HG1.out]
      exact HR1.out
    have HE5 : Hid (Calls Try.prog 20 #[.slice (some ⟨g3, 0, none⟩) n c3, .slice (some ⟨g1, 0, none⟩) n c1] w5 fun e w' => e = .returned (.bool true) ∧ Below w5.heap.size w5 w') :=
      eqCS_any g3 g1 c3 c1 n xs w5 HN.out HX.out (fun j u hj => (cell_of_row w5 _ j _ _ _ hr3).trans (hx3 j u hj)) (fun j u hj => (cell_of_row w5 _ j _ _ _ hrow1).trans (HX1.out j u hj)) (Array.getElem?_eq_some_iff.1 hr3).1 (Nat.lt_of_lt_of_le hl1 hb5.size)
    have HB5 : Hid (Below w4.heap.size w4 w5) := hb5
    have HL2 : Hid (g2 < w4.heap.size) := hl2
    clear ho5 hg3 hr3 hs3 hx3 hb5 hrow1 hl1 hl2
    go_wp2_with fail
    refine HE5.out.mono ?_
    rintro e w6 ⟨rfl, hb6⟩
    have HB6 : Hid (Below w5.heap.size w5 w6) := hb6
    have HH6 : Hid (Calls Try.prog 22 #[.slice (some ⟨g2, 0, none⟩) n c2, .int .i64 1] w6 fun e w' => e = .returned (.int .i64 (K : Int)) ∧ w' = w6) := by
      show Calls _ _ _ _ _
      rw [HKK.out]
      exact heldCS_any g2 c2 n w6 HN.out (fun j hj => ((hb6.cell (p := ⟨g2, j, none⟩) (Nat.lt_of_lt_of_le HL2.out HB5.out.size)).trans (HB5.out.cell (p := ⟨g2, j, none⟩) HL2.out)).trans (HM4.out j hj))
    clear hb6 HE5 hsz34
    go_wp2_with fail
    refine HH6.out.mono ?_
    rintro e w' ⟨rfl, hw'⟩
    subst w'
    go_wp2_with fail
    go_ret
    have q2 := bl_trans3 HB1.out HB2.out HB1.out.size
    have q3 := bl_trans3 q2 HB3.out q2.size
    have q4 := q3.trans (HO4.out.below (by have := HR2.out.2.2; have := HB1.out.size; omega))
    have q5 := bl_trans3 q4 HB5.out q4.size
    exact ⟨rfl, bl_trans3 q5 HB6.out q5.size⟩
  · obtain ⟨f, HA, HB⟩ : ∃ f, Hid (∀ w, Calls Try.prog 18 #[.string a0] w fun e w' => (∃ a c, e = .returned (.tuple #[.slice a 0 c, .bool f])) ∧ Below w.heap.size w w') ∧ Hid (∀ w, Calls Try.prog 19 #[.string a0] w fun e w' => (∃ a c, e = .returned (.tuple #[.slice a 0 c, .bool f])) ∧ Below w.heap.size w w') := by
      by_cases hs : a0.size ≤ 4000
      · have h0 : (choS a0).length = 0 := by
          by_cases c : 0 < (choS a0).length
          · exact absurd ⟨hs, c⟩ hz
          · omega
        refine ⟨true, fun w => (schoices_any a0 w hs).mono ?_, fun w => (choices_any a0 w hs).mono ?_⟩
        · rintro e w' ⟨⟨v, rfl, ho⟩, hb⟩
          rw [h0] at ho
          obtain ⟨a, c, rfl⟩ := own_zero2 ho
          exact ⟨⟨a, c, rfl⟩, hb⟩
        · rintro e w' ⟨⟨v, rfl, ho⟩, hb⟩
          rw [h0] at ho
          obtain ⟨a, c, rfl⟩ := own_zero2 ho
          exact ⟨⟨a, c, rfl⟩, hb⟩
      · refine ⟨false, fun w => (schoices_no a0 w hs).mono ?_, fun w => (choices_no a0 w hs).mono ?_⟩
        · rintro e w' ⟨rfl, rfl⟩
          exact ⟨⟨none, 0, rfl⟩, Below.refl _ _⟩
        · rintro e w' ⟨rfl, rfl⟩
          exact ⟨⟨none, 0, rfl⟩, Below.refl _ _⟩
    clear hz w0
    cases f
    all_goals
      go_enter Try.func5, Try.ntmps5
      go_wp2_with fail
      refine (HA.out _).mono ?_
      rintro e w1 ⟨⟨a1, c1, rfl⟩, hb1⟩
      go_wp2_with fail
      refine (HB.out _).mono ?_
      rintro e w2 ⟨⟨a2, c2, rfl⟩, hb2⟩
      replace hb2 := bl_trans3 hb1 hb2 hb1.size
      clear hb1
      go_wp2_with fail
      refine (eqCS_zero a2 a1 c2 c1 _).mono ?_
      rintro e w' ⟨rfl, hw'⟩
      subst w'
      go_wp2_with fail
      refine (markCS_zero a2 c2 _).mono ?_
      rintro e w' ⟨rfl, hw'⟩
      subst w'
      go_wp2_with fail
      refine (heldCS_zero a2 c2 _).mono ?_
      rintro e w' ⟨rfl, hw'⟩
      subst w'
      go_wp2_with fail
      refine (HB.out _).mono ?_
      rintro e w3 ⟨⟨a3, c3, rfl⟩, hb3⟩
      replace hb3 := bl_trans3 hb2 hb3 hb2.size
      clear hb2
      go_wp2_with fail
      refine (eqCS_zero a3 a1 c3 c1 _).mono ?_
      rintro e w' ⟨rfl, hw'⟩
      subst w'
      go_wp2_with fail
      refine (heldCS_zero a2 c2 _).mono ?_
      rintro e w' ⟨rfl, hw'⟩
      subst w'
      go_wp2_with fail
      go_ret
      exact ⟨rfl, hb3⟩

set_option maxRecDepth 100000 in
theorem lifted (os : Os) (started : os.Started) (H : Type) (enc : TypeId × Value → H) :
    ReturnsInHanded {} Try.checked os 5 .any (Rows.fnExactChoicesSpec.pre6 enc Try.prog Try.f5 Rows.fnExactChoicesRow.domain false) (Rows.fnExactChoicesSpec.post enc Try.prog Try.f5 false true false false) := by
  refine returnsInHanded_of_change (C := Try.checked) own started (by kernel_rfl) Try.func5
    (ChangeSpec.witness6 (enc := enc) (C := Try.checked) false ⟨#[], #[.string ByteArray.empty], []⟩ 8 (by kernel_rfl) (by kernel_rfl) (by kernel_rfl) (by kernel_rfl)) ?_
  intro W base args ds gs before hval0 hW hcnd _
  have hval : ∀ (j : Nat) t v, Try.f5.params[j]? = some t → args[j]? = some v → Value.okWide Try.prog W .any base t v := hval0
  have hW' := hW
  obtain ⟨p, q, hA0, hV, rfl, hfz, hnd⟩ := hW
  have hA : DataW.TrodAll enc Try.prog W 0 (fun _ => true) true Try.f5.params.toList args.toList ds p := hA0
  rw [Try.params5] at hA hval
  obtain ⟨v0, vs0, d0, ds0, p0, q0, hargs, rfl, rfl, h0, r0⟩ := trodAll_cons hA
  obtain ⟨rfl, rfl, rfl⟩ := trodAll_nil r0
  obtain rfl : args = #[v0] := by cases args; simp_all
  obtain ⟨rfl, rfl⟩ := trodVars_none hV
  obtain ⟨a0, rfl, rfl, rfl, w0⟩ := open_string Try.underlying9 (hval 0 9 v0 rfl rfl) h0
  clear hA0 hval0
  simp only [List.append_nil] at hW'
  refine (walk a0 w0 W).mono fun e W' ⟨he, hg⟩ => ?_
  subst he
  exact ⟨_, rfl, post_of_below (pa := []) (pv := []) hW' (fun _ _ _ => (trodAll_cons_mk (shut_bool Try.underlying4 _) trodAll_mk0)) (fun sp _ => (trodAll_cons_mk (shut_string Try.underlying9 w0) trodAll_mk0)) (fun _ _ => rfl) rfl
    hg (ok_one (by kernel_rfl) rfl (okWide_bool_mk Try.underlying4 _))⟩

theorem over : Rows.fnExactChoicesRow.holds Try.pinned (OpenSpec.ofChange Rows.fnExactChoicesSpec) :=
  OpenClaim.holds_of_wide 5 Try.f5 rfl rfl rfl rfl rfl rfl rfl ⟨rfl, rfl, rfl, rfl, rfl⟩ rfl rfl rfl rfl rfl (by kernel_rfl) Try.func5 (by kernel_rfl)
    (of_decide_eq_true (by kernel_rfl)) (by unfold Func.isWrapper; first | (rw [if_pos (by decide +kernel)]; kernel_rfl) | (rw [if_neg (by decide +kernel)]; exact ⟨rfl, rfl⟩))
    (fun os started H enc _ => lifted os started H enc)

theorem proved : Rows.FnExactChoicesSaid :=
  over
#print axioms proved
end Go.Proofs.Ytmckchklebohman.fnExactChoices
