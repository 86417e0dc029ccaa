/-
  Choices that are drawn.
-/
import Derived.Test.YtmckchklebohmacOff
import Derived.Test.YtmckchklebohmacBytes
import Derived.Test.YtmckchklebohmacIntsL
namespace Go.Proofs.Ytmckchklebohmac
open Go.RowKit
set_option linter.unusedVariables false
set_option linter.unusedSimpArgs false
def chCells (L : List (Int × Int)) : List Value := L.flatMap fun c => [.int .i64 c.1, .int .i64 c.2]
theorem chCells_snoc (L : List (Int × Int)) (x b : Int) : chCells (L ++ [(x, b)]) = chCells L ++ [.int .i64 x, .int .i64 b] := by simp [chCells]
theorem chCells_at (L : List (Int × Int)) (i : Nat) (h : i < L.length) : (chCells L)[2 * i]? = some (.int .i64 L[i].1) ∧ (chCells L)[2 * i + 1]? = some (.int .i64 L[i].2) := by
  induction L generalizing i with
  | nil => simp at h
  | cons c L ih =>
    have e : chCells (c :: L) = .int .i64 c.1 :: .int .i64 c.2 :: chCells L := by simp [chCells]
    rw [e]
    cases i with
    | zero => exact ⟨rfl, rfl⟩
    | succ i =>
      have h2 := ih i (by simpa using h)
      have e1 : 2 * (i + 1) = 2 * i + 1 + 1 := by omega
      rw [e1]
      simpa using h2
theorem charg_own {w : World} {B : Nat} {e : TypeId} {v : Value} {L : List (Int × Int)} (h : w.ownsRow B e 2 v L.length (chCells L)) : ChArg w v L.length (fun i => L.getD i (0, 0)) := by
  have h0 := h
  obtain ⟨_, ⟨rfl, hn⟩ | ⟨g, cap, cur, rfl, h2, h3, h4, _⟩⟩ := h
  · exact ⟨none, 0, by rw [hn], fun k => by omega⟩
  · refine ⟨some ⟨g, 0, none⟩, cap, rfl, fun k => ⟨g, rfl, ⟨(Array.getElem?_eq_some_iff.1 h3).1, fun i hi => ?_, fun i hi => ?_⟩⟩⟩
    all_goals
      obtain ⟨c1, c2⟩ := chCells_at L i hi
      have hadd : ∀ t, (⟨g, 0, none⟩ : Addr).add t = ⟨g, t, none⟩ := fun t => by unfold Addr.add; split <;> simp_all
      have e : L.getD i (0, 0) = L[i] := by rw [List.getD_eq_getElem?_getD, List.getElem?_eq_getElem hi]; rfl
      rw [e]
    · have := h0.cells (g := g) rfl _ _ c1
      rwa [hadd] at this
    · have := h0.cells (g := g) rfl _ _ c2
      rwa [hadd] at this
theorem Try.infCh : (Try.prog.info? 53).map (fun i => (i.zero, i.size, i.bytes)) = some (some (.agg #[.int .i64 0, .int .i64 0]), 2, 16) := by kernel_rfl
set_option maxRecDepth 100000 in
set_option maxHeartbeats 4000000 in
theorem choices_any {w0 : World} {a : Option Addr} {len cap g : Nat} {W : World} (hS : Src w0 a len) (h : RD w0 a len cap g W) :
    Calls Try.prog 30 #[.pointer (some ⟨g, 0, none⟩)] W fun e w' => (∃ v n F, e = .returned v ∧ n ≤ 120 ∧ ChArg w' v n F) ∧ Rd3 w0 a len cap g W w' := by
  obtain ⟨i0, hi0, hz0, hz1, hz2⟩ := info_parts Try.infCh
  have HGW : Hid (g < W.heap.size) := h.lt
  have HN : Hid (∀ {v : Value} {k : Nat} {xs : List Value} {w : World}, w.ownsRow W.heap.size 53 2 v k xs → v.ownBlock ≠ some g) := by
    intro v k xs w ho e
    have := (ho.lt g e).1
    have := h.lt
    omega
  have HO0 : Hid ((W.alloc (.cells #[] 53)).ownsRow W.heap.size 53 2 (.slice (some ⟨W.heap.size, 0, none⟩) 0 0) 0 (chCells [])) := World.ownsRow_made W #[] 0 (Nat.le_refl _) (by unfold maxLen; omega) rfl
  have HR0 : Hid (Rd3 w0 a len cap g W (W.alloc (.cells #[] 53))) := (Rd3.refl h).alloc _
  have HW0 : Hid (w0.heap.size ≤ W.heap.size) := h.below.size
  clear h
  go_enter Try.func30, Try.ntmps30
  go_wp2_with fail
  refine (below_any hS HR0.out.rd 4 (by omega) (by omega)).mono ?_
  rintro e w1 ⟨⟨x, hx1, hx2, rfl⟩, hr1⟩
  have HR1 : Hid (Rd3 w0 a len cap g W w1) := HR0.out.trans hr1
  have HO1 : Hid (w1.ownsRow W.heap.size 53 2 (.slice (some ⟨W.heap.size, 0, none⟩) 0 0) 0 (chCells [])) := HO0.out.kept hr1.grown (Or.inr (HN.out HO0.out))
  clear hr1 HR0 HO0
  go_wp2_with fail
  refine (below_any hS HR1.out.rd 120 (by omega) (by omega)).mono ?_
  rintro e w2 ⟨⟨j0, hj1, hj2, rfl⟩, hr2⟩
  have HR2 : Hid (Rd3 w0 a len cap g W w2) := HR1.out.trans hr2
  have HO2 : Hid (w2.ownsRow W.heap.size 53 2 (.slice (some ⟨W.heap.size, 0, none⟩) 0 0) 0 (chCells [])) := HO1.out.kept hr2.grown (Or.inr (HN.out HO1.out))
  clear hr2 HR1 HO1
  obtain ⟨j0, rfl⟩ := Int.eq_ofNat_of_zero_le hj1
  go_wp2_with fail
  go_loopw [3, 5] (fun v0 i wr => ∃ (v : Value) (j : Nat) (L : List (Int × Int)), v = v0 ∧ i = .int .i64 j ∧ L.length + j ≤ 120 ∧ Hid (wr.ownsRow W.heap.size 53 2 v L.length (chCells L)) ∧ Hid (Rd3 w0 a len cap g W wr)) (fun _ i _ => intOfI i)
  case atStart => exact ⟨_, j0, [], rfl, rfl, by simp; omega, HO2, HR2⟩
  case round =>
    clear HO2 HR2
    obtain ⟨v, j, L, hv, rfl, hjL, HO, HR⟩ := hrel
    subst hv
    by_cases hlt : 0 < j
    · have hltI : (0 : Int) < (j : Int) := by omega
      have hjw : IntKind.i64.wrap ((j : Int) - 1) = ((j - 1 : Nat) : Int) := by rw [IntKind.wrap_i64]; omega
      have hjw2 : (j : Int) - 1 = ((j - 1 : Nat) : Int) := by omega
      go_wp2_with fail
      refine (below_any hS HR.out.rd 2 (by omega) (by omega)).mono ?_
      rintro e w2 ⟨⟨b, hb1, hb2, rfl⟩, hr2⟩
      have HR1 : Hid (Rd3 w0 a len cap g W w2) := HR.out.trans hr2
      have HO1 : Hid (w2.ownsRow W.heap.size 53 2 v L.length (chCells L)) := HO.out.kept hr2.grown (Or.inr (HN.out HO.out))
      clear hr2 HR HO
      by_cases h1 : x = 1
      · subst h1
        go_wp2_with fail
        refine (below_any hS HR1.out.rd 9 (by omega) (by omega)).mono ?_
        rintro e w3 ⟨⟨u, hu1, hu2, rfl⟩, hr3⟩
        have HR2 : Hid (Rd3 w0 a len cap g W w3) := HR1.out.trans hr3
        have HO2 : Hid (w3.ownsRow W.heap.size 53 2 v L.length (chCells L)) := HO1.out.kept hr3.grown (Or.inr (HN.out HO1.out))
        obtain ⟨q, hq⟩ : ∃ q, q = u / 8 := ⟨_, rfl⟩
        have hd : Int.tdiv u 8 = q := by rw [Int.tdiv_eq_ediv_of_nonneg (by omega)]; omega
        have hq2 : 0 ≤ q ∧ q ≤ 1 := by omega
        have hwq : IntKind.i64.wrap q = q := by rw [IntKind.wrap_i64]; omega
        have hw1q : IntKind.i64.wrap (1 - q) = 1 - q := by rw [IntKind.wrap_i64]; omega
        clear hr3 HR1 HO1 hq
        go_wp2_with fail
        refine (below_any hS HR2.out.rd 3 (by omega) (by omega)).mono ?_
        rintro e w5 ⟨⟨y, hy1, hy2, rfl⟩, hr5⟩
        have HR5 : Hid (Rd3 w0 a len cap g W w5) := HR2.out.trans hr5
        have HO5 : Hid (w5.ownsRow W.heap.size 53 2 v L.length (chCells L)) := HO2.out.kept hr5.grown (Or.inr (HN.out HO2.out))
        clear hr5 HR2 HO2
        have hsz := HR5.out.grown.size
        go_wp2_with (at_builtin; refine wpList_append_own _ rfl _ _ 24 rfl W.heap.size 53 i0 (.agg #[.int .i64 0, .int .i64 0]) 2 16 Try.underlying24 hi0 hz0 hz1 hz2 rfl (by decide) _ _ _ rfl (HO5.out.alloc _) ⟨w5.heap.size, 0, none⟩ 1 1 [_, _] rfl rfl cell_two ?c2 ?c3 ?c4 ?c5 ?_)
        case c2 => intro u hu; simp at hu; rcases hu with rfl | rfl <;> rfl
        case c3 => unfold maxLen; omega
        case c4 => omega
        case c5 => simp; omega
        intro v' w6 hown' hgrow _
        have hr6 := (HR5.out.alloc (.cells #[.int .i64 y, .int .i64 q] 53)).app hgrow HGW.out (fun k hk => (HO5.out.lt k hk).1)
        have H6 : Hid (w6.ownsRow W.heap.size 53 2 v' (L ++ [(y, q)]).length (chCells (L ++ [(y, q)])) ∧ Rd3 w0 a len cap g W w6) := ⟨by rw [chCells_snoc, List.length_append]; exact hown', hr6⟩
        clear hown' hgrow hr6 HR5 HO5
        go_wp2_with fail
        go_roundw
        case rel => exact ⟨v', j - 1, L ++ [(y, q)], rfl, by go_num, by rw [List.length_append, List.length_singleton]; omega, H6.out.1, H6.out.2⟩
        case measure => simp [intOfI]; omega
      · have hx1b : (x == 1) = false := beq_eq_false_iff_ne.2 h1
        by_cases h2 : x = 2
        · subst h2
          go_wp2_with fail
          refine (below_any hS HR1.out.rd 9 (by omega) (by omega)).mono ?_
          rintro e w3 ⟨⟨u, hu1, hu2, rfl⟩, hr3⟩
          have HR2 : Hid (Rd3 w0 a len cap g W w3) := HR1.out.trans hr3
          have HO2 : Hid (w3.ownsRow W.heap.size 53 2 v L.length (chCells L)) := HO1.out.kept hr3.grown (Or.inr (HN.out HO1.out))
          obtain ⟨q, hq⟩ : ∃ q, q = u / 8 := ⟨_, rfl⟩
          have hd : Int.tdiv u 8 = q := by rw [Int.tdiv_eq_ediv_of_nonneg (by omega)]; omega
          have hq2 : 0 ≤ q ∧ q ≤ 1 := by omega
          have hwq : IntKind.i64.wrap q = q := by rw [IntKind.wrap_i64]; omega
          have hw1q : IntKind.i64.wrap (1 - q) = 1 - q := by rw [IntKind.wrap_i64]; omega
          clear hr3 HR1 HO1 hq
          go_wp2_with fail
          refine (below_any hS HR2.out.rd 3 (by omega) (by omega)).mono ?_
          rintro e w5 ⟨⟨y, hy1, hy2, rfl⟩, hr5⟩
          have HR5 : Hid (Rd3 w0 a len cap g W w5) := HR2.out.trans hr5
          have HO5 : Hid (w5.ownsRow W.heap.size 53 2 v L.length (chCells L)) := HO2.out.kept hr5.grown (Or.inr (HN.out HO2.out))
          clear hr5 HR2 HO2
          have hsz := HR5.out.grown.size
          go_wp2_with (at_builtin; refine wpList_append_own _ rfl _ _ 24 rfl W.heap.size 53 i0 (.agg #[.int .i64 0, .int .i64 0]) 2 16 Try.underlying24 hi0 hz0 hz1 hz2 rfl (by decide) _ _ _ rfl (HO5.out.alloc _) ⟨w5.heap.size, 0, none⟩ 1 1 [_, _] rfl rfl cell_two ?c2 ?c3 ?c4 ?c5 ?_)
          case c2 => intro u hu; simp at hu; rcases hu with rfl | rfl <;> rfl
          case c3 => unfold maxLen; omega
          case c4 => omega
          case c5 => simp; omega
          intro v' w6 hown' hgrow _
          have hr6 := (HR5.out.alloc (.cells #[.int .i64 y, .int .i64 (1 - q)] 53)).app hgrow HGW.out (fun k hk => (HO5.out.lt k hk).1)
          have H6 : Hid (w6.ownsRow W.heap.size 53 2 v' (L ++ [(y, (1 - q))]).length (chCells (L ++ [(y, (1 - q))])) ∧ Rd3 w0 a len cap g W w6) := ⟨by rw [chCells_snoc, List.length_append]; exact hown', hr6⟩
          clear hown' hgrow hr6 HR5 HO5
          go_wp2_with fail
          go_roundw
          case rel => exact ⟨v', j - 1, L ++ [(y, (1 - q))], rfl, by go_num, by rw [List.length_append, List.length_singleton]; omega, H6.out.1, H6.out.2⟩
          case measure => simp [intOfI]; omega
        · have hx2b : (x == 2) = false := beq_eq_false_iff_ne.2 h2
          have HR2 : Hid _ := HR1.out
          have HO2 : Hid (w2.ownsRow W.heap.size 53 2 v L.length (chCells L)) := HO1.out
          clear HR1 HO1
          go_wp2_with fail
          refine (below_any hS HR2.out.rd 3 (by omega) (by omega)).mono ?_
          rintro e w5 ⟨⟨y, hy1, hy2, rfl⟩, hr5⟩
          have HR5 : Hid (Rd3 w0 a len cap g W w5) := HR2.out.trans hr5
          have HO5 : Hid (w5.ownsRow W.heap.size 53 2 v L.length (chCells L)) := HO2.out.kept hr5.grown (Or.inr (HN.out HO2.out))
          clear hr5 HR2 HO2
          have hsz := HR5.out.grown.size
          go_wp2_with (at_builtin; refine wpList_append_own _ rfl _ _ 24 rfl W.heap.size 53 i0 (.agg #[.int .i64 0, .int .i64 0]) 2 16 Try.underlying24 hi0 hz0 hz1 hz2 rfl (by decide) _ _ _ rfl (HO5.out.alloc _) ⟨w5.heap.size, 0, none⟩ 1 1 [_, _] rfl rfl cell_two ?c2 ?c3 ?c4 ?c5 ?_)
          case c2 => intro u hu; simp at hu; rcases hu with rfl | rfl <;> rfl
          case c3 => unfold maxLen; omega
          case c4 => omega
          case c5 => simp; omega
          intro v' w6 hown' hgrow _
          have hr6 := (HR5.out.alloc (.cells #[.int .i64 y, .int .i64 b] 53)).app hgrow HGW.out (fun k hk => (HO5.out.lt k hk).1)
          have H6 : Hid (w6.ownsRow W.heap.size 53 2 v' (L ++ [(y, b)]).length (chCells (L ++ [(y, b)])) ∧ Rd3 w0 a len cap g W w6) := ⟨by rw [chCells_snoc, List.length_append]; exact hown', hr6⟩
          clear hown' hgrow hr6 HR5 HO5
          go_wp2_with fail
          go_roundw
          case rel => exact ⟨v', j - 1, L ++ [(y, b)], rfl, by go_num, by rw [List.length_append, List.length_singleton]; omega, H6.out.1, H6.out.2⟩
          case measure => simp [intOfI]; omega
    · obtain rfl : j = 0 := by omega
      go_wp2_with fail
      refine (once_any hS HR.out.rd 30 (by omega) (by omega)).mono ?_
      rintro e w3 ⟨⟨b, rfl⟩, hr3⟩
      have HR3 : Hid (Rd3 w0 a len cap g W w3) := HR.out.trans hr3
      have HO3 : Hid (w3.ownsRow W.heap.size 53 2 v L.length (chCells L)) := HO.out.kept hr3.grown (Or.inr (HN.out HO.out))
      clear hr3 HR HO
      cases b with
      | false =>
        have HF : Hid (ChArg w3 v L.length (fun i => L.getD i (0, 0))) := charg_own HO3.out
        go_wp2_with fail
        go_ret
        exact ⟨⟨_, _, _, rfl, by omega, HF.out⟩, HR3.out⟩
      | true =>
        by_cases hL : L.length = 0
        · have hL0 : L = [] := List.length_eq_zero_iff.1 hL
          subst hL0
          have HF : Hid (ChArg w3 v 0 (fun i => ([] : List (Int × Int)).getD i (0, 0))) := charg_own HO3.out
          obtain ⟨a1, c1, hv1, _⟩ := HF.out
          subst hv1
          go_wp2_with fail
          go_ret
          exact ⟨⟨_, _, _, rfl, by omega, HF.out⟩, HR3.out⟩
        · obtain ⟨gr, cap3, hv3, hgB⟩ : ∃ gr cap3, v = .slice (some ⟨gr, 0, none⟩) L.length cap3 ∧ W.heap.size ≤ gr := by
            obtain ⟨_, ⟨_, h0⟩ | ⟨g1, c1, cur, h1, h2, _⟩⟩ := HO3.out
            · exact absurd h0 hL
            · exact ⟨g1, c1, h1, h2⟩
          subst hv3
          have hLI : (0 : Int) < (L.length : Int) := by omega
          go_wp2_with fail
          refine (off_any hS HR3.out.rd 0 511 (by omega) (by omega) (by omega)).mono ?_
          rintro e w4 ⟨⟨z, hz1, hz2, rfl⟩, hr4⟩
          have HR4 : Hid (Rd3 w0 a len cap g W w4) := HR3.out.trans hr4
          have HO4 : Hid (w4.ownsRow W.heap.size 53 2 (.slice (some ⟨gr, 0, none⟩) L.length cap3) L.length (chCells L)) := HO3.out.kept hr4.grown (Or.inr (HN.out HO3.out))
          clear hr4 HR3 HO3
          obtain ⟨cur, hcur⟩ : ∃ cur, w4.heap[gr]? = some (.cells cur 53 (0, 0)) := by
            obtain ⟨_, ⟨h0, _⟩ | ⟨g1, c1, cur, h1, h2, h3, _⟩⟩ := HO4.out
            · cases h0
            · cases h1; exact ⟨cur, h3⟩
          obtain ⟨a1, c1, e1, hrow⟩ := charg_own HO4.out
          cases e1
          obtain ⟨g1, e2, hrow⟩ := hrow (by omega)
          cases e2
          have x0 := hrow.x 0 (by omega)
          have z0 := frozen_of_row w4 gr 0 _ _ hcur
          generalize L.getD 0 (0, 0) = c0 at x0
          have HF : Hid (ChArg (w4.setCell ⟨gr, 0, none⟩ (.int .i64 z)) (.slice (some ⟨gr, 0, none⟩) L.length cap3) L.length (fun i => if i = 0 then (z, (L.getD i (0, 0)).2) else L.getD i (0, 0)) ∧ Rd3 w0 a len cap g W (w4.setCell ⟨gr, 0, none⟩ (.int .i64 z))) := by
            have hgg : gr ≠ g := by have := HGW.out; omega
            refine ⟨⟨_, _, rfl, fun _ => ⟨gr, rfl, ⟨by simpa using hrow.lt, fun i hi => ?_, fun i hi => ?_⟩⟩⟩, ?_⟩
            · by_cases e : i = 0
              · subst e
                simp only [if_true]
                exact World.cell?_setCell_same _ _ _ x0
              · simp only [if_neg e]
                rw [World.cell?_setCell_other _ _ _ _ (by intro c; injection c with c1 c2; omega)]
                exact hrow.x i hi
            · rw [World.cell?_setCell_other _ _ _ _ (by intro c; injection c with c1 c2; omega)]
              have := hrow.b i hi
              rw [this]
              by_cases e : i = 0
              · subst e; simp
              · simp only [if_neg e]
            · obtain ⟨⟨h1, h2, p, h3, h4⟩, hg1⟩ := HR4.out
              refine ⟨⟨h1.setCell (p := ⟨gr, 0, none⟩) (by show w0.heap.size ≤ gr; have := HW0.out; omega) _, h2, p, h3, ?_⟩, ⟨hg1.os, hg1.tape, hg1.output, by simpa using hg1.size, fun k hk hne => ?_⟩⟩
              · rw [heap_setCell_other _ _ _ _ (by show g ≠ gr; exact fun e => hgg e.symm)]; exact h4
              · rw [heap_setCell_other _ _ _ _ (by show k ≠ gr; omega)]; exact hg1.block k hk hne
          clear hrow hcur
          go_wp2_with fail
          go_ret
          exact ⟨⟨_, _, _, rfl, by omega, HF.out.1⟩, HF.out.2⟩
end Go.Proofs.Ytmckchklebohmac
