/-
  The choices of a text: the specification's.
-/
import Derived.Test.YtmckchklebohmanChoS
import Derived.Test.YtmckchklebohmanChoM
namespace Go.Proofs.Ytmckchklebohman
open Go.RowKit
set_option linter.unusedVariables false
set_option linter.unusedSimpArgs false
theorem bl3c {B C : Nat} {a b c : World} (h : Below B a b) (k : Below C b c) (hBC : B ≤ C) : Below B a c := ⟨k.os.trans h.os, k.tape.trans h.tape, k.output.trans h.output, Nat.le_trans h.size k.size, fun i hi => (k.block i (Nat.lt_of_lt_of_le hi hBC)).trans (h.block i hi)⟩
set_option maxRecDepth 100000 in
set_option maxHeartbeats 600000 in
theorem schoices_any (s : ByteArray) (w : World) (hs : s.size ≤ 4000) :
    Calls Try.prog 18 #[.string s] w fun e w' => (∃ v, e = .returned (.tuple #[v, .bool true]) ∧ w'.ownsRow w.heap.size 61 2 v (choS s).length (cC (choS s))) ∧ Below w.heap.size w w' := by
  obtain ⟨i0, hi0, hz0, hz1, hz2⟩ := info_parts Try.infChc
  have HT : Hid (∀ w, Calls Try.prog 9 #[.string s] w fun e w' => (∃ v, e = .returned (.tuple #[v, .bool true]) ∧ w'.ownsRow w.heap.size 49 4 v (tkL s).length (tkC (tkL s))) ∧ Below w.heap.size w w') := fun w => stokens_any s w hs
  have HTR : Hid (∀ (B gv cap : Nat) (L : List (Nat × Nat)) (f nb n : Nat) (fI nbI : Int) (A : List (Nat × Nat)) (w : World), fI = (f : Int) → nbI = (nb : Int) → A = L ++ treeL f n nb 1 → f ≤ 1000 → nb ≤ 8 → n < 1000000 → L.length ≤ 100000 → w.ownsRow B 61 2 (.slice (some ⟨gv, 0, none⟩) L.length cap) L.length (cC L) → B ≤ w.heap.size → Calls Try.prog 38 #[.slice (some ⟨gv, 0, none⟩) L.length cap, .int .i64 fI, .int .i64 nbI, .int .i64 (n : Int)] w fun e w' => (∃ g' c', e = .returned (.slice (some ⟨g', 0, none⟩) A.length c') ∧ w'.ownsRow B 61 2 (.slice (some ⟨g', 0, none⟩) A.length c') A.length (cC A) ∧ (g' = gv ∨ w.heap.size ≤ g')) ∧ w.grownBy w' (some gv)) :=
    fun B gv cap L f nb n fI nbI A w e1 e2 e3 h1 h2 h3 h4 h5 h6 => by subst e1; subst e2; subst e3; exact stree_any B gv cap L f nb n w h1 h2 h3 h4 h5 h6
  have HOK : Hid (∀ i, i < (tkL s).length → TkOk (tkG s i)) := fun i h => tkG_ok hs i h
  have HLN : Hid ((tkL s).length ≤ 4000) := by have := (tkL_shape s).2.2; show _ ≤ _; omega
  have HUS : Hid (∀ i, (choUp (tkG s) (i + 1)) = ((choUp (tkG s) i).1 ++ tokCh (choUp (tkG s) i).2 (tkG s i), (tkG s i).k)) := fun i => rfl
  have HUL : Hid (∀ i, (choUp (tkG s) i).1.length ≤ 19 * i) := fun i => choUp_len _ i
  have HU0 : Hid (choUp (tkG s) 0 = ([], 0)) := rfl
  have HFG : Hid (∀ i, tkF s i = tkI (tkG s i)) := fun i => tkF_G s i
  have HAR : Hid (∀ w B v, w.ownsRow B 49 4 v (tkL s).length (tkC (tkL s)) → TkArg w v (tkL s).length (tkF s)) := fun w B v h => own_arg h
  unfold choS
  generalize (tkL s).length = N at *
  generalize tkC (tkL s) = xs at *
  generalize tkF s = FI at *
  generalize hU : choUp (tkG s) = U at *
  clear hU
  generalize tkG s = G at *
  go_enter Try.func18, Try.ntmps18
  go_wp2_with fail
  refine (HT.out _).mono ?_
  rintro e w1 ⟨⟨tv, rfl, ho⟩, hb1⟩
  have HTA : Hid (TkArg w1 tv N FI) := HAR.out _ _ _ ho
  have HB1 : Hid (Below w.heap.size w w1) := hb1
  obtain ⟨B, hB⟩ : ∃ B, B = w1.heap.size := ⟨_, rfl⟩
  have HBE : Hid (B = w1.heap.size) := hB
  obtain ⟨ta, tc, rfl, _⟩ := HTA.out
  have HO0 : Hid ((w1.alloc (.cells #[] 61)).ownsRow B 61 2 (.slice (some ⟨w1.heap.size, 0, none⟩) 0 0) 0 (cC [])) := World.ownsRow_made w1 #[] 0 (by omega) (by unfold maxLen; omega) rfl
  clear ho hb1 HT HAR
  go_wp2_with fail
  go_loopw [6, 7, 8] (fun x la ix wr => ∃ (gu cu i : Nat), x = .slice (some ⟨gu, 0, none⟩) (U i).1.length cu ∧ la = .int .i64 ((U i).2 : Int) ∧ ix = .int .i64 (i : Int) ∧ i ≤ N ∧ Hid (wr.ownsRow B 61 2 (.slice (some ⟨gu, 0, none⟩) (U i).1.length cu) (U i).1.length (cC (U i).1)) ∧ Hid (Below B w1 wr)) (fun _ _ ix _ => N - (cIntOf ix).toNat)
  case atStart => exact ⟨w1.heap.size, 0, 0, by rw [HU0.out]; rfl, by rw [HU0.out]; rfl, rfl, Nat.zero_le _, by rw [HU0.out]; exact HO0, by rw [hB]; exact (Below.refl _ w1).alloc (Nat.le_refl _) _⟩
  case round =>
    clear HO0 hB
    obtain ⟨gu, cu, i, rfl, rfl, rfl, hi, HO, HB⟩ := hrel
    have hN4 := HLN.out
    by_cases hlt : i < N
    · have hltI : (i : Int) < (N : Int) := by omega
      have hbw : Below w1.heap.size w1 wr := by have := HB.out; rw [HBE.out] at this; exact this
      obtain ⟨a', c', e1, hr⟩ := HTA.out.below hbw
      cases e1
      obtain ⟨g, rfl, hrow⟩ := hr (by omega)
      obtain ⟨q, hq⟩ : ∃ q, q = 4 * i := ⟨_, rfl⟩
      have hiq : i * 4 = q := by omega
      have x0 := hrow.c0 i hlt
      have x1 := hrow.c1 i hlt
      have x2 := hrow.c2 i hlt
      have x3 := hrow.c3 i hlt
      rw [← hq, HFG.out i] at x0 x1 x2 x3
      have hok := HOK.out i hlt
      have hul := HUL.out i
      have HUN := HUS.out i
      have HUNX : Hid _ := HUN
      clear hbw hrow hq hr HUN
      generalize G i = t at x0 x1 x2 x3 hok HUNX
      obtain ⟨tk, tb, td, tl⟩ := t
      simp only [tkI] at x0 x1 x2 x3
      obtain ⟨la, hla⟩ : ∃ la, la = (U i).2 := ⟨_, rfl⟩
      obtain ⟨M, hM⟩ : ∃ M, M = (U i).1 := ⟨_, rfl⟩
      rw [← hla, ← hM] at HUNX
      rw [← hla, ← hM]
      rw [← hM] at HO hul
      clear hla hM
      have HSN : Hid (cC (M ++ [(la, tk)]) = cC M ++ [.int .i64 (la : Int), .int .i64 (tk : Int)]) := cC_snoc _ _ _
      have hBl : B ≤ wr.heap.size := by have := HB.out.size; have := HBE.out; omega
      obtain ⟨bx, hbx⟩ : ∃ bx, bx = wr.heap.size := ⟨_, rfl⟩
      have HO1 : Hid ((wr.alloc (.cells #[.int .i64 (tk : Int), .int .i64 (tb : Int), .int .i64 (td : Int), .int .i64 (tl : Int)] 49)).ownsRow B 61 2 (.slice (some ⟨gu, 0, none⟩) M.length cu) M.length (cC M)) := HO.out.alloc _
      have HBB1 : Hid (Below B w1 (wr.alloc (.cells #[.int .i64 (tk : Int), .int .i64 (tb : Int), .int .i64 (td : Int), .int .i64 (tl : Int)] 49)) ∧ B ≤ (wr.alloc (.cells #[.int .i64 (tk : Int), .int .i64 (tb : Int), .int .i64 (td : Int), .int .i64 (tl : Int)] 49)).heap.size ∧ gu ≠ bx ∧ bx < (wr.alloc (.cells #[.int .i64 (tk : Int), .int .i64 (tb : Int), .int .i64 (td : Int), .int .i64 (tl : Int)] 49)).heap.size ∧ gu < bx) := by
        have hl := (HO.out.lt gu rfl).2
        refine ⟨HB.out.alloc hBl _, by simp; omega, by omega, by rw [hbx]; simp, by omega⟩
      have HBX1 : Hid ((wr.alloc (.cells #[.int .i64 (tk : Int), .int .i64 (tb : Int), .int .i64 (td : Int), .int .i64 (tl : Int)] 49)).heap[bx]? = some (.cells #[.int .i64 (tk : Int), .int .i64 (tb : Int), .int .i64 (td : Int), .int .i64 (tl : Int)] 49 (0, 0))) := by rw [hbx]; exact heap_alloc_new _ _
      have k0 : (wr.alloc (.cells #[.int .i64 (tk : Int), .int .i64 (tb : Int), .int .i64 (td : Int), .int .i64 (tl : Int)] 49)).cell? ⟨wr.heap.size, 0, none⟩ = some (.int .i64 (tk : Int)) := cell_of_row _ _ _ _ _ _ (heap_alloc_new _ _)
      have HBXE : Hid (wr.heap.size = bx) := hbx.symm
      have hN2 : ∀ (x y : Value) (j : Nat) (u : Value), [x, y][j]? = some u → ((wr.alloc (.cells #[.int .i64 (tk : Int), .int .i64 (tb : Int), .int .i64 (td : Int), .int .i64 (tl : Int)] 49)).alloc (.cells #[x, y] 61)).cell? ((⟨wr.heap.size + 1, 0, none⟩ : Addr).add j) = some u := fun x y j u hj => by
        have h := cell_two (w := (wr.alloc (.cells #[.int .i64 (tk : Int), .int .i64 (tb : Int), .int .i64 (td : Int), .int .i64 (tl : Int)] 49))) (t := 61) j u hj
        simpa using h
      clear HO HB hbx
      go_wp2_with (at_builtin; refine wpList_append_fr _ rfl _ _ 34 rfl B 61 i0 (.agg #[.int .i64 0, .int .i64 0]) 2 16 Try.underlying34 hi0 hz0 hz1 hz2 rfl (by decide) gu cu M.length _ rfl (HO1.out.alloc _) ⟨wr.heap.size + 1, 0, none⟩ 1 1 [_, _] rfl rfl (hN2 _ _) ?c2 ?c3 ?c4 ?c5 ?_)
      case c2 => first | exact ⟨rfl, rfl⟩ | (intro u hu; simp at hu; rcases hu with rfl | rfl <;> rfl)
      case c3 => unfold maxLen; omega
      case c4 => omega
      case c5 => first | omega | (simp; omega)
      intro g3 c3 w3 hown' hgrow hg3
      obtain ⟨M3, hM3⟩ : ∃ X, X = M ++ [(la, tk)] := ⟨_, rfl⟩
      have HM3 : Hid (M3 = M ++ [(la, tk)]) := hM3
      have HL3 : Hid (M3.length = M.length + 1) := by show _ = _; rw [hM3]; simp
      have HO3 : Hid (w3.ownsRow B 61 2 (.slice (some ⟨g3, 0, none⟩) M3.length c3) M3.length (cC M3)) := by rw [hM3, HSN.out, List.length_append]; exact hown'
      have HB3 : Hid (Below B w1 w3 ∧ B ≤ w3.heap.size ∧ g3 ≠ bx ∧ bx < w3.heap.size) := by
        have hs := hgrow.size
        have h1 := HBB1.out.2.1
        have h2 := HBB1.out.2.2.1
        have h3 := HBB1.out.2.2.2.1
        have h4 := HO1.out.lt gu rfl
        simp only [World.size_alloc] at hs h1 h3
        refine ⟨(HBB1.out.1.alloc (by simp; omega) _).grown hgrow (by simp; omega) (fun k hk => by have := Option.some.inj hk; omega), by omega, ?_, by omega⟩
        rcases hg3 with h | h
        · omega
        · have h' : wr.heap.size + 1 + 1 ≤ g3 := by simpa using h
          omega
      have HBX3 : Hid (w3.heap[bx]? = some (.cells #[.int .i64 (tk : Int), .int .i64 (tb : Int), .int .i64 (td : Int), .int .i64 (tl : Int)] 49 (0, 0))) := (hgrow.block bx (by have := HBB1.out.2.2.2.1; simp only [World.size_alloc] at this ⊢; omega) (by intro e; exact HBB1.out.2.2.1 (Option.some.inj e).symm)).trans ((Below.heap_alloc _ _ _ HBB1.out.2.2.2.1).trans HBX1.out)
      rw [← HL3.out]
      have hl3 : M3.length ≤ 19 * i + 1 := by have := HL3.out; omega
      clear hM3 hown' hgrow hg3 HO1 HBB1 HBX1 k0 hN2 x0 x1 x2 x3 HSN
      rw [HBXE.out]
      obtain ⟨BR, hBR⟩ : ∃ BR : Array Value, BR = #[.int .i64 (tk : Int), .int .i64 (tb : Int), .int .i64 (td : Int), .int .i64 (tl : Int)] := ⟨_, rfl⟩
      have HBR : Hid (BR[2]? = some (.int .i64 (td : Int))) := by show _ = _; rw [hBR]; rfl
      have m0 : w3.cell? ⟨bx, 0, none⟩ = some (.int .i64 (tk : Int)) := cell_of_row _ _ _ _ _ _ HBX3.out
      have m1 : w3.cell? ⟨bx, 1, none⟩ = some (.int .i64 (tb : Int)) := cell_of_row _ _ _ _ _ _ HBX3.out
      have m3 : w3.cell? ⟨bx, 3, none⟩ = some (.int .i64 (tl : Int)) := cell_of_row _ _ _ _ _ _ HBX3.out
      rw [← hBR] at HBX3
      clear hBR
      rcases hok with ⟨h1, h2⟩ | ⟨h1, h2, h3, h4, h5⟩
      · simp only at h1 h2
        subst h1
        clear HBXE
        go_wp2_with fail
        obtain ⟨M4, hE4⟩ : ∃ X, X = M3 ++ treeL 1 tb 8 1 := ⟨_, rfl⟩
        have HE4 : Hid (M4 = M3 ++ treeL 1 tb 8 1) := hE4
        have hL4 : M4.length = M3.length + 8 := by rw [hE4, List.length_append, treeL_len]
        clear hE4
        refine (HTR.out B g3 c3 (M3) 1 8 (tb) 1 8 M4 w3 rfl rfl HE4.out (by omega) (by omega) (by omega) (by omega) HO3.out HB3.out.2.1).mono ?_
        rintro e w4 ⟨⟨g4, c4, rfl, ho4, hg4⟩, hgr4⟩
        have HO4 : Hid (w4.ownsRow B 61 2 (.slice (some ⟨g4, 0, none⟩) (M4).length c4) (M4).length (cC (M4))) := ho4
        have HB4 : Hid (Below B w1 w4 ∧ B ≤ w4.heap.size ∧ g4 ≠ bx ∧ bx < w4.heap.size) := by
          have hs := hgr4.size
          have h1 := HB3.out.2.1
          have h2 := HB3.out.2.2.1
          have h3 := HB3.out.2.2.2
          have h4 := HO3.out.lt g3 rfl
          exact ⟨HB3.out.1.grown hgr4 h1 (fun k hk => by have := Option.some.inj hk; omega), by omega, by rcases hg4 with h | h <;> omega, by omega⟩
        have HBX4 : Hid (w4.heap[bx]? = some (.cells BR 49 (0, 0))) := (hgr4.block bx HB3.out.2.2.2 (by intro e; exact HB3.out.2.2.1 (Option.some.inj e).symm)).trans HBX3.out
        have HL4 : Hid (M4.length = M3.length + 8) := hL4
        clear ho4 hg4 hgr4 HO3 HB3 HBX3 hL4
        have HU : Hid (U (i + 1) = (M4, 0)) := by show _ = _; rw [HUNX.out, HE4.out, HM3.out]; simp [tokCh]
        go_wp2_with fail
        go_roundw
        case rel => exact ⟨g4, c4, i + 1, by rw [HU.out], by rw [HU.out]; rfl, by go_num, by omega, by rw [HU.out]; exact HO4, HB4.out.1⟩
        case measure => simp [cIntOf]; omega
      · simp only at h1 h2 h3 h4 h5
        subst h1
        clear HBXE
        obtain ⟨lv, hlv⟩ : ∃ lv, lv = tl - 3 := ⟨_, rfl⟩
        have e1 : (tl : Int) - 3 = (lv : Int) := by omega
        have e1w : IntKind.i64.wrap ((tl : Int) - 3) = (lv : Int) := by rw [IntKind.wrap_i64]; omega
        obtain ⟨dv, hdv⟩ : ∃ dv, dv = td - 1 := ⟨_, rfl⟩
        have e2 : (td : Int) - 1 = (dv : Int) := by omega
        have e2w : IntKind.i64.wrap ((td : Int) - 1) = (dv : Int) := by rw [IntKind.wrap_i64]; omega
        obtain ⟨fv, hfv⟩ : ∃ fv, fv = dv / 64 := ⟨_, rfl⟩
        obtain ⟨nv, hnv⟩ : ∃ nv, nv = dv % 64 := ⟨_, rfl⟩
        have e3 : Int.tdiv (dv : Int) 64 = (fv : Int) := by rw [Int.tdiv_eq_ediv_of_nonneg (by omega)]; omega
        have e3w : IntKind.i64.wrap (fv : Int) = (fv : Int) := by rw [IntKind.wrap_i64]; omega
        have e4 : Int.tmod (dv : Int) 64 = (nv : Int) := by rw [Int.tmod_eq_emod_of_nonneg (by omega)]; omega
        have hlv2 : lv < 64 := by omega
        have hfv2 : fv < 64 := by omega
        have hnv2 : nv < 64 := by omega
        have HU : Hid (U (i + 1) = (M3 ++ treeL 260 lv 6 1 ++ treeL 330 fv 6 1 ++ treeL 400 nv 6 1, 1)) := by show _ = _; rw [HUNX.out, HM3.out]; simp [tokCh, hlv, hfv, hnv, hdv]
        clear hlv hdv hfv hnv HUNX
        go_wp2_with fail
        obtain ⟨M4, hE4⟩ : ∃ X, X = M3 ++ treeL 260 lv 6 1 := ⟨_, rfl⟩
        have HE4 : Hid (M4 = M3 ++ treeL 260 lv 6 1) := hE4
        have hL4 : M4.length = M3.length + 6 := by rw [hE4, List.length_append, treeL_len]
        clear hE4
        refine (HTR.out B g3 c3 (M3) 260 6 (lv) 260 6 M4 w3 rfl rfl HE4.out (by omega) (by omega) (by omega) (by omega) HO3.out HB3.out.2.1).mono ?_
        rintro e w4 ⟨⟨g4, c4, rfl, ho4, hg4⟩, hgr4⟩
        have HO4 : Hid (w4.ownsRow B 61 2 (.slice (some ⟨g4, 0, none⟩) (M4).length c4) (M4).length (cC (M4))) := ho4
        have HB4 : Hid (Below B w1 w4 ∧ B ≤ w4.heap.size ∧ g4 ≠ bx ∧ bx < w4.heap.size) := by
          have hs := hgr4.size
          have h1 := HB3.out.2.1
          have h2 := HB3.out.2.2.1
          have h3 := HB3.out.2.2.2
          have h4 := HO3.out.lt g3 rfl
          exact ⟨HB3.out.1.grown hgr4 h1 (fun k hk => by have := Option.some.inj hk; omega), by omega, by rcases hg4 with h | h <;> omega, by omega⟩
        have HBX4 : Hid (w4.heap[bx]? = some (.cells BR 49 (0, 0))) := (hgr4.block bx HB3.out.2.2.2 (by intro e; exact HB3.out.2.2.1 (Option.some.inj e).symm)).trans HBX3.out
        have HL4 : Hid (M4.length = M3.length + 6) := hL4
        clear ho4 hg4 hgr4 HO3 HB3 HBX3 hL4
        have hl4 : M4.length ≤ 19 * i + 7 := by have := HL4.out; omega
        have m2 : w4.cell? ⟨bx, 2, none⟩ = some (.int .i64 (td : Int)) := (cell_of_row _ _ _ _ _ _ HBX4.out).trans HBR.out
        go_wp2_with fail
        obtain ⟨M5, hE5⟩ : ∃ X, X = M4 ++ treeL 330 fv 6 1 := ⟨_, rfl⟩
        have HE5 : Hid (M5 = M4 ++ treeL 330 fv 6 1) := hE5
        have hL5 : M5.length = M4.length + 6 := by rw [hE5, List.length_append, treeL_len]
        clear hE5
        refine (HTR.out B g4 c4 (M4) 330 6 (fv) 330 6 M5 w4 rfl rfl HE5.out (by omega) (by omega) (by omega) (by omega) HO4.out HB4.out.2.1).mono ?_
        rintro e w5 ⟨⟨g5, c5, rfl, ho5, hg5⟩, hgr5⟩
        have HO5 : Hid (w5.ownsRow B 61 2 (.slice (some ⟨g5, 0, none⟩) (M5).length c5) (M5).length (cC (M5))) := ho5
        have HB5 : Hid (Below B w1 w5 ∧ B ≤ w5.heap.size ∧ g5 ≠ bx ∧ bx < w5.heap.size) := by
          have hs := hgr5.size
          have h1 := HB4.out.2.1
          have h2 := HB4.out.2.2.1
          have h3 := HB4.out.2.2.2
          have h4 := HO4.out.lt g4 rfl
          exact ⟨HB4.out.1.grown hgr5 h1 (fun k hk => by have := Option.some.inj hk; omega), by omega, by rcases hg5 with h | h <;> omega, by omega⟩
        have HBX5 : Hid (w5.heap[bx]? = some (.cells BR 49 (0, 0))) := (hgr5.block bx HB4.out.2.2.2 (by intro e; exact HB4.out.2.2.1 (Option.some.inj e).symm)).trans HBX4.out
        have HL5 : Hid (M5.length = M4.length + 6) := hL5
        clear ho5 hg5 hgr5 HO4 HB4 HBX4 hL5
        have hl5 : M5.length ≤ 19 * i + 13 := by have := HL5.out; omega
        have m2 : w5.cell? ⟨bx, 2, none⟩ = some (.int .i64 (td : Int)) := (cell_of_row _ _ _ _ _ _ HBX5.out).trans HBR.out
        go_wp2_with fail
        obtain ⟨M6, hE6⟩ : ∃ X, X = M5 ++ treeL 400 nv 6 1 := ⟨_, rfl⟩
        have HE6 : Hid (M6 = M5 ++ treeL 400 nv 6 1) := hE6
        have hL6 : M6.length = M5.length + 6 := by rw [hE6, List.length_append, treeL_len]
        clear hE6
        refine (HTR.out B g5 c5 (M5) 400 6 (nv) 400 6 M6 w5 rfl rfl HE6.out (by omega) (by omega) (by omega) (by omega) HO5.out HB5.out.2.1).mono ?_
        rintro e w6 ⟨⟨g6, c6, rfl, ho6, hg6⟩, hgr6⟩
        have HO6 : Hid (w6.ownsRow B 61 2 (.slice (some ⟨g6, 0, none⟩) (M6).length c6) (M6).length (cC (M6))) := ho6
        have HB6 : Hid (Below B w1 w6 ∧ B ≤ w6.heap.size ∧ g6 ≠ bx ∧ bx < w6.heap.size) := by
          have hs := hgr6.size
          have h1 := HB5.out.2.1
          have h2 := HB5.out.2.2.1
          have h3 := HB5.out.2.2.2
          have h4 := HO5.out.lt g5 rfl
          exact ⟨HB5.out.1.grown hgr6 h1 (fun k hk => by have := Option.some.inj hk; omega), by omega, by rcases hg6 with h | h <;> omega, by omega⟩
        have HBX6 : Hid (w6.heap[bx]? = some (.cells BR 49 (0, 0))) := (hgr6.block bx HB5.out.2.2.2 (by intro e; exact HB5.out.2.2.1 (Option.some.inj e).symm)).trans HBX5.out
        have HL6 : Hid (M6.length = M5.length + 6) := hL6
        clear ho6 hg6 hgr6 HO5 HB5 HBX5 hL6
        have HU6 : Hid (U (i + 1) = (M6, 1)) := by show _ = _; rw [HU.out, HE6.out, HE5.out, HE4.out]
        go_wp2_with fail
        go_roundw
        case rel => exact ⟨g6, c6, i + 1, by rw [HU6.out], by rw [HU6.out]; rfl, by go_num, by omega, by rw [HU6.out]; exact HO6, HB6.out.1⟩
        case measure => simp [cIntOf]; omega
    · obtain rfl : i = N := by omega
      have HF : Hid (wr.ownsRow w.heap.size 61 2 (.slice (some ⟨gu, 0, none⟩) (U i).1.length cu) (U i).1.length (cC (U i).1) ∧ Below w.heap.size w wr) := by
        have h1 := HB1.out
        have h2 := HBE.out
        exact ⟨owns_lower HO.out (by have := h1.size; omega), bl3c h1 HB.out (by have := h1.size; omega)⟩
      clear HO HB
      go_wp2_with fail
      go_ret2
      exact ⟨⟨_, rfl, HF.out.1⟩, HF.out.2⟩
end Go.Proofs.Ytmckchklebohman
