/-
  Changed: the code's.
-/
import Derived.Test.YtbmcjoaigajjkaaDoorChgM
import Derived.Test.YtbmcjoaigajjkaaDoorTrFi
import Derived.Test.YtbmcjoaigajjkaaDoorNdNe
import Derived.Test.YtbmcjoaigajjkaaDoorToStO
namespace Go.Proofs.YtbmcjoaigajjkaaDoor
open Go.RowKit
set_option linter.unusedVariables false
set_option linter.unusedSimpArgs false
open Classical in
noncomputable def chL (F : Nat → NdI) (n : Nat) (G : Nat → NdI) (m : Nat) : List ByteArray := if ndR F n ∧ ndR G m then srt (gAB F n G m) else []
theorem chL_no {F G : Nat → NdI} {n m : Nat} (h : ¬ (ndR F n ∧ ndR G m)) : chL F n G m = [] := by unfold chL; rw [if_neg h]
theorem chL_yes {F G : Nat → NdI} {n m : Nat} (h : ndR F n ∧ ndR G m) : chL F n G m = srt (gAB F n G m) := by unfold chL; rw [if_pos h]
theorem chL_len (F G : Nat → NdI) (n m : Nat) : (chL F n G m).length ≤ 80 := by
  by_cases h : ndR F n ∧ ndR G m
  · rw [chL_yes h, (srt_perm _).length_eq]
    unfold gAB
    rw [List.length_append]
    have h1 := gA_len F G m n
    have h2 := gB_len F G n m
    have h3 := h.1.1
    have h4 := h.2.1
    omega
  · rw [chL_no h]; exact Nat.zero_le _
theorem own_baseK {w : World} {B C z : Nat} {e : TypeId} {v : Value} {n : Nat} {xs : List Value} (h : w.ownsRow B e z v n xs) (hC : C ≤ B) : w.ownsRow C e z v n xs := by
  obtain ⟨h0, h1 | ⟨g, cap, cur, h1, h2, h3⟩⟩ := h
  · exact ⟨h0, Or.inl h1⟩
  · exact ⟨h0, Or.inr ⟨g, cap, cur, h1, Nat.le_trans hC h2, h3⟩⟩
theorem stC_snoc (L : List ByteArray) (s : ByteArray) : stC L ++ [.string s] = stC (L ++ [s]) := by simp [stC]
theorem stC_len (L : List ByteArray) : (stC L).length = L.length := by simp [stC]
theorem Tryd.infSt : (Tryd.prog.info? 9).map (fun i => (i.zero, i.size, i.bytes)) = some (some (.string ⟨#[]⟩), 1, 16) := by kernel_rfl
theorem cell_one_at {W : World} {x : Value} {t : TypeId} {k : Nat} (hk : W.heap.size = k) : ∀ j u, [x][j]? = some u → (W.alloc (.cells #[x] t)).cell? ((⟨k, 0, none⟩ : Addr).add j) = some u := cellPt hk
theorem oneSt {x : ByteArray} : ∀ u ∈ [Value.string x], u.oneCell' = true := by
  intro u hu
  rw [List.mem_singleton] at hu
  subst hu
  rfl
theorem bChg {B C : Nat} {a b c : World} (h : Below B a b) (k : Below C b c) (hBC : B ≤ C) : Below B a c := blNd h k hBC
/-- memory in a round: the paths so far in a row of their own, all else as it was -/
structure ChW (w2 wr : World) (v : Value) (L : List ByteArray) : Prop where
  own : wr.ownsRow w2.heap.size 9 1 v L.length (stC L)
  bel : Below w2.heap.size w2 wr
theorem ChW.call {w2 wr w' : World} {v : Value} {L : List ByteArray} (h : ChW w2 wr v L) (hb : Below wr.heap.size wr w') : ChW w2 w' v L := ⟨own_callK h.own hb, blNd h.bel hb h.bel.size⟩

set_option maxRecDepth 100000 in
set_option maxHeartbeats 8000000 in
theorem chg_go (a b : Option Addr) (c d n m : Nat) (F G : Nat → NdI) (w : World) (hm : MxL w) (hF : NdLe F n) (hG : NdLe G m) (ha : NdArg w (.slice a n c) n F) (hb : NdArg w (.slice b m d) m G)
    (HSORT : ∀ (v : Value) (L : List ByteArray) (B : Nat) (w : World), L.length ≤ 80 → w.ownsRow B 9 1 v L.length (stC L) → Calls Tryd.prog 26 #[v] w fun e w' => e = .returned (.tuple #[]) ∧ w'.ownsRow B 9 1 v L.length (stC (srt L)) ∧ (∀ B0 w0, B0 ≤ B → Below B0 w0 w → Below B0 w0 w')) :
    Calls Tryd.prog 7 #[.slice a n c, .slice b m d] w fun e w' => (∃ v, e = .returned v ∧ w'.ownsRow w.heap.size 9 1 v (chL F n G m).length (stC (chL F n G m))) ∧ Below w.heap.size w w' := by
  have HSO := hidT HSORT
  have HMX : Hid (∀ w', Below w.heap.size w w' → MxL w') := fun w' h => hm.on h
  have HA : Hid (∀ w', Below w.heap.size w w' → NdArg w' (.slice a n c) n F) := fun w' h => ha.below h
  have HBB : Hid (∀ w', Below w.heap.size w w' → NdArg w' (.slice b m d) m G) := fun w' h => hb.below h
  have HPA : Hid (Calls Tryd.prog 22 #[.slice a n c] w fun e w' => PlP w F n e w') := planted_any _ n F w hF hm ha
  have HPB : Hid (∀ w', Below w.heap.size w w' → Calls Tryd.prog 22 #[.slice b m d] w' fun e w'' => PlP w' G m e w'') := fun w' h => planted_any _ m G w' hG (hm.on h) (hb.below h)
  have HNM : Hid (∀ (s : ByteArray) w, s.size ≤ 1048576 → MxL w → Calls Tryd.prog 24 #[.string s] w fun e w' => (∃ g c, e = .returned (.slice (some ⟨g, 0, none⟩) (pcsB s).length c) ∧ (pcsB s).length ≤ c ∧ w.heap.size ≤ g ∧ StRow w' g (pcsB s)) ∧ Below w.heap.size w w') := fun s w h1 h2 => namesC_any s w (by omega) h2
  have HCL : Hid (∀ (s : ByteArray) w, s.size ≤ 1048576 → Calls Tryd.prog 25 #[.string s] w fun e w' => e = .returned (.string s) ∧ Below w.heap.size w w') := fun s w h => clone_any s w (by omega)
  have HNE : Hid (∀ (p q : NdI) (w : World), Sem.run Tryd.prog (binOp .neq 32 (.agg #[.string p.p, .bool p.r, .int .i64 p.m, .string p.d]) (.agg #[.string q.p, .bool q.r, .int .i64 q.m, .string q.d])) w = .ok (.bool (ndNe p q)) w) := nd_neq
  have HFF := hidT hF
  have HGG := hidT hG
  clear ha hb hm hF hG HSORT
  go_enter Tryd.func7, Tryd.ntmps7
  go_wp2_with fail
  refine HPA.out.mono ?_
  rintro e w1 ⟨⟨hr, bl, vs, rfl, ht⟩ | ⟨hr, rfl⟩, hb1⟩
  · have HB1 := hidT hb1
    have HR1 := hidT hr
    have HT1 := hidT ht
    clear ht hr hb1 HPA
    go_wp2_with fail
    refine (HPB.out _ HB1.out).mono ?_
    rintro e w2 ⟨⟨hr, bl2, vs2, rfl, ht⟩ | ⟨hr, rfl⟩, hb2⟩
    · have HB2 := hidT (blNd HB1.out hb2 HB1.out.size)
      have HR2 := hidT hr
      have HTG := hidT ht
      have HTF := hidT (HT1.out.below hb2)
      have HCH : Hid (chL F n G m = srt (gAB F n G m)) := chL_yes ⟨HR1.out, HR2.out⟩
      have HS : Hid (∀ wr, Below w2.heap.size w2 wr → Below w.heap.size w wr) := fun wr h => blNd HB2.out h HB2.out.size
      have HA2 : Hid (∀ wr, Below w2.heap.size w2 wr → NdArg wr (.slice a n c) n F) := fun wr h => HA.out _ (HS.out _ h)
      have HG2 : Hid (∀ wr, Below w2.heap.size w2 wr → NdArg wr (.slice b m d) m G) := fun wr h => HBB.out _ (HS.out _ h)
      have HFG : Hid (∀ (s : ByteArray) (g c : Nat) wr, Below w2.heap.size w2 wr → StRow wr g (pcsB s) → Calls Tryd.prog 23 #[.pointer (some ⟨bl2 0, 0, none⟩), .slice (some ⟨g, 0, none⟩) (pcsB s).length c] wr fun e w' => e = .returned (ptO bl2 (bF G m (pcsB s))) ∧ Below wr.heap.size wr w') := fun s g c wr h hrow => find_any G m bl2 vs2 _ g c (pcsB s) wr HR2.out.1 HR2.out.2 (HTG.out.below h) hrow (pcsB_len s)
      have HFN : Hid (∀ (s : ByteArray) (g c : Nat) wr, Below w2.heap.size w2 wr → StRow wr g (pcsB s) → Calls Tryd.prog 23 #[.pointer (some ⟨bl 0, 0, none⟩), .slice (some ⟨g, 0, none⟩) (pcsB s).length c] wr fun e w' => e = .returned (ptO bl (bF F n (pcsB s))) ∧ Below wr.heap.size wr w') := fun s g c wr h hrow => find_any F n bl vs _ g c (pcsB s) wr HR1.out.1 HR1.out.2 (HTF.out.below h) hrow (pcsB_len s)
      obtain ⟨i0, hi, hz0, hz1, hz2⟩ := info_parts Tryd.infSt
      have hnI : (n : Int) ≤ 40 := by have := HR1.out.1; omega
      have hmI : (m : Int) ≤ 40 := by have := HR2.out.1; omega
      have HST : Hid (ChW w2 w2 (.slice none 0 0) (gA F G m 0)) := ⟨World.ownsRow_nil _ _ _ _, Below.refl _ _⟩
      clear ht hr hb2 HPB HT1 HB1 HA HBB
      go_wp2_with fail
      go_loopw [9, 33] (fun v x wr => ∃ (i : Nat) (u : Value), i ≤ n ∧ x = .int .i64 (i : Int) ∧ u = v ∧ Hid (ChW w2 wr u (gA F G m i))) (fun _ x _ => n - (trI x).toNat)
      case atStart => exact ⟨0, _, by omega, rfl, rfl, HST⟩
      case round =>
        rename World => wr
        obtain ⟨i, v, hi2, rfl, rfl, CW⟩ := hrel
        by_cases hlt : i < n
        · have hltI : (i : Int) < (n : Int) := by omega
          obtain ⟨a2, c2, e2, hrow1⟩ := HA2.out _ CW.out.bel
          obtain ⟨g, ea, hrow⟩ := hrow1 (by omega)
          cases e2
          subst ea
          clear hrow1
          have HSZ := hidT (HFF.out.s hlt)
          obtain ⟨q, hq⟩ : ∃ q, q = 4 * i := ⟨_, rfl⟩
          have x0 := hrow.c0 i hlt
          have x1 := hrow.c1 i hlt
          have x2 := hrow.c2 i hlt
          have x3 := hrow.c3 i hlt
          rw [← hq] at x0 x1 x2 x3
          have hiq : i * 4 = q := by omega
          obtain ⟨p, hp⟩ : ∃ p, p = F i := ⟨_, rfl⟩
          have HP := hidT hp
          rw [← hp] at x0 x1 x2 x3 HSZ
          have HLT := hidT hlt
          clear hq hrow hp
          obtain ⟨pa, pr, pm, pd⟩ := p
          simp only at x0 x1 x2 x3 HSZ
          have CB : Hid (ChW w2 (wr.alloc (.cells #[.string pa, .bool pr, .int .i64 pm, .string pd] 32)) v (gA F G m i)) := CW.out.call ((Below.refl _ _).alloc (Nat.le_refl _) _)
          have hbx : (wr.alloc (.cells #[.string pa, .bool pr, .int .i64 pm, .string pd] 32)).heap[wr.heap.size]? = some (.cells #[.string pa, .bool pr, .int .i64 pm, .string pd] 32 (0, 0)) := heap_alloc_new wr _
          have HBX := hidT hbx
          have HWB : Hid (w2.heap.size ≤ wr.heap.size) := CW.out.bel.size
          clear hbx CW
          go_wp2_with fail
          generalize wr.alloc (.cells #[.string pa, .bool pr, .int .i64 pm, .string pd] 32) = wb at CB HBX ⊢
          obtain ⟨nb, hnb⟩ : ∃ nb, nb = wr.heap.size := ⟨_, rfl⟩
          rw [← hnb] at HBX HWB ⊢
          clear hnb x0 x1 x2 x3 hiq
          have y0 : wb.cell? ⟨nb, 0, none⟩ = some (.string pa) := cell_of_row _ _ 0 _ _ _ HBX.out
          go_wp2_with fail
          refine (HNM.out pa _ HSZ.out.1 (HMX.out _ (HS.out _ CB.out.bel))).mono ?_
          rintro e w3 ⟨⟨g3, c3, rfl, _, _, hrow3⟩, hb3⟩
          have CW3 := hidT (CB.out.call hb3)
          have HBX3 : Hid (w3.heap[nb]? = some (.cells #[.string pa, .bool pr, .int .i64 pm, .string pd] 32 (0, 0))) := (hb3.block _ (Array.getElem?_eq_some_iff.1 HBX.out).1).trans HBX.out
          have HROW3 := hidT hrow3
          clear hb3 hrow3 CB HBX y0
          go_wp2_with fail
          refine (HFG.out pa g3 c3 _ CW3.out.bel HROW3.out).mono ?_
          rintro e w4 ⟨rfl, hb4⟩
          have CW4 := hidT (CW3.out.call hb4)
          have hbx4 : w4.heap[nb]? = some (.cells #[.string pa, .bool pr, .int .i64 pm, .string pd] 32 (0, 0)) := (hb4.block _ (Array.getElem?_eq_some_iff.1 HBX3.out).1).trans HBX3.out
          have HBX4 := hidT hbx4
          have hlen := gA_len F G m i
          have HLEN := hidT hlen
          clear hb4 CW3 HBX3 HROW3 hlen
          rcases bF_path HR2.out.2 (s := pa) with ⟨j, hj, hjs, hf⟩ | ⟨hno, hf⟩
          · rw [hf, show ptO bl2 (some (j + 1)) = .pointer (some ⟨bl2 (j + 1), 0, none⟩) from rfl]
            obtain ⟨_, k1, k2, k3, k4, _⟩ := (HTG.out.below CW4.out.bel).cells (show j + 1 ≤ m by omega)
            have e1 : bN G (j + 1) = G j := rfl
            rw [e1] at k1 k2 k3 k4
            obtain ⟨r, hr⟩ : ∃ r, r = G j := ⟨_, rfl⟩
            have hne : ∀ w, _ := fun w => HNE.out r ⟨pa, pr, pm, pd⟩ w
            simp only at hne
            rw [← hr] at k1 k2 k3 k4
            have HRJ := hidT hr
            have HJ := hidT (And.intro hj hjs)
            obtain ⟨bq, hnq⟩ : ∃ bq, bq = bl2 (j + 1) := ⟨_, rfl⟩
            rw [← hnq] at k1 k2 k3 k4 ⊢
            have y0 : w4.cell? ⟨nb, 0, none⟩ = some (.string pa) := cell_of_row _ _ 0 _ _ _ hbx4
            have y1 : w4.cell? ⟨nb, 1, none⟩ = some (.bool pr) := cell_of_row _ _ 1 _ _ _ hbx4
            have y2 : w4.cell? ⟨nb, 2, none⟩ = some (.int .i64 pm) := cell_of_row _ _ 2 _ _ _ hbx4
            have y3 : w4.cell? ⟨nb, 3, none⟩ = some (.string pd) := cell_of_row _ _ 3 _ _ _ hbx4
            clear hf hj hjs hr hnq e1 hbx4
            by_cases hsame : r = ⟨pa, pr, pm, pd⟩
            · have hd0 := ndNe_no hsame
              have HLL : Hid (gA F G m (i + 1) = gA F G m i) := gA_same ⟨j, HJ.out.1, by rw [← HRJ.out, hsame, HP.out]⟩
              rw [hd0] at hne
              obtain ⟨ra, rr, rm, rd⟩ := r
              simp only at k1 k2 k3 k4 hne
              have CWN : Hid (∀ nz, ChW w2 (w4.drewN nz) v (gA F G m i)) := fun nz => CW4.out.call ⟨rfl, rfl, rfl, Nat.le_refl _, fun _ _ => rfl⟩
              clear hsame hd0
              go_wp2_with fail
              go_quiet (fail)
              go_wp2_with fail
              go_roundw
              case rel => exact ⟨i + 1, _, by have := HLT.out; omega, by go_num, rfl, by rw [HLL.out]; exact CWN.out _⟩
              case measure => simp [trI]; have := HLT.out; omega
            · have hd0 := ndNe_yes hsame
              have HLL : Hid (gA F G m (i + 1) = gA F G m i ++ [pa]) := by
                show _ = _
                rw [gA_new (fun j2 h2 e => hsame (by
                  have e3 : (G j2).p = (G j).p := by rw [e, ← HP.out]; exact HJ.out.2.symm
                  have := rise_eq HR2.out.2 h2 HJ.out.1 e3
                  subst this
                  rw [HRJ.out, e, HP.out])), ← HP.out]
              rw [hd0] at hne
              obtain ⟨ra, rr, rm, rd⟩ := r
              simp only at k1 k2 k3 k4 hne
              clear hsame hd0
              have CWN : Hid (∀ nz, ChW w2 (w4.drewN nz) v (gA F G m i)) := fun nz => CW4.out.call ⟨rfl, rfl, rfl, Nat.le_refl _, fun _ _ => rfl⟩
              have Y0N : Hid (∀ nz, (w4.drewN nz).cell? ⟨nb, 0, none⟩ = some (.string pa)) := fun _ => y0
              go_wp2_with fail
              go_quiet (fail)
              rename Nat => nz
              have CWD := hidT (CWN.out nz)
              have y0d := Y0N.out nz
              generalize w4.drewN nz = w4d at CWD y0d ⊢
              clear y0 y1 y2 y3 k1 k2 k3 k4 CW4 HBX4 hne CWN Y0N
              go_wp2_with fail
              refine (HCL.out pa _ HSZ.out.1).mono ?_
              rintro e w5 ⟨rfl, hb5⟩
              have CW5 := hidT (CWD.out.call hb5)
              have hsz5 := CW5.out.bel.size
              have hlen5 := HLEN.out
              clear hb5
              go_wp2_with (at_builtin; (refine wpList_append_own _ rfl _ _ 27 rfl w2.heap.size 9 i0 _ 1 16 Tryd.underlying27 hi hz0 hz1 hz2 rfl (by decide) _ _ _ rfl (World.ownsRow.alloc CW5.out.own _) ⟨w5.heap.size, 0, none⟩ 1 1 [_] rfl rfl (cell_one_at rfl) ?k2 ?k3 ?k4 ?k5 ?_))
              case k2 => exact oneSt
              case k3 => unfold maxLen; omega
              case k4 => omega
              case k5 => rw [World.size_alloc]; omega
              intro v' w6 hown' hgrow _
              have CW6 : Hid (ChW w2 w6 v' (gA F G m (i + 1))) := by
                show ChW _ _ _ _
                rw [HLL.out]
                exact ⟨by simpa only [List.length_append, List.length_singleton, List.length_cons, List.length_nil, stC_snoc] using hown', (CW5.out.bel.alloc CW5.out.bel.size _).grown hgrow (by rw [World.size_alloc]; omega) (fun k hk => (CW5.out.own.lt k hk).1)⟩
              clear hown' hgrow hsz5 hlen5 CW5
              go_wp2_with fail
              go_roundw
              case rel => exact ⟨i + 1, _, by have := HLT.out; omega, by go_num, rfl, CW6⟩
              case measure => simp [trI]; have := HLT.out; omega
          · rw [hf, show ptO bl2 none = .pointer none from rfl]
            have HLL : Hid (gA F G m (i + 1) = gA F G m i ++ [pa]) := by
              show _ = _
              rw [gA_new (fun j2 h2 e => hno j2 h2 (by rw [e, ← HP.out])), ← HP.out]
            have y0 : w4.cell? ⟨nb, 0, none⟩ = some (.string pa) := cell_of_row _ _ 0 _ _ _ hbx4
            have CWN : Hid (∀ nz, ChW w2 (w4.drewN nz) v (gA F G m i)) := fun nz => CW4.out.call ⟨rfl, rfl, rfl, Nat.le_refl _, fun _ _ => rfl⟩
            have Y0N : Hid (∀ nz, (w4.drewN nz).cell? ⟨nb, 0, none⟩ = some (.string pa)) := fun _ => y0
            clear hno hf hbx4
            go_wp2_with fail
            go_quiet (fail)
            rename Nat => nz
            have CWD := hidT (CWN.out nz)
            have y0d := Y0N.out nz
            generalize w4.drewN nz = w4d at CWD y0d ⊢
            clear y0 CW4 HBX4 CWN Y0N
            go_wp2_with fail
            refine (HCL.out pa _ HSZ.out.1).mono ?_
            rintro e w5 ⟨rfl, hb5⟩
            have CW5 := hidT (CWD.out.call hb5)
            have hsz5 := CW5.out.bel.size
            have hlen5 := HLEN.out
            clear hb5
            go_wp2_with (at_builtin; (refine wpList_append_own _ rfl _ _ 27 rfl w2.heap.size 9 i0 _ 1 16 Tryd.underlying27 hi hz0 hz1 hz2 rfl (by decide) _ _ _ rfl (World.ownsRow.alloc CW5.out.own _) ⟨w5.heap.size, 0, none⟩ 1 1 [_] rfl rfl (cell_one_at rfl) ?k2 ?k3 ?k4 ?k5 ?_))
            case k2 => exact oneSt
            case k3 => unfold maxLen; omega
            case k4 => omega
            case k5 => rw [World.size_alloc]; omega
            intro v' w6 hown' hgrow _
            have CW6 : Hid (ChW w2 w6 v' (gA F G m (i + 1))) := by
              show ChW _ _ _ _
              rw [HLL.out]
              exact ⟨by simpa only [List.length_append, List.length_singleton, List.length_cons, List.length_nil, stC_snoc] using hown', (CW5.out.bel.alloc CW5.out.bel.size _).grown hgrow (by rw [World.size_alloc]; omega) (fun k hk => (CW5.out.own.lt k hk).1)⟩
            clear hown' hgrow hsz5 hlen5 CW5
            go_wp2_with fail
            go_roundw
            case rel => exact ⟨i + 1, _, by have := HLT.out; omega, by go_num, rfl, CW6⟩
            case measure => simp [trI]; have := HLT.out; omega
        · obtain rfl : i = n := by omega
          have CW0 : Hid (ChW w2 wr v (gA F G m i ++ gB F i G 0)) := by
            show ChW _ _ _ (_ ++ [])
            rw [List.append_nil]; exact CW.out
          clear CW HST
          go_wp2_with fail
          go_loopw [9, 61] (fun v x wr => ∃ (k : Nat) (u : Value), k ≤ m ∧ x = .int .i64 (k : Int) ∧ u = v ∧ Hid (ChW w2 wr u (gA F G m i ++ gB F i G k))) (fun _ x _ => m - (trI x).toNat)
          case atStart => exact ⟨0, _, by omega, rfl, rfl, CW0⟩
          case round =>
            clear CW0
            rename World => WX
            obtain ⟨k, VX, hi2, rfl, rfl, CW⟩ := hrel
            by_cases hlt : k < m
            · have hltI : (k : Int) < (m : Int) := by omega
              obtain ⟨a2, c2, e2, hrow1⟩ := HG2.out _ CW.out.bel
              obtain ⟨g, ea, hrow⟩ := hrow1 (by omega)
              cases e2
              subst ea
              clear hrow1
              have HSZ := hidT (HGG.out.s hlt)
              obtain ⟨q, hq⟩ : ∃ q, q = 4 * k := ⟨_, rfl⟩
              have x0 := hrow.c0 k hlt
              have x1 := hrow.c1 k hlt
              have x2 := hrow.c2 k hlt
              have x3 := hrow.c3 k hlt
              rw [← hq] at x0 x1 x2 x3
              have hiq : k * 4 = q := by omega
              obtain ⟨p, hp⟩ : ∃ p, p = G k := ⟨_, rfl⟩
              have HP := hidT hp
              rw [← hp] at x0 x1 x2 x3 HSZ
              have HLT := hidT hlt
              clear hq hrow hp
              obtain ⟨pa, pr, pm, pd⟩ := p
              simp only at x0 x1 x2 x3 HSZ
              have CB : Hid (ChW w2 (WX.alloc (.cells #[.string pa, .bool pr, .int .i64 pm, .string pd] 32)) VX (gA F G m i ++ gB F i G k)) := CW.out.call ((Below.refl _ _).alloc (Nat.le_refl _) _)
              have hbx : (WX.alloc (.cells #[.string pa, .bool pr, .int .i64 pm, .string pd] 32)).heap[WX.heap.size]? = some (.cells #[.string pa, .bool pr, .int .i64 pm, .string pd] 32 (0, 0)) := heap_alloc_new WX _
              have HBX := hidT hbx
              clear hbx CW
              go_wp2_with fail
              generalize WX.alloc (.cells #[.string pa, .bool pr, .int .i64 pm, .string pd] 32) = wb at CB HBX ⊢
              obtain ⟨nb, hnb⟩ : ∃ nb, nb = WX.heap.size := ⟨_, rfl⟩
              rw [← hnb] at HBX ⊢
              clear hnb x0 x1 x2 x3 hiq
              have y0 : wb.cell? ⟨nb, 0, none⟩ = some (.string pa) := cell_of_row _ _ 0 _ _ _ HBX.out
              go_wp2_with fail
              refine (HNM.out pa _ HSZ.out.1 (HMX.out _ (HS.out _ CB.out.bel))).mono ?_
              rintro e w3 ⟨⟨g3, c3, rfl, _, _, hrow3⟩, hb3⟩
              have CW3 := hidT (CB.out.call hb3)
              have HBX3 : Hid (w3.heap[nb]? = some (.cells #[.string pa, .bool pr, .int .i64 pm, .string pd] 32 (0, 0))) := (hb3.block _ (Array.getElem?_eq_some_iff.1 HBX.out).1).trans HBX.out
              have HROW3 := hidT hrow3
              clear hb3 hrow3 CB HBX y0
              go_wp2_with fail
              refine (HFN.out pa g3 c3 _ CW3.out.bel HROW3.out).mono ?_
              rintro e w4 ⟨rfl, hb4⟩
              have CW4 := hidT (CW3.out.call hb4)
              have hbx4 : w4.heap[nb]? = some (.cells #[.string pa, .bool pr, .int .i64 pm, .string pd] 32 (0, 0)) := (hb4.block _ (Array.getElem?_eq_some_iff.1 HBX3.out).1).trans HBX3.out
              have y0 : w4.cell? ⟨nb, 0, none⟩ = some (.string pa) := cell_of_row _ _ 0 _ _ _ hbx4
              have hlen : (gA F G m i ++ gB F i G k).length ≤ i + k := by
                rw [List.length_append]
                have h1 := gA_len F G m i
                have h2 := gB_len F G i k
                omega
              have HLEN := hidT hlen
              clear hb4 CW3 HBX3 HROW3 hlen hbx4
              rcases bF_path HR1.out.2 (s := pa) with ⟨j, hj, hjs, hf⟩ | ⟨hno, hf⟩
              · rw [hf, show ptO bl (some (j + 1)) = .pointer (some ⟨bl (j + 1), 0, none⟩) from rfl]
                have HLL : Hid (gA F G m i ++ gB F i G (k + 1) = gA F G m i ++ gB F i G k) := by
                  show _ = _
                  rw [gB_same ⟨j, hj, by rw [hjs, ← HP.out]⟩]
                clear hf hj hjs
                go_wp2_with fail
                go_roundw
                case rel => exact ⟨k + 1, _, by have := HLT.out; omega, by go_num, rfl, by rw [HLL.out]; exact CW4⟩
                case measure => simp [trI]; have := HLT.out; omega
              · rw [hf, show ptO bl none = .pointer none from rfl]
                have HLL : Hid (gA F G m i ++ gB F i G (k + 1) = (gA F G m i ++ gB F i G k) ++ [pa]) := by
                  show _ = _
                  rw [gB_new (fun j2 h2 e => hno j2 h2 (by rw [e, ← HP.out])), ← HP.out, List.append_assoc]
                clear hno hf
                go_wp2_with fail
                refine (HCL.out pa _ HSZ.out.1).mono ?_
                rintro e w5 ⟨rfl, hb5⟩
                have CW5 := hidT (CW4.out.call hb5)
                have hsz5 := CW5.out.bel.size
                have hlen5 := HLEN.out
                clear hb5
                go_wp2_with (at_builtin; (refine wpList_append_own _ rfl _ _ 27 rfl w2.heap.size 9 i0 _ 1 16 Tryd.underlying27 hi hz0 hz1 hz2 rfl (by decide) _ _ _ rfl (World.ownsRow.alloc CW5.out.own _) ⟨w5.heap.size, 0, none⟩ 1 1 [_] rfl rfl (cell_one_at rfl) ?k2 ?k3 ?k4 ?k5 ?_))
                case k2 => exact oneSt
                case k3 => unfold maxLen; omega
                case k4 => omega
                case k5 => rw [World.size_alloc]; omega
                intro v' w6 hown' hgrow _
                have CW6 : Hid (ChW w2 w6 v' (gA F G m i ++ gB F i G (k + 1))) := by
                  show ChW _ _ _ _
                  rw [HLL.out]
                  exact ⟨by simpa only [List.length_append, List.length_singleton, List.length_cons, List.length_nil, stC_snoc] using hown', (CW5.out.bel.alloc CW5.out.bel.size _).grown hgrow (by rw [World.size_alloc]; omega) (fun k hk => (CW5.out.own.lt k hk).1)⟩
                clear hown' hgrow hsz5 hlen5 CW5
                go_wp2_with fail
                go_roundw
                case rel => exact ⟨k + 1, _, by have := HLT.out; omega, by go_num, rfl, CW6⟩
                case measure => simp [trI]; have := HLT.out; omega
            · obtain rfl : k = m := by omega
              obtain ⟨L, hL⟩ : ∃ L, L = gA F G k i ++ gB F i G k := ⟨_, rfl⟩
              rw [← hL] at CW
              have hl80 : L.length ≤ 80 := by
                rw [hL, List.length_append]
                have h1 := gA_len F G k i
                have h2 := gB_len F G i k
                omega
              have HSC := hidT (HSO.out VX L _ WX hl80 CW.out.own)
              have HLL : Hid (srt (gAB F i G k) = srt L) := by show _ = _; rw [hL]; rfl
              have HBW := hidT CW.out.bel
              have HB22 := hidT HB2.out.size
              obtain ⟨va, vc, hv⟩ := ownSt_slice CW.out.own
              subst hv
              clear hl80 CW hL
              go_wp2_with fail
              refine HSC.out.mono ?_
              rintro e w7 ⟨rfl, ho7, hb7⟩
              have HO7 := hidT ho7
              have HB7 := hidT (hb7 _ _ (Nat.le_refl _) HBW.out)
              clear ho7 hb7 HSC
              go_wp2_with fail
              go_ret
              exact ⟨⟨_, rfl, by rw [HCH.out, HLL.out, (srt_perm _).length_eq]; exact own_baseK HO7.out HB22.out⟩, HS.out _ HB7.out⟩
    · have HB2 := hidT (blNd HB1.out hb2 HB1.out.size)
      have HCH : Hid (chL F n G m = []) := chL_no fun c => hr c.2
      clear hr hb2
      go_wp2_with fail
      go_ret
      exact ⟨⟨_, rfl, by rw [HCH.out]; exact World.ownsRow_nil _ _ _ _⟩, HB2.out⟩
  · have HB1 := hidT hb1
    have HCH : Hid (chL F n G m = []) := chL_no fun c => hr c.1
    clear hr hb1
    go_wp2_with fail
    refine (HPB.out _ HB1.out).mono ?_
    rintro e w2 ⟨⟨_, bl2, vs2, rfl, _⟩ | ⟨_, rfl⟩, hb2⟩ <;>
    · have HB2 := hidT (blNd HB1.out hb2 HB1.out.size)
      clear hb2
      go_wp2_with fail
      go_ret
      exact ⟨⟨_, rfl, by rw [HCH.out]; exact World.ownsRow_nil _ _ _ _⟩, HB2.out⟩
end Go.Proofs.YtbmcjoaigajjkaaDoor
