/-
  Changed: the specification's; both at whatever lists.
-/
import Derived.Test.YtbmcjoaigajjkaaDoorChgC
import Derived.Test.YtbmcjoaigajjkaaDoorSrtC
import Derived.Test.YtbmcjoaigajjkaaDoorTrT
namespace Go.Proofs.YtbmcjoaigajjkaaDoor
open Go.RowKit
set_option linter.unusedVariables false
set_option linter.unusedSimpArgs false
theorem bl_dec {a b : ByteArray} (h : pL a b) : Op.bytesLess a.toList b.toList = true := h
theorem bl_dec_no {a b : ByteArray} (h : ¬ pL a b) : Op.bytesLess a.toList b.toList = false := by
  cases hb : Op.bytesLess a.toList b.toList with
  | false => rfl
  | true => exact absurd hb h
theorem pL_tri (a b : ByteArray) : pL a b ∨ a = b ∨ pL b a := by
  rcases blt_tri a.toList b.toList with h | h | h
  · exact Or.inl h
  · exact Or.inr (Or.inl (ba_list h))
  · exact Or.inr (Or.inr h)
theorem pL_no {a b : ByteArray} (h : pL a b) : ¬ pL b a := fun k => pL_ne (pL_trans h k) rfl
set_option maxRecDepth 100000 in
set_option maxHeartbeats 8000000 in
theorem schg_go (g h : Nat) (a b : Option Addr) (c d n m : Nat) (F G : Nat → NdI) (w : World) (hF : NdLe F n) (hG : NdLe G m) (hdF : ndR F n) (hdG : ndR G m)
    (hra : 0 < n → a = some ⟨g, 0, none⟩ ∧ NdRow w g n F) (hrb : 0 < m → b = some ⟨h, 0, none⟩ ∧ NdRow w h m G) :
    Calls Tryd.prog 9 #[.slice a n c, .slice b m d] w fun e w' => (∃ v, e = .returned v ∧ w'.ownsRow w.heap.size 9 1 v (chL F n G m).length (stC (chL F n G m))) ∧ Below w.heap.size w w' := by
  have HTA : Hid (∀ w', Below w.heap.size w w' → Calls Tryd.prog 10 #[.slice a n c] w' fun e w'' => e = .returned (.bool true) ∧ Below w'.heap.size w' w'') := fun w' hb => by
    have := streeOk_any _ n F w' hF ⟨a, c, rfl, fun h0 => ⟨g, (hra h0).1, (hra h0).2.below hb (hra h0).2.lt⟩⟩
    rw [ndB_yes hdF] at this
    exact this
  have HTB : Hid (∀ w', Below w.heap.size w w' → Calls Tryd.prog 10 #[.slice b m d] w' fun e w'' => e = .returned (.bool true) ∧ Below w'.heap.size w' w'') := fun w' hb => by
    have := streeOk_any _ m G w' hG ⟨b, d, rfl, fun h0 => ⟨h, (hrb h0).1, (hrb h0).2.below hb (hrb h0).2.lt⟩⟩
    rw [ndB_yes hdG] at this
    exact this
  have HRA : Hid (∀ w', Below w.heap.size w w' → 0 < n → a = some ⟨g, 0, none⟩ ∧ NdRow w' g n F) := fun w' hb h0 => ⟨(hra h0).1, (hra h0).2.below hb (hra h0).2.lt⟩
  have HRB : Hid (∀ w', Below w.heap.size w w' → 0 < m → b = some ⟨h, 0, none⟩ ∧ NdRow w' h m G) := fun w' hb h0 => ⟨(hrb h0).1, (hrb h0).2.below hb (hrb h0).2.lt⟩
  have HNE : Hid (∀ (p q : NdI) (w : World), Sem.run Tryd.prog (binOp .neq 32 (.agg #[.string p.p, .bool p.r, .int .i64 p.m, .string p.d]) (.agg #[.string q.p, .bool q.r, .int .i64 q.m, .string q.d])) w = .ok (.bool (ndNe p q)) w) := nd_neq
  have HDF := hidT hdF
  have HDG := hidT hdG
  have hnI : (n : Int) ≤ 40 := by have := hdF.1; omega
  have hmI : (m : Int) ≤ 40 := by have := hdG.1; omega
  have HB0 : Hid (ChW w (w.alloc (.cells #[] 9)) (.slice (some ⟨w.heap.size, 0, none⟩) 0 0) []) := ⟨⟨rfl, Or.inr ⟨w.heap.size, 0, #[], rfl, Nat.le_refl _, heap_alloc_new _ _, Nat.le_refl _, by unfold maxLen; omega, rfl, rfl⟩⟩, (Below.refl _ _).alloc (Nat.le_refl _) _⟩
  obtain ⟨i0, hi, hz0, hz1, hz2⟩ := info_parts Tryd.infSt
  clear hra hrb hdF hdG hF hG
  go_enter Tryd.func9, Tryd.ntmps9
  go_wp2_with fail
  refine (HTA.out _ HB0.out.bel).mono ?_
  rintro e w1 ⟨rfl, hb1⟩
  have HB1 := hidT (HB0.out.call hb1)
  clear hb1 HB0 HTA
  go_wp2_with fail
  refine (HTB.out _ HB1.out.bel).mono ?_
  rintro e w2 ⟨rfl, hb2⟩
  have HB2 := hidT (HB1.out.call hb2)
  clear hb2 HB1 HTB
  go_wp2_with fail
  go_loopw [5, 6, 7] (fun v x y wr => ∃ (i k : Nat) (u : Value) (L : List ByteArray), x = .int .i64 (i : Int) ∧ y = .int .i64 (k : Int) ∧ u = v ∧ Hid (MgI F n G m i k L) ∧ Hid (L.length ≤ i + k) ∧ Hid (ChW w wr u L)) (fun _ x y _ => (n - (trI x).toNat) + (m - (trI y).toNat))
  case atStart => exact ⟨0, 0, _, [], rfl, rfl, rfl, MgI.start F n G m, Nat.zero_le _, HB2⟩
  case round =>
    rename World => W0
    obtain ⟨i, k, v, L, rfl, rfl, rfl, HMG, HLEN, CW⟩ := hrel
    have hin := HMG.out.hi
    have hkm := HMG.out.hk
    have HIK := hidT (And.intro hin hkm)
    by_cases hlt : i < n
    · have hltI : (i : Int) < (n : Int) := by omega
      have hne1 : ((i : Int) == (n : Int)) = false := by rw [beq_eq_false_iff_ne]; omega
      by_cases hkt : k < m
      · have hktI : (k : Int) < (m : Int) := by omega
        have hne2 : ((k : Int) == (m : Int)) = false := by rw [beq_eq_false_iff_ne]; omega
        obtain ⟨ea, hrow⟩ := HRA.out _ CW.out.bel (by omega)
        subst ea
        obtain ⟨q, hq⟩ : ∃ q, q = 4 * i := ⟨_, rfl⟩
        have hiq : i * 4 = q := by omega
        have HXA : Hid (∀ wd, Below w.heap.size w wd → wd.cell? ⟨g, q, none⟩ = some (.string (F i).p) ∧ wd.cell? ⟨g, q + 1, none⟩ = some (.bool (F i).r) ∧ wd.cell? ⟨g, q + 2, none⟩ = some (.int .i64 (F i).m) ∧ wd.cell? ⟨g, q + 3, none⟩ = some (.string (F i).d)) := fun wd hb => by
          have hr := (HRA.out wd hb (by omega)).2
          rw [hq]
          exact ⟨hr.c0 i hlt, hr.c1 i hlt, hr.c2 i hlt, hr.c3 i hlt⟩
        clear hq hrow
        obtain ⟨eb, hrow⟩ := HRB.out _ CW.out.bel (by omega)
        subst eb
        obtain ⟨r, hr⟩ : ∃ r, r = 4 * k := ⟨_, rfl⟩
        have hkr : k * 4 = r := by omega
        have HXB : Hid (∀ wd, Below w.heap.size w wd → wd.cell? ⟨h, r, none⟩ = some (.string (G k).p) ∧ wd.cell? ⟨h, r + 1, none⟩ = some (.bool (G k).r) ∧ wd.cell? ⟨h, r + 2, none⟩ = some (.int .i64 (G k).m) ∧ wd.cell? ⟨h, r + 3, none⟩ = some (.string (G k).d)) := fun wd hb => by
          have hr2 := (HRB.out wd hb (by omega)).2
          rw [hr]
          exact ⟨hr2.c0 k hkt, hr2.c1 k hkt, hr2.c2 k hkt, hr2.c3 k hkt⟩
        clear hr hrow
        have HLK := hidT (And.intro hlt hkt)
        obtain ⟨P, hP⟩ : ∃ P, P = F i := ⟨_, rfl⟩
        obtain ⟨Q, hQ⟩ : ∃ Q, Q = G k := ⟨_, rfl⟩
        rw [← hP] at HXA
        rw [← hQ] at HXB
        have hnq : ∀ w, _ := fun w => HNE.out P Q w
        have HPQ := hidT (And.intro hP hQ)
        have hMA : pL P.p Q.p → MgI F n G m (i + 1) k (L ++ [P.p]) := fun hp => by rw [hP]; exact HMG.out.a HDF.out.2 HDG.out.2 hlt (fun _ => by rw [← hP, ← hQ]; exact hp)
        have hMB : pL Q.p P.p → MgI F n G m i (k + 1) (L ++ [Q.p]) := fun hp => by rw [hQ]; exact HMG.out.b HDF.out.2 HDG.out.2 hkt (fun _ => by rw [← hP, ← hQ]; exact hp)
        have hME : P.p = Q.p → ∀ L2, (P ≠ Q ∧ L2 = L ++ [P.p]) ∨ (P = Q ∧ L2 = L) → MgI F n G m (i + 1) (k + 1) L2 := fun e L2 hL => HMG.out.two HDF.out.2 HDG.out.2 hlt hkt (by rw [← hP, ← hQ]; exact e) L2 (by rw [← hP, ← hQ]; exact hL)
        have hnd := @ndNe_no P Q
        have hny := @ndNe_yes P Q
        obtain ⟨pa, pr, pm, pd⟩ := P
        obtain ⟨qa, qr, qm, qd⟩ := Q
        simp only at HXA HXB hnq hMA hMB hME
        clear hP hQ HMG hin hkm hlt hkt
        rcases pL_tri pa qa with hp | hp | hp
        · have hb1 := bl_dec hp
          have HMG1 : Hid (MgI F n G m (i + 1) k (L ++ [pa])) := hMA hp
          have x0 := (HXA.out _ CW.out.bel).1
          have y0 := (HXB.out _ CW.out.bel).1
          clear hMA hMB hME hp hnq hnd hny
          go_wp2_with fail
          go_quiet (fail)
          rename Nat => nz
          replace CW : Hid (ChW w (W0.drewN nz) v L) := CW.out.call ⟨rfl, rfl, rfl, Nat.le_refl _, fun _ _ => rfl⟩
          clear x0 y0 hb1
          generalize W0.drewN nz = W9 at CW ⊢
          clear nz
          rename World => W0
          have x9 := (HXA.out _ CW.out.bel).1
          have hl9 := HLEN.out
          have hs9 := CW.out.bel.size
          go_wp2_with (at_builtin; (refine wpList_append_own _ rfl _ _ 27 rfl w.heap.size 9 i0 _ 1 16 Tryd.underlying27 hi hz0 hz1 hz2 rfl (by decide) _ _ _ rfl (World.ownsRow.alloc CW.out.own _) ⟨W0.heap.size, 0, none⟩ 1 1 [_] rfl rfl (cell_one_at rfl) ?k2 ?k3 ?k4 ?k5 ?_))
          case k2 => exact oneSt
          case k3 => unfold maxLen; omega
          case k4 => omega
          case k5 => rw [World.size_alloc]; omega
          intro v' w6 hown' hgrow _
          have CW6 : Hid (ChW w w6 v' (L ++ [pa])) := ⟨by simpa only [List.length_append, List.length_singleton, List.length_cons, List.length_nil, stC_snoc] using hown', (CW.out.bel.alloc CW.out.bel.size _).grown hgrow (by rw [World.size_alloc]; omega) (fun k hk => (CW.out.own.lt k hk).1)⟩
          have HL6 : Hid ((L ++ [pa]).length ≤ i + 1 + k) := by
            show _ ≤ _
            rw [List.length_append]
            have e : [pa].length = 1 := rfl
            omega
          clear hown' hgrow hs9 hl9 x9 CW
          go_wp2_with fail
          go_roundw
          case rel => exact ⟨i + 1, k, _, _, by go_num, by go_num, rfl, HMG1, HL6, CW6⟩
          case measure => simp [trI]; have := HIK.out; omega
        · subst hp
          have hb1 : Op.bytesLess pa.toList pa.toList = false := blt_irr _
          have x0 := (HXA.out _ CW.out.bel).1
          have y0 := (HXB.out _ CW.out.bel).1
          have hME2 := hidT (hME rfl)
          have HND := hidT hnd
          have HNY := hidT hny
          have HNQ := hidT hnq
          clear hMA hMB hME hnq hnd hny
          go_wp2_with fail
          go_quiet (fail)
          rename Nat => nz
          replace CW : Hid (ChW w (W0.drewN nz) v L) := CW.out.call ⟨rfl, rfl, rfl, Nat.le_refl _, fun _ _ => rfl⟩
          clear x0 y0
          generalize W0.drewN nz = W9 at CW ⊢
          clear nz
          rename World => W0
          have x0 := (HXA.out _ CW.out.bel).1
          have y0 := (HXB.out _ CW.out.bel).1
          go_wp2_with fail
          go_quiet (fail)
          rename Nat => nz
          replace CW : Hid (ChW w (W0.drewN nz) v L) := CW.out.call ⟨rfl, rfl, rfl, Nat.le_refl _, fun _ _ => rfl⟩
          clear x0 y0 hb1
          generalize W0.drewN nz = W9 at CW ⊢
          clear nz
          rename World => W0
          obtain ⟨x0, x1, x2, x3⟩ := HXA.out _ CW.out.bel
          obtain ⟨y0, y1, y2, y3⟩ := HXB.out _ CW.out.bel
          have hnq := HNQ.out
          by_cases hs : (⟨pa, pr, pm, pd⟩ : NdI) = ⟨pa, qr, qm, qd⟩
          · have HMG1 : Hid (MgI F n G m (i + 1) (k + 1) L) := hME2.out L (Or.inr ⟨hs, rfl⟩)
            rw [HND.out hs] at hnq
            clear hs hME2 HND HNY HNQ
            go_wp2_with fail
            go_quiet (fail)
            rename Nat => nz
            replace CW : Hid (ChW w (W0.drewN nz) v L) := CW.out.call ⟨rfl, rfl, rfl, Nat.le_refl _, fun _ _ => rfl⟩
            clear x0 x1 x2 x3 y0 y1 y2 y3 hnq
            generalize W0.drewN nz = W9 at CW ⊢
            clear nz
            rename World => W0
            have HL6 : Hid (L.length ≤ i + 1 + (k + 1)) := by show _ ≤ _; have := HLEN.out; omega
            go_wp2_with fail
            go_roundw
            case rel => exact ⟨i + 1, k + 1, _, _, by go_num, by go_num, rfl, HMG1, HL6, CW⟩
            case measure => simp [trI]; have := HLK.out; omega
          · have HMG1 : Hid (MgI F n G m (i + 1) (k + 1) (L ++ [pa])) := hME2.out _ (Or.inl ⟨hs, rfl⟩)
            rw [HNY.out hs] at hnq
            clear hs hME2 HND HNY HNQ
            go_wp2_with fail
            go_quiet (fail)
            rename Nat => nz
            replace CW : Hid (ChW w (W0.drewN nz) v L) := CW.out.call ⟨rfl, rfl, rfl, Nat.le_refl _, fun _ _ => rfl⟩
            clear x0 x1 x2 x3 y0 y1 y2 y3 hnq
            generalize W0.drewN nz = W9 at CW ⊢
            clear nz
            rename World => W0
            have x9 := (HXA.out _ CW.out.bel).1
            have hl9 := HLEN.out
            have hs9 := CW.out.bel.size
            go_wp2_with (at_builtin; (refine wpList_append_own _ rfl _ _ 27 rfl w.heap.size 9 i0 _ 1 16 Tryd.underlying27 hi hz0 hz1 hz2 rfl (by decide) _ _ _ rfl (World.ownsRow.alloc CW.out.own _) ⟨W0.heap.size, 0, none⟩ 1 1 [_] rfl rfl (cell_one_at rfl) ?k2 ?k3 ?k4 ?k5 ?_))
            case k2 => exact oneSt
            case k3 => unfold maxLen; omega
            case k4 => omega
            case k5 => rw [World.size_alloc]; omega
            intro v' w6 hown' hgrow _
            have CW6 : Hid (ChW w w6 v' (L ++ [pa])) := ⟨by simpa only [List.length_append, List.length_singleton, List.length_cons, List.length_nil, stC_snoc] using hown', (CW.out.bel.alloc CW.out.bel.size _).grown hgrow (by rw [World.size_alloc]; omega) (fun k hk => (CW.out.own.lt k hk).1)⟩
            have HL6 : Hid ((L ++ [pa]).length ≤ i + 1 + (k + 1)) := by
              show _ ≤ _
              rw [List.length_append]
              have e : [pa].length = 1 := rfl
              omega
            clear hown' hgrow hs9 hl9 x9 CW
            go_wp2_with fail
            go_roundw
            case rel => exact ⟨i + 1, k + 1, _, _, by go_num, by go_num, rfl, HMG1, HL6, CW6⟩
            case measure => simp [trI]; have := HIK.out; omega
        · have hb1 := bl_dec hp
          have hb2 := bl_dec_no (pL_no hp)
          have hb3 : (pa.toList == qa.toList) = false := by
            rw [beq_eq_false_iff_ne]
            exact fun e => pL_ne hp (ba_list e).symm
          have HMG1 : Hid (MgI F n G m i (k + 1) (L ++ [qa])) := hMB hp
          have x0 := (HXA.out _ CW.out.bel).1
          have y0 := (HXB.out _ CW.out.bel).1
          clear hMA hMB hME hp hnq hnd hny
          go_wp2_with fail
          go_quiet (fail)
          rename Nat => nz
          replace CW : Hid (ChW w (W0.drewN nz) v L) := CW.out.call ⟨rfl, rfl, rfl, Nat.le_refl _, fun _ _ => rfl⟩
          clear x0 y0
          generalize W0.drewN nz = W9 at CW ⊢
          clear nz
          rename World => W0
          have x0 := (HXA.out _ CW.out.bel).1
          have y0 := (HXB.out _ CW.out.bel).1
          go_wp2_with fail
          go_quiet (fail)
          rename Nat => nz
          replace CW : Hid (ChW w (W0.drewN nz) v L) := CW.out.call ⟨rfl, rfl, rfl, Nat.le_refl _, fun _ _ => rfl⟩
          clear x0 y0 hb1 hb2 hb3
          generalize W0.drewN nz = W9 at CW ⊢
          clear nz
          rename World => W0
          have x9 := (HXB.out _ CW.out.bel).1
          have hl9 := HLEN.out
          have hs9 := CW.out.bel.size
          go_wp2_with (at_builtin; (refine wpList_append_own _ rfl _ _ 27 rfl w.heap.size 9 i0 _ 1 16 Tryd.underlying27 hi hz0 hz1 hz2 rfl (by decide) _ _ _ rfl (World.ownsRow.alloc CW.out.own _) ⟨W0.heap.size, 0, none⟩ 1 1 [_] rfl rfl (cell_one_at rfl) ?k2 ?k3 ?k4 ?k5 ?_))
          case k2 => exact oneSt
          case k3 => unfold maxLen; omega
          case k4 => omega
          case k5 => rw [World.size_alloc]; omega
          intro v' w6 hown' hgrow _
          have CW6 : Hid (ChW w w6 v' (L ++ [qa])) := ⟨by simpa only [List.length_append, List.length_singleton, List.length_cons, List.length_nil, stC_snoc] using hown', (CW.out.bel.alloc CW.out.bel.size _).grown hgrow (by rw [World.size_alloc]; omega) (fun k hk => (CW.out.own.lt k hk).1)⟩
          have HL6 : Hid ((L ++ [qa]).length ≤ i + (k + 1)) := by
            show _ ≤ _
            rw [List.length_append]
            have e : [qa].length = 1 := rfl
            omega
          clear hown' hgrow hs9 hl9 x9 CW
          go_wp2_with fail
          go_roundw
          case rel => exact ⟨i, k + 1, _, _, by go_num, by go_num, rfl, HMG1, HL6, CW6⟩
          case measure => simp [trI]; have := HIK.out; omega
      · obtain rfl : k = m := by omega
        obtain ⟨ea, hrow⟩ := HRA.out _ CW.out.bel (by omega)
        subst ea
        obtain ⟨q, hq⟩ : ∃ q, q = 4 * i := ⟨_, rfl⟩
        have hiq : i * 4 = q := by omega
        have HXA : Hid (∀ wd, Below w.heap.size w wd → wd.cell? ⟨g, q, none⟩ = some (.string (F i).p) ∧ wd.cell? ⟨g, q + 1, none⟩ = some (.bool (F i).r) ∧ wd.cell? ⟨g, q + 2, none⟩ = some (.int .i64 (F i).m) ∧ wd.cell? ⟨g, q + 3, none⟩ = some (.string (F i).d)) := fun wd hb => by
          have hr := (HRA.out wd hb (by omega)).2
          rw [hq]
          exact ⟨hr.c0 i hlt, hr.c1 i hlt, hr.c2 i hlt, hr.c3 i hlt⟩
        clear hq hrow
        have HMG1 : Hid (MgI F n G k (i + 1) k (L ++ [(F i).p])) := HMG.out.a HDF.out.2 HDG.out.2 hlt (fun h => absurd h hkt)
        have HLK := hidT hlt
        obtain ⟨pa, hpa⟩ : ∃ x, x = (F i).p := ⟨_, rfl⟩
        rw [← hpa] at HXA HMG1
        clear hpa HMG hin hkm hlt hkt
        go_wp2_with fail
        go_quiet (fail)
        rename Nat => nz
        replace CW : Hid (ChW w (W0.drewN nz) v L) := CW.out.call ⟨rfl, rfl, rfl, Nat.le_refl _, fun _ _ => rfl⟩
        generalize W0.drewN nz = W9 at CW ⊢
        clear nz
        rename World => W0
        have x9 := (HXA.out _ CW.out.bel).1
        have hl9 := HLEN.out
        have hs9 := CW.out.bel.size
        go_wp2_with (at_builtin; (refine wpList_append_own _ rfl _ _ 27 rfl w.heap.size 9 i0 _ 1 16 Tryd.underlying27 hi hz0 hz1 hz2 rfl (by decide) _ _ _ rfl (World.ownsRow.alloc CW.out.own _) ⟨W0.heap.size, 0, none⟩ 1 1 [_] rfl rfl (cell_one_at rfl) ?k2 ?k3 ?k4 ?k5 ?_))
        case k2 => exact oneSt
        case k3 => unfold maxLen; omega
        case k4 => omega
        case k5 => rw [World.size_alloc]; omega
        intro v' w6 hown' hgrow _
        have CW6 : Hid (ChW w w6 v' (L ++ [pa])) := ⟨by simpa only [List.length_append, List.length_singleton, List.length_cons, List.length_nil, stC_snoc] using hown', (CW.out.bel.alloc CW.out.bel.size _).grown hgrow (by rw [World.size_alloc]; omega) (fun k hk => (CW.out.own.lt k hk).1)⟩
        have HL6 : Hid ((L ++ [pa]).length ≤ i + 1 + k) := by
          show _ ≤ _
          rw [List.length_append]
          have e : [pa].length = 1 := rfl
          omega
        clear hown' hgrow hs9 hl9 x9 CW
        go_wp2_with fail
        go_roundw
        case rel => exact ⟨i + 1, k, _, _, by go_num, by go_num, rfl, HMG1, HL6, CW6⟩
        case measure => simp [trI]; have := HIK.out; omega
    · obtain rfl : i = n := by omega
      by_cases hkt : k < m
      · have hktI : (k : Int) < (m : Int) := by omega
        have hne2 : ((k : Int) == (m : Int)) = false := by rw [beq_eq_false_iff_ne]; omega
        obtain ⟨eb, hrow⟩ := HRB.out _ CW.out.bel (by omega)
        subst eb
        obtain ⟨r, hr⟩ : ∃ r, r = 4 * k := ⟨_, rfl⟩
        have hkr : k * 4 = r := by omega
        have HXB : Hid (∀ wd, Below w.heap.size w wd → wd.cell? ⟨h, r, none⟩ = some (.string (G k).p) ∧ wd.cell? ⟨h, r + 1, none⟩ = some (.bool (G k).r) ∧ wd.cell? ⟨h, r + 2, none⟩ = some (.int .i64 (G k).m) ∧ wd.cell? ⟨h, r + 3, none⟩ = some (.string (G k).d)) := fun wd hb => by
          have hr2 := (HRB.out wd hb (by omega)).2
          rw [hr]
          exact ⟨hr2.c0 k hkt, hr2.c1 k hkt, hr2.c2 k hkt, hr2.c3 k hkt⟩
        clear hr hrow
        have HMG1 : Hid (MgI F i G m i (k + 1) (L ++ [(G k).p])) := HMG.out.b HDF.out.2 HDG.out.2 hkt (fun h => absurd h hlt)
        have HLK := hidT hkt
        obtain ⟨pb, hpb⟩ : ∃ x, x = (G k).p := ⟨_, rfl⟩
        rw [← hpb] at HXB HMG1
        clear hpb HMG hin hkm hlt hkt
        go_wp2_with fail
        go_quiet (fail)
        rename Nat => nz
        replace CW : Hid (ChW w (W0.drewN nz) v L) := CW.out.call ⟨rfl, rfl, rfl, Nat.le_refl _, fun _ _ => rfl⟩
        generalize W0.drewN nz = W9 at CW ⊢
        clear nz
        rename World => W0
        go_wp2_with fail
        go_quiet (fail)
        rename Nat => nz
        replace CW : Hid (ChW w (W0.drewN nz) v L) := CW.out.call ⟨rfl, rfl, rfl, Nat.le_refl _, fun _ _ => rfl⟩
        generalize W0.drewN nz = W9 at CW ⊢
        clear nz
        rename World => W0
        have x9 := (HXB.out _ CW.out.bel).1
        have hl9 := HLEN.out
        have hs9 := CW.out.bel.size
        go_wp2_with (at_builtin; (refine wpList_append_own _ rfl _ _ 27 rfl w.heap.size 9 i0 _ 1 16 Tryd.underlying27 hi hz0 hz1 hz2 rfl (by decide) _ _ _ rfl (World.ownsRow.alloc CW.out.own _) ⟨W0.heap.size, 0, none⟩ 1 1 [_] rfl rfl (cell_one_at rfl) ?k2 ?k3 ?k4 ?k5 ?_))
        case k2 => exact oneSt
        case k3 => unfold maxLen; omega
        case k4 => omega
        case k5 => rw [World.size_alloc]; omega
        intro v' w6 hown' hgrow _
        have CW6 : Hid (ChW w w6 v' (L ++ [pb])) := ⟨by simpa only [List.length_append, List.length_singleton, List.length_cons, List.length_nil, stC_snoc] using hown', (CW.out.bel.alloc CW.out.bel.size _).grown hgrow (by rw [World.size_alloc]; omega) (fun k hk => (CW.out.own.lt k hk).1)⟩
        have HL6 : Hid ((L ++ [pb]).length ≤ i + (k + 1)) := by
          show _ ≤ _
          rw [List.length_append]
          have e : [pb].length = 1 := rfl
          omega
        clear hown' hgrow hs9 hl9 x9 CW
        go_wp2_with fail
        go_roundw
        case rel => exact ⟨i, k + 1, _, _, by go_num, by go_num, rfl, HMG1, HL6, CW6⟩
        case measure => simp [trI]; have := HIK.out; omega
      · obtain rfl : k = m := by omega
        have HLL : Hid (chL F i G k = L) := by
          show _ = _
          rw [chL_yes ⟨HDF.out, HDG.out⟩]
          exact (chP_srt HDF.out.2 HDG.out.2).one HMG.out.done
        obtain ⟨va, vc, hv⟩ := ownSt_slice CW.out.own
        subst hv
        clear HMG hin hkm hlt hkt
        go_wp2_with fail
        go_ret
        exact ⟨⟨_, rfl, by rw [HLL.out]; exact CW.out.own⟩, CW.out.bel⟩

set_option maxRecDepth 100000 in
theorem schg_no (va vb : Value) (n m : Nat) (F G : Nat → NdI) (w : World) (hF : NdLe F n) (hG : NdLe G m) (hd : ¬ (ndR F n ∧ ndR G m)) (ha : NdArg w va n F) (hb : NdArg w vb m G) :
    Calls Tryd.prog 9 #[va, vb] w fun e w' => (∃ v, e = .returned v ∧ w'.ownsRow w.heap.size 9 1 v (chL F n G m).length (stC (chL F n G m))) ∧ Below w.heap.size w w' := by
  have HTA : Hid (∀ w', Below w.heap.size w w' → Calls Tryd.prog 10 #[va] w' fun e w'' => e = .returned (.bool (ndB F n)) ∧ Below w'.heap.size w' w'') := fun w' h => streeOk_any _ n F w' hF (ha.below h)
  have HTB : Hid (∀ w', Below w.heap.size w w' → Calls Tryd.prog 10 #[vb] w' fun e w'' => e = .returned (.bool (ndB G m)) ∧ Below w'.heap.size w' w'') := fun w' h => streeOk_any _ m G w' hG (hb.below h)
  have HB0 : Hid (ChW w (w.alloc (.cells #[] 9)) (.slice (some ⟨w.heap.size, 0, none⟩) 0 0) []) := ⟨⟨rfl, Or.inr ⟨w.heap.size, 0, #[], rfl, Nat.le_refl _, heap_alloc_new _ _, Nat.le_refl _, by unfold maxLen; omega, rfl, rfl⟩⟩, (Below.refl _ _).alloc (Nat.le_refl _) _⟩
  have HCH : Hid (chL F n G m = []) := chL_no hd
  obtain ⟨a, c, rfl, _⟩ := ha
  obtain ⟨b, d, rfl, _⟩ := hb
  by_cases hdF : ndR F n
  · rw [ndB_yes hdF] at HTA
    rw [ndB_no fun h => hd ⟨hdF, h⟩] at HTB
    clear hd hdF hF hG
    go_enter Tryd.func9, Tryd.ntmps9
    go_wp2_with fail
    refine (HTA.out _ HB0.out.bel).mono ?_
    rintro e w1 ⟨rfl, hb1⟩
    have HB1 := hidT (HB0.out.call hb1)
    clear hb1 HB0
    go_wp2_with fail
    refine (HTB.out _ HB1.out.bel).mono ?_
    rintro e w2 ⟨rfl, hb2⟩
    have HB2 := hidT (HB1.out.call hb2)
    clear hb2 HB1
    go_wp2_with fail
    go_ret
    exact ⟨⟨_, rfl, by rw [HCH.out]; exact HB2.out.own⟩, HB2.out.bel⟩
  · rw [ndB_no hdF] at HTA
    clear hd hdF hF hG
    go_enter Tryd.func9, Tryd.ntmps9
    go_wp2_with fail
    refine (HTA.out _ HB0.out.bel).mono ?_
    rintro e w1 ⟨rfl, hb1⟩
    have HB1 := hidT (HB0.out.call hb1)
    clear hb1 HB0
    go_wp2_with fail
    go_ret
    exact ⟨⟨_, rfl, by rw [HCH.out]; exact HB1.out.own⟩, HB1.out.bel⟩
theorem schg_any (va vb : Value) (n m : Nat) (F G : Nat → NdI) (w : World) (hF : NdLe F n) (hG : NdLe G m) (ha : NdArg w va n F) (hb : NdArg w vb m G) :
    Calls Tryd.prog 9 #[va, vb] w fun e w' => (∃ v, e = .returned v ∧ w'.ownsRow w.heap.size 9 1 v (chL F n G m).length (stC (chL F n G m))) ∧ Below w.heap.size w w' := by
  by_cases hd : ndR F n ∧ ndR G m
  · obtain ⟨a, c, rfl, hr⟩ := ha
    obtain ⟨b, d, rfl, hs⟩ := hb
    obtain ⟨g, hg⟩ : ∃ g, 0 < n → a = some ⟨g, 0, none⟩ ∧ NdRow w g n F := by
      by_cases h0 : 0 < n
      · obtain ⟨g, h1, h2⟩ := hr h0; exact ⟨g, fun _ => ⟨h1, h2⟩⟩
      · exact ⟨0, fun h => absurd h h0⟩
    obtain ⟨h, hh⟩ : ∃ h, 0 < m → b = some ⟨h, 0, none⟩ ∧ NdRow w h m G := by
      by_cases h0 : 0 < m
      · obtain ⟨g, h1, h2⟩ := hs h0; exact ⟨g, fun _ => ⟨h1, h2⟩⟩
      · exact ⟨0, fun h => absurd h h0⟩
    exact schg_go g h a b c d n m F G w hF hG hd.1 hd.2 hg hh
  · exact schg_no va vb n m F G w hF hG hd ha hb
theorem chg_any (va vb : Value) (n m : Nat) (F G : Nat → NdI) (w : World) (hm : MxL w) (hF : NdLe F n) (hG : NdLe G m) (ha : NdArg w va n F) (hb : NdArg w vb m G) :
    Calls Tryd.prog 7 #[va, vb] w fun e w' => (∃ v, e = .returned v ∧ w'.ownsRow w.heap.size 9 1 v (chL F n G m).length (stC (chL F n G m))) ∧ Below w.heap.size w w' := by
  have ha' := ha
  have hb' := hb
  obtain ⟨a, c, rfl, _⟩ := ha
  obtain ⟨b, d, rfl, _⟩ := hb
  exact chg_go a b c d n m F G w hm hF hG ha' hb' (fun v L B w hL h => srt_any v L B w hL h)
end Go.Proofs.YtbmcjoaigajjkaaDoor
