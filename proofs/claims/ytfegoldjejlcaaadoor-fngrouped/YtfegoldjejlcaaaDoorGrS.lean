/-
  Grouped: the specification's; both at whatever list.
-/
import Derived.Test.YtfegoldjejlcaaaDoorGrC
import Derived.Test.YtfegoldjejlcaaaDoorMbS
namespace Go.Proofs.YtfegoldjejlcaaaDoor
open Go.RowKit
set_option linter.unusedVariables false
set_option linter.unusedSimpArgs false
set_option maxRecDepth 100000 in
set_option maxHeartbeats 2000000 in
theorem ahead_any (a b : ByteArray) (w : World) (ha : a.size ≤ 1100000) (hb : b.size ≤ 1100000) :
    Calls Tryd.prog 66 #[.string a, .string b] w fun e w' => e = .returned (.bool (gNb a b)) ∧ w' = w := by
  have HE : Hid (∀ (s : ByteArray) w, s.size ≤ 1100000 → Calls Tryd.prog 93 #[.string s] w fun e w' => e = .returned (.string (extB s)) ∧ w' = w) := fun s w h => sext_any s w (by omega)
  have HA := hidT (And.intro ha hb)
  obtain ⟨R, hR⟩ : ∃ R, R = gNb a b := ⟨_, rfl⟩
  rw [← hR]
  obtain ⟨x, hx⟩ : ∃ x, x = extB a := ⟨_, rfl⟩
  obtain ⟨y, hy⟩ : ∃ y, y = extB b := ⟨_, rfl⟩
  have HEA : Hid (∀ w, Calls Tryd.prog 93 #[.string a] w fun e w' => e = .returned (.string x) ∧ w' = w) := fun w => by rw [hx]; exact HE.out a w ha
  have HEB : Hid (∀ w, Calls Tryd.prog 93 #[.string b] w fun e w' => e = .returned (.string y) ∧ w' = w) := fun w => by rw [hy]; exact HE.out b w hb
  by_cases h1 : sL x y = true
  · have hr : R = true := by rw [hR]; exact gNb_yes (Or.inl (by rw [← hx, ← hy]; exact h1))
    subst hr
    unfold sL at h1
    clear hR hx hy ha hb HE
    go_enter Tryd.func66, Tryd.ntmps66
    go_wp2_with fail
    refine (HEA.out _).mono ?_
    rintro e w1 ⟨rfl, hw⟩
    subst w1
    go_wp2_with fail
    refine (HEB.out _).mono ?_
    rintro e w1 ⟨rfl, hw⟩
    subst w1
    go_wp2_with fail
    go_ret
    exact ⟨rfl, rfl⟩
  · have h1f : Op.bytesLess x.toList y.toList = false := by
      cases hb2 : Op.bytesLess x.toList y.toList with
      | false => rfl
      | true => exact absurd hb2 h1
    by_cases h2 : x = y
    · have hr : R = sL a b := by
        rw [hR]
        cases hs : sL a b with
        | true => exact gNb_yes (Or.inr ⟨by rw [← hx, ← hy]; exact h2, hs⟩)
        | false => exact gNb_no (by
            rintro (h | ⟨_, h⟩)
            · rw [← hx, ← hy] at h; exact h1 h
            · rw [hs] at h; cases h)
      subst h2
      rw [hr]
      unfold sL
      clear hR hx hy ha hb HE h1 hr
      go_enter Tryd.func66, Tryd.ntmps66
      go_wp2_with fail
      refine (HEA.out _).mono ?_
      rintro e w1 ⟨rfl, hw⟩
      subst w1
      go_wp2_with fail
      refine (HEB.out _).mono ?_
      rintro e w1 ⟨rfl, hw⟩
      subst w1
      go_wp2_with fail
      go_ret
      exact ⟨rfl, rfl⟩
    · have hr : R = false := by
        rw [hR]
        exact gNb_no (by
          rintro (h | ⟨h, _⟩)
          · rw [← hx, ← hy] at h; exact h1 h
          · rw [← hx, ← hy] at h; exact h2 h)
      subst hr
      have h3 : (x.toList == y.toList) = false := by
        rw [beq_eq_false_iff_ne]
        exact fun e => h2 (gba_list e)
      clear hR hx hy ha hb HE h1 h2
      go_enter Tryd.func66, Tryd.ntmps66
      go_wp2_with fail
      refine (HEA.out _).mono ?_
      rintro e w1 ⟨rfl, hw⟩
      subst w1
      go_wp2_with fail
      refine (HEB.out _).mono ?_
      rintro e w1 ⟨rfl, hw⟩
      subst w1
      go_wp2_with fail
      go_ret
      exact ⟨rfl, rfl⟩
theorem mbC_app (A B : List MbI) : mbC (A ++ B) = mbC A ++ mbC B := by simp [mbC]
theorem mbC_one : ∀ (L : List MbI), ∀ u ∈ mbC L, u.oneCell' = true
  | [], u, h => absurd h (by simp [mbC])
  | p :: L, u, h => by
    have e : mbC (p :: L) = [.string p.a, .string p.d] ++ mbC L := rfl
    rw [e, List.mem_append] at h
    rcases h with h | h
    · exact mb_two _ _ u h
    · exact mbC_one L u h
theorem news_take {W : World} {B gv cp t : Nat} {L : List MbI} (ho : W.ownsRow B 46 2 (.slice (some ⟨gv, 0, none⟩) L.length cp) L.length (mbC L)) (j : Nat) (u : Value) (h : (mbC (L.take t))[j]? = some u) : W.cell? ((⟨gv, 0, none⟩ : Addr).add j) = some u := by
  have hj : j < (mbC (L.take t)).length := by
    rcases Nat.lt_or_ge j (mbC (L.take t)).length with h2 | h2
    · exact h2
    · rw [List.getElem?_eq_none h2] at h; cases h
  have e : mbC L = mbC (L.take t) ++ mbC (L.drop t) := by rw [← mbC_app, List.take_append_drop]
  have h2 : (mbC L)[j]? = some u := by rw [e, List.getElem?_append_left hj]; exact h
  have h3 := mbC_len (L.take t)
  have h4 : (L.take t).length ≤ L.length := by rw [List.length_take]; omega
  have h5 := ho.cellAt j (by omega)
  rw [show ((⟨gv, 0, none⟩ : Addr).add j) = ⟨gv, j, none⟩ from by
    by_cases h : j = 0
    · subst h; rfl
    · unfold Addr.add; rw [if_neg h]; try simp, h5]
  exact h2
theorem news_drop {W : World} {B gv cp t : Nat} {L : List MbI} (ho : W.ownsRow B 46 2 (.slice (some ⟨gv, 0, none⟩) L.length cp) L.length (mbC L)) (ht : t ≤ L.length) (j : Nat) (u : Value) (h : (mbC (L.drop t))[j]? = some u) : W.cell? ((⟨gv, t * 2, none⟩ : Addr).add j) = some u := by
  have hj : j < (mbC (L.drop t)).length := by
    rcases Nat.lt_or_ge j (mbC (L.drop t)).length with h2 | h2
    · exact h2
    · rw [List.getElem?_eq_none h2] at h; cases h
  have e : mbC L = mbC (L.take t) ++ mbC (L.drop t) := by rw [← mbC_app, List.take_append_drop]
  have h1 : (mbC (L.take t)).length = t * 2 := by rw [mbC_len, List.length_take, Nat.min_eq_left ht]; omega
  have h2 : (mbC L)[t * 2 + j]? = some u := by
    rw [e, List.getElem?_append_right (by omega), h1]
    rw [show t * 2 + j - t * 2 = j by omega]
    exact h
  have h3 := mbC_len (L.drop t)
  have h4 : (L.drop t).length = L.length - t := List.length_drop ..
  have h5 := ho.cellAt (t * 2 + j) (by omega)
  rw [show ((⟨gv, t * 2, none⟩ : Addr).add j) = ⟨gv, t * 2 + j, none⟩ from by
    by_cases h : j = 0
    · subst h; rfl
    · unfold Addr.add; rw [if_neg h]; try simp, h5]
  exact h2
theorem nil_news {W : World} {a : Addr} : ∀ (j : Nat) (u : Value), ([] : List Value)[j]? = some u → W.cell? (a.add j) = some u := fun j u h => by simp at h
theorem nil_len (t : Nat) : ([] : List Value).length = (t - t) * 2 := by simp
theorem nil_one : ∀ u ∈ ([] : List Value), u.oneCell' = true := fun u h => by simp at h
theorem own_blockK {w w' : World} {B z : Nat} {e : TypeId} {v : Value} {n : Nat} {xs : List Value} (h : w.ownsRow B e z v n xs) (hb : ∀ k, v.ownBlock = some k → w'.heap[k]? = w.heap[k]?) : w'.ownsRow B e z v n xs := by
  obtain ⟨h0, h1 | ⟨g, cap, cur, h1, h2, h3, h4, h5, h6, h7⟩⟩ := h
  · exact ⟨h0, Or.inl h1⟩
  · subst h1
    exact ⟨h0, Or.inr ⟨g, cap, cur, rfl, h2, (hb g rfl).trans h3, h4, h5, h6, h7⟩⟩
set_option maxRecDepth 100000 in
set_option maxHeartbeats 8000000 in
theorem sgrp_yes (a : Option Addr) (c n : Nat) (F : Nat → MbI) (w : World) (hF : MbLe F n) (hd : mbR F n) (h : MbArg w (.slice a n c) n F) :
    Calls Tryd.prog 24 #[.slice a n c] w fun e w' => (∃ v, e = .returned v ∧ w'.ownsRow w.heap.size 46 2 v (grL F n).length (mbC (grL F n))) ∧ Below w.heap.size w w' := by
  have HA : Hid (∀ w', Below w.heap.size w w' → MbArg w' (.slice a n c) n F) := fun w' hb => h.below hb
  have HOK : Hid (∀ w', Below w.heap.size w w' → Calls Tryd.prog 25 #[.slice a n c] w' fun e w'' => e = .returned (.bool true) ∧ Below w'.heap.size w' w'') := fun w' hb => by
    have := smbs_any _ n F w' hF (h.below hb)
    rw [mbB_yes hd] at this
    exact this
  have HAH : Hid (∀ (a b : ByteArray) w, a.size ≤ 1100000 → b.size ≤ 1100000 → Calls Tryd.prog 66 #[.string a, .string b] w fun e w' => e = .returned (.bool (gNb a b)) ∧ w' = w) := ahead_any
  have HGL : Hid (grL F n = gL F n) := grL_yes hd
  have HD := hidT hd
  have HN : Hid (∀ i, i < n → (F i).a.size ≤ 1100000 ∧ (F i).d.size ≤ 1100000) := fun i hi => hF.n hi
  have hnI : (n : Int) ≤ 60 := by have := hd.1; omega
  obtain ⟨i0, hi, hz0, hz1, hz2⟩ := info_parts Tryd.infMbG
  have HB0 : Hid (GW w (w.alloc (.cells #[] 46)) (.slice (some ⟨w.heap.size, 0, none⟩) 0 0) []) := ⟨World.ownsRow_made (e := 46) (size := 2) w #[] 0 (Nat.le_refl _) (by unfold maxLen; omega) rfl, (Below.refl _ _).alloc (Nat.le_refl _) _⟩
  clear hF hd h
  go_enter Tryd.func24, Tryd.ntmps24
  go_wp2_with fail
  refine (HOK.out _ HB0.out.bel).mono ?_
  rintro e w1 ⟨rfl, hb1⟩
  have HS1 := hidT (HB0.out.call hb1)
  clear hb1 HB0 HOK
  go_wp2_with fail
  go_loopw [3, 4] (fun v x wr => ∃ (i gv cp : Nat), i ≤ n ∧ x = .int .i64 (i : Int) ∧ v = .slice (some ⟨gv, 0, none⟩) i cp ∧ Hid (GW w wr (.slice (some ⟨gv, 0, none⟩) (gL F i).length cp) (gL F i))) (fun _ x _ => n - (intMb x).toNat)
  case atStart => exact ⟨0, _, _, by omega, rfl, rfl, HS1⟩
  case round =>
    clear HS1
    rename World => wr
    obtain ⟨i, gv, cp, hi2, rfl, rfl, GS⟩ := hrel
    by_cases hlt : i < n
    · have hltI : (i : Int) < (n : Int) := by omega
      have HLT := hidT hlt
      have HSZ := hidT (HN.out i hlt)
      obtain ⟨p, hp⟩ : ∃ p, p = F i := ⟨_, rfl⟩
      have HP := hidT hp
      obtain ⟨L, hL⟩ : ∃ L, L = gL F i := ⟨_, rfl⟩
      have HL := hidT hL
      have hll : L.length = i := by rw [hL, gL_len]
      rw [← hL] at GS
      rw [← hp] at HSZ
      have HLS : Hid (∀ j, j < L.length → (mbF L j).a.size ≤ 1100000) := fun j hj => by
        rw [mbF_at hj]
        have : L[j] ∈ gL F i := by rw [← hL]; exact List.getElem_mem hj
        obtain ⟨k, hk, e⟩ := (gL_mem F _ i).1 this
        rw [← e]
        exact (HN.out k (by omega)).1
      have hlc : L.length ≤ cp := by
        obtain ⟨_, h1 | ⟨_, cap, _, h1, _, _, h4, _⟩⟩ := GS.out.own
        · exact absurd h1.1 (by simp)
        · cases h1; omega
      have HXA : Hid (∀ wd, Below w.heap.size w wd → ∃ g, a = some ⟨g, 0, none⟩ ∧ wd.cell? ⟨g, 2 * i, none⟩ = some (.string p.a) ∧ wd.cell? ⟨g, 2 * i + 1, none⟩ = some (.string p.d)) := fun wd hb => by
        obtain ⟨a2, c2, e2, hr1⟩ := HA.out wd hb
        obtain ⟨g, e3, hr⟩ := hr1 (by omega)
        cases e2
        exact ⟨g, e3, by rw [hp]; exact hr.c0 i hlt, by rw [hp]; exact hr.c1 i hlt⟩
      obtain ⟨g, ea, _⟩ := HXA.out _ GS.out.bel
      subst ea
      obtain ⟨q, hq⟩ : ∃ q, q = 2 * i := ⟨_, rfl⟩
      have hiq : i * 2 = q := by omega
      have HXQ : Hid (∀ wd, Below w.heap.size w wd → wd.cell? ⟨g, q, none⟩ = some (.string p.a) ∧ wd.cell? ⟨g, q + 1, none⟩ = some (.string p.d)) := fun wd hb => by
        obtain ⟨g2, e2, h1, h2⟩ := HXA.out wd hb
        cases e2
        rw [hq]
        exact ⟨h1, h2⟩
      obtain ⟨pa, pd⟩ := p
      simp only at HXQ HSZ
      have hlI : ((L.length : Nat) : Int) = (i : Int) := by omega
      have HLI := hidT hll
      have hlt2 := hidT hlc
      clear hp hL hq HXA hlI hlc hlt
      go_wp2_with fail
      go_loopw [5] (fun y wq => ∃ t : Nat, t ≤ i ∧ y = .int .i64 (t : Int) ∧ Hid (∀ j, j < t → gN (mbF L j).a pa) ∧ Hid (GW w wq (.slice (some ⟨gv, 0, none⟩) L.length cp) L)) (fun y _ => i - (intMb y).toNat)
      case atStart => exact ⟨0, by omega, rfl, fun j hj => absurd hj (by omega), GS⟩
      case round =>
        clear GS
        rename World => W0
        obtain ⟨t, ht, rfl, HLO, GS⟩ := hrel
        have hlc := hlt2.out
        by_cases htl : t < i
        · have htI : (t : Int) < (i : Int) := by omega
          have HTI := hidT htl
          have hr := own2_arg GS.out.own
          obtain ⟨a3, c3, e3, hr1⟩ := hr
          obtain ⟨g3, e4, hr2⟩ := hr1 (by omega)
          cases e3
          cases e4
          obtain ⟨u, hu⟩ : ∃ u, u = 2 * t := ⟨_, rfl⟩
          have htu : t * 2 = u := by omega
          have y0 := hr2.c0 t (by omega)
          rw [← hu] at y0
          have x0 := (HXQ.out _ GS.out.bel).1
          have HSA := hidT (HLS.out t (by omega))
          have hne : ∃ y, y = (mbF L t).a := ⟨_, rfl⟩
          obtain ⟨ya, hya⟩ := hne
          rw [← hya] at y0 HSA
          have HYA := hidT hya
          clear hu hr1 hr2 hya
          by_cases hg : gN ya pa
          · have HAA : Hid (∀ w, Calls Tryd.prog 66 #[.string ya, .string pa] w fun e w' => e = .returned (.bool true) ∧ w' = w) := fun w => by
              have := HAH.out ya pa w HSA.out HSZ.out.1
              rw [gNb_yes hg] at this
              exact this
            have HLO2 : Hid (∀ j, j < t + 1 → gN (mbF L j).a pa) := fun j hj => by
              by_cases e : j = t
              · subst e; rw [← HYA.out]; exact hg
              · exact HLO.out j (by omega)
            clear hg HLO
            go_wp2_with fail
            go_quiet ((go_at_call 66; exact Calls.quiet_of_same (HAA.out _)))
            rename Nat => nz
            have GD : Hid (GW w (W0.drewN nz) (.slice (some ⟨gv, 0, none⟩) L.length cp) L) := GS.out.call ⟨rfl, rfl, rfl, Nat.le_refl _, fun _ _ => rfl⟩
            generalize W0.drewN nz = W9 at GD ⊢
            clear x0 y0 GS
            go_wp2_with fail
            go_roundw
            case rel => exact ⟨t + 1, by have := HTI.out; omega, by go_num, HLO2, GD⟩
            case measure => simp [intMb]; have := HTI.out; omega
          · have HAA : Hid (∀ w, Calls Tryd.prog 66 #[.string ya, .string pa] w fun e w' => e = .returned (.bool false) ∧ w' = w) := fun w => by
              have := HAH.out ya pa w HSA.out HSZ.out.1
              rw [gNb_no hg] at this
              exact this
            have HG : Hid (gAt L ⟨pa, pd⟩ = t) := gAt_is (fun j h hj => by have := HLO.out j hj; rw [mbF_at h] at this; exact this) (by omega) (fun h c => hg (by rw [HYA.out, mbF_at h]; exact c))
            clear hg HLO
            go_wp2_with fail
            go_quiet ((go_at_call 66; exact Calls.quiet_of_same (HAA.out _)))
            rename Nat => nz
            replace GS : Hid (GW w (W0.drewN nz) (.slice (some ⟨gv, 0, none⟩) L.length cp) L) := GS.out.call ⟨rfl, rfl, rfl, Nat.le_refl _, fun _ _ => rfl⟩
            generalize W0.drewN nz = W9 at GS ⊢
            clear x0 y0 htI htu
            clear nz
            rename World => W0
            have HAT : Hid (gL F (i + 1) = L.take t ++ [⟨pa, pd⟩] ++ L.drop t) := by
              show gIns (gL F i) (F i) = _
              rw [← HL.out, ← HP.out]
              unfold gIns
              rw [HG.out]
            have HB0 := hidT (GS.out.bel.alloc GS.out.bel.size (.cells #[] 46))
            have hown0 : (W0.alloc (.cells #[] 46)).ownsRow W0.heap.size 46 2 (.slice (some ⟨W0.heap.size, 0, none⟩) 0 0) 0 [] := World.ownsRow_made (e := 46) (size := 2) W0 #[] 0 (Nat.le_refl _) (by unfold maxLen; omega) rfl
            have HNT := hidT (news_take (t := t) (own2_call GS.out.own ((Below.refl _ _).alloc (Nat.le_refl _) (.cells #[] 46))))
            have htc : (t : Int) ≤ (cp : Int) := by omega
            have hti : (t : Int) ≤ (i : Int) := by omega
            have HTT := hidT (show t ≤ i by omega)
            have hntk : (mbC (L.take t)).length = t * 2 := by rw [mbC_len, List.length_take, Nat.min_eq_left (by omega)]; omega
            have HNK := hidT hntk
            have HGV := hidT (GS.out.own.lt gv rfl).2
            have hti6 : t ≤ 60 := by omega
            have HWZ := hidT GS.out.bel.size
            clear hntk
            go_wp2_with (at_builtin; (refine wpList_append_own _ rfl _ _ 40 rfl W0.heap.size 46 i0 _ 2 32 Tryd.underlying40 hi hz0 hz1 hz2 rfl (by decide) _ _ _ rfl hown0 ⟨gv, 0, none⟩ t cp (mbC (L.take t)) rfl HNK.out HNT.out (mbC_one _) ?k3 ?k4 ?k5 ?_))
            case k3 => unfold maxLen; omega
            case k4 => omega
            case k5 => rw [World.size_alloc]; omega
            intro v6 w6 hown6 hgrow6 _
            have hb6 : Below w.heap.size w w6 := HB0.out.grown hgrow6 (by rw [World.size_alloc]; have := HWZ.out; omega) (fun k hk => by have e1 : W0.heap.size = k := Option.some.inj hk; have := HWZ.out; omega)
            have HO6 : Hid (w6.ownsRow w.heap.size 46 2 (.slice (some ⟨gv, 0, none⟩) L.length cp) L.length (mbC L)) := own_blockK (own2_call GS.out.own ((Below.refl _ _).alloc (Nat.le_refl _) (.cells #[] 46))) (fun k hk => hgrow6.block k (by have e1 : gv = k := Option.some.inj hk; rw [World.size_alloc]; have := HGV.out; omega) (fun e => by have h1 : gv = k := Option.some.inj hk; have h2 : k = W0.heap.size := Option.some.inj e; have := HGV.out; omega))
            have HB6 := hidT hb6
            have hz6 : W0.heap.size < w6.heap.size := by have := hgrow6.size; rw [World.size_alloc] at this; omega
            obtain ⟨x0, x1⟩ := HXQ.out w6 hb6
            clear hb6 hgrow6 hown0 GS HB0 HNT
            have HZ6 := hidT hz6
            have HWN6 := hidT hown6
            go_wp2_with (at_builtin; (refine wpList_append_own _ rfl _ _ 40 rfl W0.heap.size 46 i0 _ 2 32 Tryd.underlying40 hi hz0 hz1 hz2 rfl (by decide) _ _ _ rfl (World.ownsRow.alloc HWN6.out _) ⟨w6.heap.size, 0, none⟩ 1 1 [_, _] rfl rfl (cell_twoG rfl) (mb_two _ _) ?m3 ?m4 ?m5 ?_))
            case m3 => unfold maxLen; omega
            case m4 => omega
            case m5 => rw [World.size_alloc]; omega
            intro v7 w7 hown7 hgrow7 _
            have hb7 : Below w.heap.size w w7 := (HB6.out.alloc HB6.out.size _).grown hgrow7 (by rw [World.size_alloc]; have := HB6.out.size; omega) (fun k hk => by have := (HWN6.out.lt k hk).1; have := HWZ.out; omega)
            have HO7 : Hid (w7.ownsRow w.heap.size 46 2 (.slice (some ⟨gv, 0, none⟩) L.length cp) L.length (mbC L)) := own_blockK (own2_call HO6.out ((Below.refl _ _).alloc (Nat.le_refl _) _)) (fun k hk => hgrow7.block k (by have e1 : gv = k := Option.some.inj hk; rw [World.size_alloc]; have := HGV.out; have := HZ6.out; omega) (fun e => by have h1 : gv = k := Option.some.inj hk; have h2 := (HWN6.out.lt k e.symm).1; have := HGV.out; omega))
            have HB7 := hidT hb7
            have HZ7 : Hid (W0.heap.size < w7.heap.size) := by have := hgrow7.size; rw [World.size_alloc] at this; show _ < _; omega
            have HND := hidT (news_drop (t := t) HO7.out (by have := HLI.out; have := HTT.out; omega))
            have HWN7 := hidT hown7
            have hndl : (mbC (L.drop t)).length = (i - t) * 2 := by rw [mbC_len, List.length_drop]; have := HLI.out; omega
            have HNL := hidT hndl
            clear hb7 hgrow7 hown7 HO6 hz6 x0 x1 hndl HB6
            go_wp2_with (at_builtin; (refine wpList_append_own _ rfl _ _ 40 rfl W0.heap.size 46 i0 _ 2 32 Tryd.underlying40 hi hz0 hz1 hz2 rfl (by decide) _ _ _ rfl HWN7.out ⟨gv, t * 2, none⟩ (i - t) (cp - t) (mbC (L.drop t)) rfl HNL.out HND.out (mbC_one _) ?n3 ?n4 ?n5 ?_))
            case n3 => unfold maxLen; omega
            case n4 => omega
            case n5 => have := HZ7.out; omega
            intro v8 w8 hown8 hgrow8 _
            have hb8 : Below w.heap.size w w8 := HB7.out.grown hgrow8 (by have := HZ7.out; have := HWZ.out; omega) (fun k hk => by have := (HWN7.out.lt k hk).1; have := HWZ.out; omega)
            have ho8 : w8.ownsRow w.heap.size 46 2 v8 (i + 1) (mbC (gL F (i + 1))) := by
              have e1 : mbC (L.take t) ++ .string pa :: .string pd :: mbC (L.drop t) = mbC (gL F (i + 1)) := by
                rw [HAT.out, mbC_app, mbC_app, List.append_assoc]
                rfl
              have e2 : t + 1 + (i - t) = i + 1 := by have := HTT.out; omega
              rw [← e1, ← e2]
              exact own2_base hown8 HWZ.out
            obtain ⟨g8, c8, _, e8, _⟩ := own2_form ho8 (by omega)
            subst e8
            have GS8 : Hid (GW w w8 (.slice (some ⟨g8, 0, none⟩) (gL F (i + 1)).length c8) (gL F (i + 1))) := ⟨by rw [gL_len]; exact ho8, hb8⟩
            clear ho8 hb8 hown8 hgrow8
            go_wp2_with fail
            go_roundw
            case rel => exact ⟨i + 1, g8, c8, by have := HLT.out; omega, by go_num, rfl, GS8⟩
            case measure => simp [intMb]; have := HLT.out; omega
        · obtain rfl : t = i := by omega
          have HG : Hid (gAt L ⟨pa, pd⟩ = t) := gAt_is (fun j h hj => by have := HLO.out j hj; rw [mbF_at h] at this; exact this) (by have := HLI.out; omega) (fun h => absurd h (by have := HLI.out; omega))
          clear HLO htl
          go_wp2_with fail
          go_quiet (fail)
          rename Nat => nz
          replace GS : Hid (GW w (W0.drewN nz) (.slice (some ⟨gv, 0, none⟩) L.length cp) L) := GS.out.call ⟨rfl, rfl, rfl, Nat.le_refl _, fun _ _ => rfl⟩
          generalize W0.drewN nz = W9 at GS ⊢
          clear nz
          rename World => W0
          by_cases hcp : t < cp
          · have hcpn : ¬ cp = t := by omega
            have hcpI : (t : Int) < (cp : Int) := by omega
            have HAT : Hid (gL F (t + 1) = L.take t ++ [⟨pa, pd⟩] ++ L.drop t) := by
              show gIns (gL F t) (F t) = _
              rw [← HL.out, ← HP.out]
              unfold gIns
              rw [HG.out]
            have HB0 := hidT (GS.out.bel.alloc GS.out.bel.size (.cells #[] 46))
            have hown0 : (W0.alloc (.cells #[] 46)).ownsRow W0.heap.size 46 2 (.slice (some ⟨W0.heap.size, 0, none⟩) 0 0) 0 [] := World.ownsRow_made (e := 46) (size := 2) W0 #[] 0 (Nat.le_refl _) (by unfold maxLen; omega) rfl
            have HNT := hidT (news_take (t := t) (own2_call GS.out.own ((Below.refl _ _).alloc (Nat.le_refl _) (.cells #[] 46))))
            have htc : (t : Int) ≤ (cp : Int) := by omega
            have hti : (t : Int) ≤ (t : Int) := by omega
            have HTT := hidT (show t ≤ t by omega)
            have hntk : (mbC (L.take t)).length = t * 2 := by rw [mbC_len, List.length_take, Nat.min_eq_left (by omega)]; omega
            have HNK := hidT hntk
            have HGV := hidT (GS.out.own.lt gv rfl).2
            have hti6 : t ≤ 60 := by omega
            have HWZ := hidT GS.out.bel.size
            clear hntk
            go_wp2_with (at_builtin; (refine wpList_append_own _ rfl _ _ 40 rfl W0.heap.size 46 i0 _ 2 32 Tryd.underlying40 hi hz0 hz1 hz2 rfl (by decide) _ _ _ rfl hown0 ⟨gv, 0, none⟩ t cp (mbC (L.take t)) rfl HNK.out HNT.out (mbC_one _) ?k3 ?k4 ?k5 ?_))
            case k3 => unfold maxLen; omega
            case k4 => omega
            case k5 => rw [World.size_alloc]; omega
            intro v6 w6 hown6 hgrow6 _
            have hb6 : Below w.heap.size w w6 := HB0.out.grown hgrow6 (by rw [World.size_alloc]; have := HWZ.out; omega) (fun k hk => by have e1 : W0.heap.size = k := Option.some.inj hk; have := HWZ.out; omega)
            have HO6 : Hid (w6.ownsRow w.heap.size 46 2 (.slice (some ⟨gv, 0, none⟩) L.length cp) L.length (mbC L)) := own_blockK (own2_call GS.out.own ((Below.refl _ _).alloc (Nat.le_refl _) (.cells #[] 46))) (fun k hk => hgrow6.block k (by have e1 : gv = k := Option.some.inj hk; rw [World.size_alloc]; have := HGV.out; omega) (fun e => by have h1 : gv = k := Option.some.inj hk; have h2 : k = W0.heap.size := Option.some.inj e; have := HGV.out; omega))
            have HB6 := hidT hb6
            have hz6 : W0.heap.size < w6.heap.size := by have := hgrow6.size; rw [World.size_alloc] at this; omega
            obtain ⟨x0, x1⟩ := HXQ.out w6 hb6
            clear hb6 hgrow6 hown0 GS HB0 HNT
            have HZ6 := hidT hz6
            have HWN6 := hidT hown6
            go_wp2_with (at_builtin; (refine wpList_append_own _ rfl _ _ 40 rfl W0.heap.size 46 i0 _ 2 32 Tryd.underlying40 hi hz0 hz1 hz2 rfl (by decide) _ _ _ rfl (World.ownsRow.alloc HWN6.out _) ⟨w6.heap.size, 0, none⟩ 1 1 [_, _] rfl rfl (cell_twoG rfl) (mb_two _ _) ?m3 ?m4 ?m5 ?_))
            case m3 => unfold maxLen; omega
            case m4 => omega
            case m5 => rw [World.size_alloc]; omega
            intro v7 w7 hown7 hgrow7 _
            have hb7 : Below w.heap.size w w7 := (HB6.out.alloc HB6.out.size _).grown hgrow7 (by rw [World.size_alloc]; have := HB6.out.size; omega) (fun k hk => by have := (HWN6.out.lt k hk).1; have := HWZ.out; omega)
            have HO7 : Hid (w7.ownsRow w.heap.size 46 2 (.slice (some ⟨gv, 0, none⟩) L.length cp) L.length (mbC L)) := own_blockK (own2_call HO6.out ((Below.refl _ _).alloc (Nat.le_refl _) _)) (fun k hk => hgrow7.block k (by have e1 : gv = k := Option.some.inj hk; rw [World.size_alloc]; have := HGV.out; have := HZ6.out; omega) (fun e => by have h1 : gv = k := Option.some.inj hk; have h2 := (HWN6.out.lt k e.symm).1; have := HGV.out; omega))
            have HB7 := hidT hb7
            have HZ7 : Hid (W0.heap.size < w7.heap.size) := by have := hgrow7.size; rw [World.size_alloc] at this; show _ < _; omega
            have hdr : L.drop t = [] := List.drop_of_length_le (by have := HLI.out; omega)
            have HDR := hidT hdr
            have HWN7 := hidT hown7
            clear hb7 hgrow7 hown7 HO6 hz6 x0 x1 hdr HB6
            go_wp2_with (at_builtin; (refine wpList_append_own _ rfl _ _ 40 rfl W0.heap.size 46 i0 _ 2 32 Tryd.underlying40 hi hz0 hz1 hz2 rfl (by decide) _ _ _ rfl HWN7.out ⟨gv, q, none⟩ 0 (cp - t) [] rfl rfl nil_news nil_one ?n3 ?n4 ?n5 ?_))
            case n3 => unfold maxLen; omega
            case n4 => omega
            case n5 => have := HZ7.out; omega
            intro v8 w8 hown8 hgrow8 _
            have hb8 : Below w.heap.size w w8 := HB7.out.grown hgrow8 (by have := HZ7.out; have := HWZ.out; omega) (fun k hk => by have := (HWN7.out.lt k hk).1; have := HWZ.out; omega)
            have ho8 : w8.ownsRow w.heap.size 46 2 v8 (t + 1) (mbC (gL F (t + 1))) := by
              have e1 : mbC (L.take t) ++ [.string pa, .string pd] = mbC (gL F (t + 1)) := by
                rw [HAT.out, HDR.out, List.append_nil, mbC_app]
                rfl
              rw [← e1]
              exact own2_base (by simpa using hown8) HWZ.out
            obtain ⟨g8, c8, _, e8, _⟩ := own2_form ho8 (by omega)
            subst e8
            have GS8 : Hid (GW w w8 (.slice (some ⟨g8, 0, none⟩) (gL F (t + 1)).length c8) (gL F (t + 1))) := ⟨by rw [gL_len]; exact ho8, hb8⟩
            clear ho8 hb8 hown8 hgrow8
            go_wp2_with fail
            go_roundw
            case rel => exact ⟨t + 1, g8, c8, by have := HLT.out; omega, by go_num, rfl, GS8⟩
            case measure => simp [intMb]; have := HLT.out; omega
          · obtain rfl : t = cp := by have := HLI.out; omega
            have HAT : Hid (gL F (t + 1) = L.take t ++ [⟨pa, pd⟩] ++ L.drop t) := by
              show gIns (gL F t) (F t) = _
              rw [← HL.out, ← HP.out]
              unfold gIns
              rw [HG.out]
            have HB0 := hidT (GS.out.bel.alloc GS.out.bel.size (.cells #[] 46))
            have hown0 : (W0.alloc (.cells #[] 46)).ownsRow W0.heap.size 46 2 (.slice (some ⟨W0.heap.size, 0, none⟩) 0 0) 0 [] := World.ownsRow_made (e := 46) (size := 2) W0 #[] 0 (Nat.le_refl _) (by unfold maxLen; omega) rfl
            have HNT := hidT (news_take (t := t) (own2_call GS.out.own ((Below.refl _ _).alloc (Nat.le_refl _) (.cells #[] 46))))
            have htc : (t : Int) ≤ (t : Int) := by omega
            have hti : (t : Int) ≤ (t : Int) := by omega
            have HTT := hidT (show t ≤ t by omega)
            have hntk : (mbC (L.take t)).length = t * 2 := by rw [mbC_len, List.length_take, Nat.min_eq_left (by omega)]; omega
            have HNK := hidT hntk
            have HGV := hidT (GS.out.own.lt gv rfl).2
            have hti6 : t ≤ 60 := by omega
            have HWZ := hidT GS.out.bel.size
            clear hntk
            go_wp2_with (at_builtin; (refine wpList_append_own _ rfl _ _ 40 rfl W0.heap.size 46 i0 _ 2 32 Tryd.underlying40 hi hz0 hz1 hz2 rfl (by decide) _ _ _ rfl hown0 ⟨gv, 0, none⟩ t t (mbC (L.take t)) rfl HNK.out HNT.out (mbC_one _) ?k3 ?k4 ?k5 ?_))
            case k3 => unfold maxLen; omega
            case k4 => omega
            case k5 => rw [World.size_alloc]; omega
            intro v6 w6 hown6 hgrow6 _
            have hb6 : Below w.heap.size w w6 := HB0.out.grown hgrow6 (by rw [World.size_alloc]; have := HWZ.out; omega) (fun k hk => by have e1 : W0.heap.size = k := Option.some.inj hk; have := HWZ.out; omega)
            have HO6 : Hid (w6.ownsRow w.heap.size 46 2 (.slice (some ⟨gv, 0, none⟩) L.length t) L.length (mbC L)) := own_blockK (own2_call GS.out.own ((Below.refl _ _).alloc (Nat.le_refl _) (.cells #[] 46))) (fun k hk => hgrow6.block k (by have e1 : gv = k := Option.some.inj hk; rw [World.size_alloc]; have := HGV.out; omega) (fun e => by have h1 : gv = k := Option.some.inj hk; have h2 : k = W0.heap.size := Option.some.inj e; have := HGV.out; omega))
            have HB6 := hidT hb6
            have hz6 : W0.heap.size < w6.heap.size := by have := hgrow6.size; rw [World.size_alloc] at this; omega
            obtain ⟨x0, x1⟩ := HXQ.out w6 hb6
            clear hb6 hgrow6 hown0 GS HB0 HNT
            have HZ6 := hidT hz6
            have HWN6 := hidT hown6
            go_wp2_with (at_builtin; (refine wpList_append_own _ rfl _ _ 40 rfl W0.heap.size 46 i0 _ 2 32 Tryd.underlying40 hi hz0 hz1 hz2 rfl (by decide) _ _ _ rfl (World.ownsRow.alloc HWN6.out _) ⟨w6.heap.size, 0, none⟩ 1 1 [_, _] rfl rfl (cell_twoG rfl) (mb_two _ _) ?m3 ?m4 ?m5 ?_))
            case m3 => unfold maxLen; omega
            case m4 => omega
            case m5 => rw [World.size_alloc]; omega
            intro v7 w7 hown7 hgrow7 _
            have hb7 : Below w.heap.size w w7 := (HB6.out.alloc HB6.out.size _).grown hgrow7 (by rw [World.size_alloc]; have := HB6.out.size; omega) (fun k hk => by have := (HWN6.out.lt k hk).1; have := HWZ.out; omega)
            have HO7 : Hid (w7.ownsRow w.heap.size 46 2 (.slice (some ⟨gv, 0, none⟩) L.length t) L.length (mbC L)) := own_blockK (own2_call HO6.out ((Below.refl _ _).alloc (Nat.le_refl _) _)) (fun k hk => hgrow7.block k (by have e1 : gv = k := Option.some.inj hk; rw [World.size_alloc]; have := HGV.out; have := HZ6.out; omega) (fun e => by have h1 : gv = k := Option.some.inj hk; have h2 := (HWN6.out.lt k e.symm).1; have := HGV.out; omega))
            have HB7 := hidT hb7
            have HZ7 : Hid (W0.heap.size < w7.heap.size) := by have := hgrow7.size; rw [World.size_alloc] at this; show _ < _; omega
            have hdr : L.drop t = [] := List.drop_of_length_le (by have := HLI.out; omega)
            have HDR := hidT hdr
            have HWN7 := hidT hown7
            clear hb7 hgrow7 hown7 HO6 hz6 x0 x1 hdr HB6
            go_wp2_with (at_builtin; (refine wpList_append_own _ rfl _ _ 40 rfl W0.heap.size 46 i0 _ 2 32 Tryd.underlying40 hi hz0 hz1 hz2 rfl (by decide) _ _ _ rfl HWN7.out ⟨gv, 0, none⟩ 0 0 [] rfl rfl nil_news nil_one ?n3 ?n4 ?n5 ?_))
            case n3 => unfold maxLen; omega
            case n4 => omega
            case n5 => have := HZ7.out; omega
            intro v8 w8 hown8 hgrow8 _
            have hb8 : Below w.heap.size w w8 := HB7.out.grown hgrow8 (by have := HZ7.out; have := HWZ.out; omega) (fun k hk => by have := (HWN7.out.lt k hk).1; have := HWZ.out; omega)
            have ho8 : w8.ownsRow w.heap.size 46 2 v8 (t + 1) (mbC (gL F (t + 1))) := by
              have e1 : mbC (L.take t) ++ [.string pa, .string pd] = mbC (gL F (t + 1)) := by
                rw [HAT.out, HDR.out, List.append_nil, mbC_app]
                rfl
              rw [← e1]
              exact own2_base (by simpa using hown8) HWZ.out
            obtain ⟨g8, c8, _, e8, _⟩ := own2_form ho8 (by omega)
            subst e8
            have GS8 : Hid (GW w w8 (.slice (some ⟨g8, 0, none⟩) (gL F (t + 1)).length c8) (gL F (t + 1))) := ⟨by rw [gL_len]; exact ho8, hb8⟩
            clear ho8 hb8 hown8 hgrow8
            go_wp2_with fail
            go_roundw
            case rel => exact ⟨t + 1, g8, c8, by have := HLT.out; omega, by go_num, rfl, GS8⟩
            case measure => simp [intMb]; have := HLT.out; omega
    · obtain rfl : i = n := by omega
      have hl := gL_len F i
      have HOW : Hid (wr.ownsRow w.heap.size 46 2 (.slice (some ⟨gv, 0, none⟩) i cp) i (mbC (gL F i)) ∧ Below w.heap.size w wr) := ⟨by have h := GS.out.own; rw [hl] at h; exact h, GS.out.bel⟩
      have HLE : Hid ((grL F i).length = i ∧ grL F i = gL F i) := ⟨by rw [HGL.out, gL_len], HGL.out⟩
      clear GS hl
      go_wp2_with fail
      go_ret
      exact ⟨⟨_, rfl, by rw [HLE.out.1, HLE.out.2]; exact HOW.out.1⟩, HOW.out.2⟩
set_option maxRecDepth 100000 in
theorem sgrp_no (a : Option Addr) (c n : Nat) (F : Nat → MbI) (w : World) (hF : MbLe F n) (hd : ¬ mbR F n) (h : MbArg w (.slice a n c) n F) :
    Calls Tryd.prog 24 #[.slice a n c] w fun e w' => (∃ v, e = .returned v ∧ w'.ownsRow w.heap.size 46 2 v (grL F n).length (mbC (grL F n))) ∧ Below w.heap.size w w' := by
  have HB0 : Hid (GW w (w.alloc (.cells #[] 46)) (.slice (some ⟨w.heap.size, 0, none⟩) 0 0) []) := ⟨World.ownsRow_made (e := 46) (size := 2) w #[] 0 (Nat.le_refl _) (by unfold maxLen; omega) rfl, (Below.refl _ _).alloc (Nat.le_refl _) _⟩
  have HOK : Hid (∀ w', Below w.heap.size w w' → Calls Tryd.prog 25 #[.slice a n c] w' fun e w'' => e = .returned (.bool false) ∧ Below w'.heap.size w' w'') := fun w' hb => by
    have := smbs_any _ n F w' hF (h.below hb)
    rw [mbB_no hd] at this
    exact this
  have HGL : Hid (grL F n = []) := grL_no hd
  clear hF hd h
  go_enter Tryd.func24, Tryd.ntmps24
  go_wp2_with fail
  refine (HOK.out _ HB0.out.bel).mono ?_
  rintro e w1 ⟨rfl, hb1⟩
  have HS1 := hidT (HB0.out.call hb1)
  clear hb1 HB0 HOK
  go_wp2_with fail
  go_ret
  exact ⟨⟨_, rfl, by rw [HGL.out]; exact HS1.out.own⟩, HS1.out.bel⟩
theorem sgrp_any (v : Value) (n : Nat) (F : Nat → MbI) (w : World) (hF : MbLe F n) (h : MbArg w v n F) :
    Calls Tryd.prog 24 #[v] w fun e w' => (∃ v, e = .returned v ∧ w'.ownsRow w.heap.size 46 2 v (grL F n).length (mbC (grL F n))) ∧ Below w.heap.size w w' := by
  have h' := h
  obtain ⟨a, c, rfl, _⟩ := h
  by_cases hd : mbR F n
  · exact sgrp_yes a c n F w hF hd h'
  · exact sgrp_no a c n F w hF hd h'
theorem grp_any (v : Value) (n : Nat) (F : Nat → MbI) (w : World) (hm : MxL w) (hF : MbLe F n) (h : MbArg w v n F) :
    Calls Tryd.prog 22 #[v] w fun e w' => (∃ v, e = .returned v ∧ w'.ownsRow w.heap.size 46 2 v (grL F n).length (mbC (grL F n))) ∧ Below w.heap.size w w' := by
  have h' := h
  obtain ⟨a, c, rfl, _⟩ := h
  by_cases hd : mbR F n
  · exact grp_yes a c n F w hm hF hd h'
  · exact grp_no a c n F w hF hd h'
end Go.Proofs.YtfegoldjejlcaaaDoor
