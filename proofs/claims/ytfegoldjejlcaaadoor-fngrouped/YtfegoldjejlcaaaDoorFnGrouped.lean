/-
  Members that are grouped are all there, by extension, then by name, in whatever order they were; grouped again they are the same.
-/
import Derived.Test.YtfegoldjejlcaaaDoorRows
import Derived.Test.YtfegoldjejlcaaaDoorTie
import Derived.Test.YtfegoldjejlcaaaDoorCards
import Derived.Test.YtfegoldjejlcaaaDoorCardKitP
import Derived.SevenTiedAt
import Derived.Stop.Joined
import Derived.Lay
import Derived.Test.YtfegoldjejlcaaaDoorGbM
import Derived.Test.YtfegoldjejlcaaaDoorDrwMg
import Derived.Test.YtfegoldjejlcaaaDoorSameMb
import Derived.Test.YtfegoldjejlcaaaDoorBig
import Derived.Laws.Rows
import Derived.Laws.Cover1
import Derived.BigQuiet
import Derived.WalkKit
import Derived.ProofKit
import Derived.OpenShut
import Derived.ShutString
import Derived.ChangeOld
import Derived.Below
namespace Go.Proofs.YtfegoldjejlcaaaDoor.fnGrouped
open Go.ChangeShapes Go.WideShapes Go.ChangeAt Go.RowKit
open Go.ChangeMaps (open_string shut_string)
set_option linter.unusedVariables false

theorem own : ownKnob Tryd.prog.godebug = none := by kernel_rfl
theorem laidOut : laidOutB Tryd.prog = true := by kernel_rfl

/-- what the walk is told of a slice of integers that came in -/
def IsRow (k : IntKind) (w : World) (a : Option Addr) (len cap : Nat) (zs : List Int) : Prop :=
  (a = none ∧ len = 0 ∧ cap = 0 ∧ zs = []) ∨
  ∃ x, a = some x ∧ len ≤ cap ∧ cap ≤ maxLen ∧ zs.length = cap ∧ (∀ i, i < zs.length → w.cell? (x.add i) = some (.int k (zs.getD i 0))) ∧ ∀ n ∈ zs, (Lit.int k n).wf = true

set_option linter.unusedSimpArgs false
set_option linter.unusedVariables false

set_option maxRecDepth 100000 in
set_option maxHeartbeats 4000000 in
theorem walk (a0 : Option Addr) (len0 cap0 : Nat) (z0 : List Int) (w : World) (w0 : IsRow .u8 w a0 len0 cap0 z0) (hm : MxL w) :
    Calls Tryd.prog 5 #[.slice a0 len0 cap0] w fun e w' => e = .returned (.bool true) ∧ Below w.heap.size w w' := by
  by_cases hbig : 1048576 < len0
  · go_enter Tryd.func5, Tryd.ntmps5
    go_wp2_with fail
    refine (big_yes a0 len0 cap0 _ hbig).mono ?_
    rintro e w1 ⟨rfl, rfl⟩
    go_wp2_with fail
    go_ret
    exact ⟨rfl, Below.refl _ _⟩
  · have hS := src_of w0 (by omega)
    have HMX : Hid (∀ w', Below w.heap.size w w' → MxL w') := fun w' h => hm.below h hm.lt
    clear w0 hm
    go_enter Tryd.func5, Tryd.ntmps5
    go_wp2_with fail
    refine (big_no a0 len0 cap0 _ hbig).mono ?_
    rintro e w1 ⟨rfl, hw1⟩
    subst w1
    go_wp2_with fail
    refine (drawGrouped hS (Below.refl _ _)).mono ?_
    rintro e w2 ⟨⟨v, L, hL, hsz, _, rfl, ho⟩, hb2⟩
    clear hbig
    have hF := mbF_leD L hL hsz
    obtain ⟨a, c, rfl⟩ := own2_slice ho
    have HA := hid (own2_arg ho)
    have HW2 := hid hb2
    have HGI := hid (fun w hm h => grp_any (.slice a L.length c) L.length (mbF L) w hm hF h)
    have HGS := hid (fun w h => sgrp_any (.slice a L.length c) L.length (mbF L) w hF h)
    have HMO := hid (fun w h => smbs_any (.slice a L.length c) L.length (mbF L) w hF h)
    have HSM : Hid (∀ (M : List MbI) va vb w, M.length ≤ 60 → MbArg w va M.length (mbF M) → MbArg w vb M.length (mbF M) → Calls Tryd.prog 23 #[va, vb] w fun e w' => e = .returned (.bool true) ∧ Below w.heap.size w w') := fun M va vb w hM h1 h2 => sameM_any va vb M.length (mbF M) w (by omega) h1 h2
    have HSZ := hid hsz
    have HL8 := hid hL
    clear ho hb2
    by_cases hp : mbR (mbF L) L.length
    · rw [mbB_yes hp] at HMO
      have HPM := hid (gr_self hp)
      have HRI := hid (gr_rise hp)
      have hrv : mbR (mbF L.reverse) L.reverse.length := mbR_perm hp (List.reverse_perm L).symm
      have HRV := hid (gr_perm hp (List.reverse_perm L).symm)
      have HAG := hid (gr_perm hp (gr_self hp))
      generalize grL (mbF L) L.length = G at HGI HGS HPM HRI HRV HAG
      have hGL : G.length = L.length := HPM.out.length_eq.symm
      have hGZ : ∀ p ∈ G, p.a.size ≤ 100 ∧ p.d.size ≤ 600 := fun p h => HSZ.out p (HPM.out.mem_iff.2 h)
      have HGZ := hid hGZ
      have hG8 : G.length ≤ 8 := by omega
      have HGL := hid hGL
      have HFG := hid (mbF_leD G hG8 hGZ)
      have HFR := hid (mbF_leD L.reverse (by simp; omega) (fun p h => hsz p (List.mem_reverse.1 h)))
      clear hp hrv hF hsz hS hGZ hGL
      go_wp2_with fail
      refine (HGI.out _ (HMX.out _ HW2.out) HA.out).mono ?_
      rintro e w3 ⟨⟨vg, rfl, hog⟩, hb3⟩
      obtain ⟨ga, gc, rfl⟩ := own2_slice hog
      have HA3 := hid (HA.out.below hb3)
      have HW3 := hid (blMb HW2.out hb3 HW2.out.size)
      have HG3 := hid (own2_arg hog)
      clear HA hb3 HW2 hog
      go_wp2_with fail
      refine (HGS.out _ HA3.out).mono ?_
      rintro e w4 ⟨⟨vs, rfl, hos⟩, hb4⟩
      have HA4 := hid (HA3.out.below hb4)
      have HG4 := hid (HG3.out.below hb4)
      have HW4 := hid (blMb HW3.out hb4 HW3.out.size)
      have HS4 := hid (own2_arg hos)
      clear HA3 HG3 hb4 HW3 hos
      go_wp2_with fail
      refine (HSM.out G _ _ _ (by omega) HG4.out HS4.out).mono ?_
      rintro e w5 ⟨rfl, hb5⟩
      have HA5 := hid (HA4.out.below hb5)
      have HG5 := hid (HG4.out.below hb5)
      have HW5 := hid (blMb HW4.out hb5 HW4.out.size)
      clear HA4 HG4 hb5 HW4 HS4
      go_wp2_with fail
      refine (HMO.out _ HA5.out).mono ?_
      rintro e w6 ⟨rfl, hb6⟩
      have HA6 := hid (HA5.out.below hb6)
      have HG6 := hid (HG5.out.below hb6)
      have HW6 := hid (blMb HW5.out hb6 HW5.out.size)
      clear HA5 HG5 hb6 HW5 HMO HGS
      go_wp2_with fail
      obtain ⟨i0, hi, hz0, hz1, hz2⟩ := info_parts Tryd.infMbG
      have HB0 : Hid (GW w6 (w6.alloc (.cells #[] 46)) (.slice (some ⟨w6.heap.size, 0, none⟩) 0 0) (L.drop L.length).reverse) := by
        show GW _ _ _ _
        rw [List.drop_length]
        exact ⟨World.ownsRow_made (e := 46) (size := 2) w6 #[] 0 (Nat.le_refl _) (by unfold maxLen; omega) rfl, (Below.refl _ _).alloc (Nat.le_refl _) _⟩
      go_loopw [5, 6] (fun v x wr => ∃ (k : Nat) (u : Value), k ≤ L.length ∧ x = .int .i64 ((k : Int) - 1) ∧ u = v ∧ Hid (GW w6 wr u (L.drop k).reverse)) (fun _ x _ => (intMb x + 1).toNat)
      case atStart => exact ⟨L.length, _, Nat.le_refl _, by go_num, rfl, HB0⟩
      case round =>
        clear HB0
        rename World => W0
        obtain ⟨k, v, hk, rfl, rfl, CW⟩ := hrel
        cases k with
        | succ j =>
          rw [show ((j + 1 : Nat) : Int) - 1 = (j : Int) by omega]
          have hjI : (j : Int) < (L.length : Int) := by omega
          have hj0 : (0 : Int) ≤ (j : Int) := by omega
          obtain ⟨R, hR⟩ : ∃ R, R = (L.drop (j + 1)).reverse := ⟨_, rfl⟩
          rw [← hR] at CW
          have hR8 : R.length ≤ 8 := by rw [hR, List.length_reverse, List.length_drop]; omega
          obtain ⟨P, hP⟩ : ∃ P, P = mbF L j := ⟨_, rfl⟩
          have HNX : Hid ((L.drop j).reverse = R ++ [P]) := by
            show _ = _
            rw [hR, hP, mbF_at (by omega), List.drop_eq_getElem_cons (by omega), List.reverse_cons]
          obtain ⟨a2, c2, e2, hr1⟩ := HA6.out.below CW.out.bel
          cases e2
          obtain ⟨g, ea, hr⟩ := hr1 (by omega)
          subst ea
          obtain ⟨q, hq⟩ : ∃ q, q = 2 * j := ⟨_, rfl⟩
          have hjq : j * 2 = q := by omega
          have x0 := hr.c0 j (by omega)
          have x1 := hr.c1 j (by omega)
          rw [← hq, ← hP] at x0 x1
          have HK := hid hk
          have hs9 := CW.out.bel.size
          obtain ⟨pa, pd⟩ := P
          simp only at x0 x1
          clear hR hP hr hr1 hq hk
          go_wp2_with (at_builtin; (refine wpList_append_own _ rfl _ _ 40 rfl w6.heap.size 46 i0 _ 2 32 Tryd.underlying40 hi hz0 hz1 hz2 rfl (by decide) _ _ _ rfl (World.ownsRow.alloc CW.out.own _) ⟨W0.heap.size, 0, none⟩ 1 1 [_, _] rfl rfl (cell_twoG rfl) (mb_two _ _) ?k3 ?k4 ?k5 ?_))
          case k3 => unfold maxLen; omega
          case k4 => omega
          case k5 => first | omega | (rw [World.size_alloc] <;> omega)
          intro v' w9 hown' hgrow _
          have CW6 : Hid (GW w6 w9 v' (L.drop j).reverse) := by
            show GW _ _ _ _
            rw [HNX.out]
            exact ⟨by have h := hown'; rw [mbC_snoc R ⟨pa, pd⟩] at h; simpa only [List.length_append, List.length_singleton, List.length_cons, List.length_nil] using h, (CW.out.bel.alloc CW.out.bel.size _).grown hgrow (by rw [World.size_alloc]; omega) (fun k hk => (CW.out.own.lt k hk).1)⟩
          clear hown' hgrow hs9 x0 x1 CW
          go_wp2_with fail
          go_roundw
          case rel => exact ⟨j, _, by have := HK.out; omega, by go_num, rfl, CW6⟩
          case measure => simp [intMb] <;> omega
        | zero =>
          rw [show ((0 : Nat) : Int) - 1 = -1 from rfl]
          rw [List.drop_zero] at CW
          obtain ⟨R, hR⟩ : ∃ R, R = L.reverse := ⟨_, rfl⟩
          have hRn : ∃ m, m = R.length := ⟨_, rfl⟩
          have HRL : Hid (R.length = L.length) := by show _ = _; rw [hR, List.length_reverse]
          rw [← hR] at CW HRV HFR
          obtain ⟨ba, bc, rfl⟩ := own2_slice CW.out.own
          have HA7 := hid (HA6.out.below CW.out.bel)
          have HG7 := hid (HG6.out.below CW.out.bel)
          have HB7 := hid (own2_arg CW.out.own)
          have HW7 := hid (blMb HW6.out CW.out.bel HW6.out.size)
          clear HA6 HG6 HW6 CW hR hRn hk
          obtain ⟨w7, hw7⟩ : ∃ w7, w7 = W0 := ⟨_, rfl⟩
          have HST : Hid (Below w7.heap.size w7 W0) := by show Below _ _ _; rw [hw7]; exact Below.refl _ _
          rw [← hw7] at HA7 HG7 HB7 HW7
          clear hw7
          have HEX : Hid (∀ (s : ByteArray) w, s.size ≤ 1048576 → MxL w → Calls Tryd.prog 26 #[.string s] w fun e w' => e = .returned (.string (extB s)) ∧ Below w.heap.size w w') := fun s w h hm => ext_any s w h hm
          go_wp2_with fail
          go_loopw [7] (fun x wr => ∃ t : Nat, t ≤ G.length ∧ x = .int .i64 ((t : Int) + 1) ∧ Hid (Below w7.heap.size w7 wr)) (fun x _ => (G.length + 2) - (intMb x).toNat)
          case atStart => exact ⟨0, by omega, rfl, HST⟩
          case round =>
            clear HST
            rename World => W0
            obtain ⟨t, ht, rfl, HST⟩ := hrel
            by_cases hlt : t + 1 < G.length
            · have hltI : (t : Int) + 1 < (G.length : Int) := by omega
              have hltJ : (t : Int) < (G.length : Int) := by omega
              have ht1 : (0 : Int) ≤ (t : Int) + 1 := by omega
              have htn : ((t : Int) + 1).toNat = t + 1 := by omega
              have hsub : (t : Int) + 1 - 1 = (t : Int) := by omega
              have HXA : Hid (∀ wd, Below w7.heap.size w7 wd → ∃ g, ga = some ⟨g, 0, none⟩ ∧ wd.cell? ⟨g, 2 * t, none⟩ = some (.string (mbF G t).a) ∧ wd.cell? ⟨g, 2 * (t + 1), none⟩ = some (.string (mbF G (t + 1)).a)) := fun wd hb => by
                obtain ⟨a2, c2, e2, hr1⟩ := HG7.out.below hb
                cases e2
                obtain ⟨g, e3, hr⟩ := hr1 (by omega)
                exact ⟨g, e3, hr.c0 t (by omega), hr.c0 (t + 1) hlt⟩
              obtain ⟨g, ea, _⟩ := HXA.out _ HST.out
              subst ea
              obtain ⟨q, hq⟩ : ∃ q, q = 2 * t := ⟨_, rfl⟩
              obtain ⟨r, hr⟩ : ∃ r, r = 2 * (t + 1) := ⟨_, rfl⟩
              have htq : t * 2 = q := by omega
              have htr : (t + 1) * 2 = r := by omega
              have HGN := gr_step HRI.out hlt
              have hza := (HGZ.out (mbF G t) ((mem_mbF G _).2 ⟨t, by omega, rfl⟩)).1
              have hzb := (HGZ.out (mbF G (t + 1)) ((mem_mbF G _).2 ⟨t + 1, hlt, rfl⟩)).1
              obtain ⟨xa, hxa⟩ : ∃ xa, xa = (mbF G t).a := ⟨_, rfl⟩
              obtain ⟨xb, hxb⟩ : ∃ xb, xb = (mbF G (t + 1)).a := ⟨_, rfl⟩
              have HXQ : Hid (∀ wd, Below w7.heap.size w7 wd → wd.cell? ⟨g, q, none⟩ = some (.string xa) ∧ wd.cell? ⟨g, r, none⟩ = some (.string xb)) := fun wd hb => by
                obtain ⟨g2, e2, h1, h2⟩ := HXA.out wd hb
                cases e2
                rw [hq, hr, hxa, hxb]
                exact ⟨h1, h2⟩
              rw [← hxa] at HGN hza
              rw [← hxb] at HGN hzb
              have HEA : Hid (∀ w, MxL w → Calls Tryd.prog 26 #[.string xa] w fun e w' => e = .returned (.string (extB xa)) ∧ Below w.heap.size w w') := fun w hm => HEX.out xa w (by omega) hm
              have HEB : Hid (∀ w, MxL w → Calls Tryd.prog 26 #[.string xb] w fun e w' => e = .returned (.string (extB xb)) ∧ Below w.heap.size w w') := fun w hm => HEX.out xb w (by omega) hm
              have HGH := hid HGN
              unfold gN at HGH
              generalize extB xa = ya at HEA HGH
              generalize extB xb = yb at HEB HGH
              have HLT := hid hlt
              have HMW := hid (HMX.out _ (blMb HW7.out HST.out HW7.out.size))
              have x0 := (HXQ.out _ HST.out).1
              clear hq hr hxa hxb HXA HGN hza hzb hlt ht
              go_wp2_with fail
              refine (HEA.out _ HMW.out).mono ?_
              rintro e w8 ⟨rfl, hb8⟩
              have HS8 := hid (blMb HST.out hb8 HST.out.size)
              have HM8 := hid (HMX.out _ (blMb HW7.out HS8.out HW7.out.size))
              clear hb8 x0 HST HMW
              have x1 := (HXQ.out _ HS8.out).2
              go_wp2_with fail
              refine (HEB.out _ HM8.out).mono ?_
              rintro e w9 ⟨rfl, hb9⟩
              have HS9 := hid (blMb HS8.out hb9 HS8.out.size)
              clear hb9 x1 HS8 HM8 HEA HEB
              obtain ⟨x0, x1⟩ := HXQ.out _ HS9.out
              rcases HGH.out with h1 | ⟨h1, h2⟩
              · unfold sL at h1
                have h3 : (ya.toList == yb.toList) = false := by
                  rw [beq_eq_false_iff_ne]
                  intro e
                  rw [e, gblt_irr] at h1
                  cases h1
                clear HGH
                go_wp2_with fail
                go_quiet (fail)
                rename Nat => nz
                have HS10 : Hid (Below w7.heap.size w7 (w9.drewN nz)) := blMb HS9.out ⟨rfl, rfl, rfl, Nat.le_refl _, fun _ _ => rfl⟩ HS9.out.size
                clear x0 x1 HS9
                generalize w9.drewN nz = wd at HS10 ⊢
                clear nz
                go_wp2_with fail
                go_roundw
                case rel => exact ⟨t + 1, by have := HLT.out; omega, by go_num, HS10⟩
                case measure => simp [intMb]; have := HLT.out; omega
              · subst h1
                unfold sL at h2
                have h3 : (ya.toList == ya.toList) = true := by simp
                have h4 := gblt_irr ya.toList
                clear HGH
                go_wp2_with fail
                go_quiet (fail)
                rename Nat => nz
                have HS10 : Hid (Below w7.heap.size w7 (w9.drewN nz)) := blMb HS9.out ⟨rfl, rfl, rfl, Nat.le_refl _, fun _ _ => rfl⟩ HS9.out.size
                clear x0 x1 HS9
                generalize w9.drewN nz = wd at HS10 ⊢
                clear nz
                go_wp2_with fail
                go_roundw
                case rel => exact ⟨t + 1, by have := HLT.out; omega, by go_num, HS10⟩
                case measure => simp [intMb]; have := HLT.out; omega
            · have hltI : ¬ (t : Int) + 1 < (G.length : Int) := by omega
              clear hlt ht
              have HA8 := hid (HA7.out.below HST.out)
              have HG8 := hid (HG7.out.below HST.out)
              have HB8 := hid (HB7.out.below HST.out)
              have HW8 := hid (blMb HW7.out HST.out HW7.out.size)
              clear HA7 HG7 HB7 HW7 HST HEX
              obtain ⟨w8, hw8⟩ : ∃ w8, w8 = W0 := ⟨_, rfl⟩
              have HST : Hid (Below w8.heap.size w8 W0) := by show Below _ _ _; rw [hw8]; exact Below.refl _ _
              rw [← hw8] at HA8 HG8 HB8 HW8
              clear hw8
              go_wp2_with fail
              go_loopw [10] (fun x wr => ∃ i : Nat, i ≤ L.length ∧ x = .int .i64 (i : Int) ∧ Hid (Below w8.heap.size w8 wr)) (fun x _ => L.length - (intMb x).toNat)
              case atStart => exact ⟨0, by omega, rfl, HST⟩
              case round =>
                clear HST
                rename World => W0
                obtain ⟨i, hi9, rfl, HST⟩ := hrel
                by_cases hlt : i < L.length
                · have hltI : (i : Int) < (L.length : Int) := by omega
                  obtain ⟨P, hP⟩ : ∃ P, P = mbF L i := ⟨_, rfl⟩
                  have HIN : Hid (∃ j, j < G.length ∧ mbF G j = P) := by
                    show ∃ j, _
                    rw [hP]
                    exact (mem_mbF G _).1 (HPM.out.mem_iff.1 ((mem_mbF L _).2 ⟨i, hlt, rfl⟩))
                  have HXL : Hid (∀ wd, Below w8.heap.size w8 wd → ∃ g, a = some ⟨g, 0, none⟩ ∧ wd.cell? ⟨g, 2 * i, none⟩ = some (.string P.a) ∧ wd.cell? ⟨g, 2 * i + 1, none⟩ = some (.string P.d)) := fun wd hb => by
                    obtain ⟨a2, c2, e2, hr1⟩ := HA8.out.below hb
                    cases e2
                    obtain ⟨g, e3, hr⟩ := hr1 (by omega)
                    rw [hP]
                    exact ⟨g, e3, hr.c0 i hlt, hr.c1 i hlt⟩
                  obtain ⟨h, eh, _⟩ := HXL.out _ HST.out
                  subst eh
                  obtain ⟨q, hq⟩ : ∃ q, q = 2 * i := ⟨_, rfl⟩
                  have hiq : i * 2 = q := by omega
                  have HXQ : Hid (∀ wd, Below w8.heap.size w8 wd → wd.cell? ⟨h, q, none⟩ = some (.string P.a) ∧ wd.cell? ⟨h, q + 1, none⟩ = some (.string P.d)) := fun wd hb => by
                    obtain ⟨g2, e2, h1, h2⟩ := HXL.out wd hb
                    cases e2
                    rw [hq]
                    exact ⟨h1, h2⟩
                  have HLT := hid hlt
                  clear hq HXL hP hlt hi9
                  go_wp2_with fail
                  go_loopw [11, 12] (fun x y wr => ∃ (k : Nat) (b : Bool), k ≤ G.length ∧ x = .bool b ∧ y = .int .i64 (k : Int) ∧ Hid ((∃ j, j < k ∧ mbF G j = P) → b = true) ∧ Hid (Below w8.heap.size w8 wr)) (fun _ y _ => G.length - (intMb y).toNat)
                  case atStart => exact ⟨0, false, by omega, rfl, rfl, fun ⟨j, h, _⟩ => absurd h (by omega), HST⟩
                  case round =>
                    clear HST
                    rename World => W0
                    obtain ⟨k, b, hk, rfl, rfl, HBT, HST⟩ := hrel
                    by_cases hkt : k < G.length
                    · have hktI : (k : Int) < (G.length : Int) := by omega
                      have HKT := hid hkt
                      cases b with
                      | true =>
                        clear hk hkt
                        go_wp2_with fail
                        go_quiet (fail)
                        rename Nat => nz
                        have HS10 : Hid (Below w8.heap.size w8 (W0.drewN nz)) := blMb HST.out ⟨rfl, rfl, rfl, Nat.le_refl _, fun _ _ => rfl⟩ HST.out.size
                        clear HST
                        generalize W0.drewN nz = wd at HS10 ⊢
                        clear nz
                        go_wp2_with fail
                        go_roundw
                        case rel => exact ⟨k + 1, true, by have := HKT.out; omega, rfl, by go_num, fun _ => rfl, HS10⟩
                        case measure => simp [intMb]; have := HKT.out; omega
                      | false =>
                        obtain ⟨S, hSS⟩ : ∃ S, S = mbF G k := ⟨_, rfl⟩
                        obtain ⟨a2, c2, e2, hr1⟩ := HG8.out.below HST.out
                        cases e2
                        obtain ⟨g, eg, hr⟩ := hr1 (by omega)
                        subst eg
                        have y0 := hr.c0 k hkt
                        have y1 := hr.c1 k hkt
                        obtain ⟨r, hr9⟩ : ∃ r, r = 2 * k := ⟨_, rfl⟩
                        have hkr : k * 2 = r := by omega
                        rw [← hr9, ← hSS] at y0 y1
                        obtain ⟨x0, x1⟩ := HXQ.out _ HST.out
                        have hnq : ∀ w, _ := fun w => mb_eql S P w
                        have HSS := hid hSS
                        clear hk hkt hr hr1 hr9 hSS
                        by_cases hs : S = P
                        · rw [mbEq_yes hs] at hnq
                          have HB2 : Hid ((∃ j, j < k + 1 ∧ mbF G j = P) → true = true) := fun _ => rfl
                          clear hs
                          go_wp2_with fail
                          go_quiet (fail)
                          rename Nat => nz
                          have HS10 : Hid (Below w8.heap.size w8 (W0.drewN nz)) := blMb HST.out ⟨rfl, rfl, rfl, Nat.le_refl _, fun _ _ => rfl⟩ HST.out.size
                          clear x0 x1 y0 y1 hnq HST
                          generalize W0.drewN nz = wd at HS10 ⊢
                          clear nz
                          go_wp2_with fail
                          go_roundw
                          case rel => exact ⟨k + 1, true, by have := HKT.out; omega, rfl, by go_num, fun _ => rfl, HS10⟩
                          case measure => simp [intMb]; have := HKT.out; omega
                        · rw [mbEq_no hs] at hnq
                          have HB2 : Hid ((∃ j, j < k + 1 ∧ mbF G j = P) → false = true) := fun ⟨j, h, e⟩ => by
                            by_cases hj : j = k
                            · subst hj
                              exact absurd (HSS.out.trans e) hs
                            · exact HBT.out ⟨j, by omega, e⟩
                          clear hs
                          go_wp2_with fail
                          go_quiet (fail)
                          rename Nat => nz
                          have HS10 : Hid (Below w8.heap.size w8 (W0.drewN nz)) := blMb HST.out ⟨rfl, rfl, rfl, Nat.le_refl _, fun _ _ => rfl⟩ HST.out.size
                          clear x0 x1 y0 y1 hnq HST
                          generalize W0.drewN nz = wd at HS10 ⊢
                          clear nz
                          go_wp2_with fail
                          go_roundw
                          case rel => exact ⟨k + 1, false, by have := HKT.out; omega, rfl, by go_num, HB2, HS10⟩
                          case measure => simp [intMb]; have := HKT.out; omega
                    · obtain rfl : k = G.length := by omega
                      obtain rfl : b = true := HBT.out HIN.out
                      clear hk hkt HBT HIN
                      go_wp2_with fail
                      go_roundw
                      case rel => exact ⟨i + 1, by have := HLT.out; omega, by go_num, HST⟩
                      case measure => simp [intMb]; have := HLT.out; omega
                · have hltI : ¬ (i : Int) < (L.length : Int) := by omega
                  have hGL : ((G.length : Int) == (L.length : Int)) = true := by have := HGL.out; rw [beq_iff_eq]; omega
                  have HA9 := hid (HA8.out.below HST.out)
                  have HG9 := hid (HG8.out.below HST.out)
                  have HB9 := hid (HB8.out.below HST.out)
                  have HW9 := hid (blMb HW8.out HST.out HW8.out.size)
                  have HGG : Hid (∀ w, MxL w → MbArg w (.slice ga G.length gc) G.length (mbF G) → Calls Tryd.prog 22 #[.slice ga G.length gc] w fun e w' => (∃ v, e = .returned v ∧ w'.ownsRow w.heap.size 46 2 v G.length (mbC G)) ∧ Below w.heap.size w w') := fun w hm h => by
                    have := grp_any (.slice ga G.length gc) G.length (mbF G) w hm HFG.out h
                    rw [HAG.out] at this
                    exact this
                  have HGR : Hid (∀ w, MxL w → MbArg w (.slice ba R.length bc) R.length (mbF R) → Calls Tryd.prog 22 #[.slice ba R.length bc] w fun e w' => (∃ v, e = .returned v ∧ w'.ownsRow w.heap.size 46 2 v G.length (mbC G)) ∧ Below w.heap.size w w') := fun w hm h => by
                    have := grp_any (.slice ba R.length bc) R.length (mbF R) w hm HFR.out h
                    rw [HRV.out] at this
                    exact this
                  clear HA8 HG8 HB8 HW8 HST hlt hi9 HAG HRV HFG HFR HA9
                  go_wp2_with fail
                  refine (HGG.out _ (HMX.out _ HW9.out) HG9.out).mono ?_
                  rintro e w10 ⟨⟨v10, rfl, ho⟩, hb⟩
                  have HG10 := hid (HG9.out.below hb)
                  have HB10 := hid (HB9.out.below hb)
                  have HW10 := hid (blMb HW9.out hb HW9.out.size)
                  have HS10 := hid (own2_arg ho)
                  clear HG9 HB9 HW9 hb ho HGG
                  go_wp2_with fail
                  refine (HSM.out G _ _ _ (by omega) HS10.out HG10.out).mono ?_
                  rintro e w11 ⟨rfl, hb⟩
                  have HG11 := hid (HG10.out.below hb)
                  have HB11 := hid (HB10.out.below hb)
                  have HW11 := hid (blMb HW10.out hb HW10.out.size)
                  clear HG10 HB10 HW10 HS10 hb
                  go_wp2_with fail
                  refine (HGR.out _ (HMX.out _ HW11.out) HB11.out).mono ?_
                  rintro e w12 ⟨⟨v12, rfl, ho⟩, hb⟩
                  have HG12 := hid (HG11.out.below hb)
                  have HW12 := hid (blMb HW11.out hb HW11.out.size)
                  have HS12 := hid (own2_arg ho)
                  clear HG11 HB11 HW11 hb ho HGR
                  go_wp2_with fail
                  refine (HSM.out G _ _ _ (by omega) HS12.out HG12.out).mono ?_
                  rintro e w13 ⟨rfl, hb⟩
                  have HW13 := hid (blMb HW12.out hb HW12.out.size)
                  clear HG12 HW12 HS12 hb
                  go_wp2_with fail
                  go_ret
                  exact ⟨rfl, HW13.out⟩
    · rw [mbB_no hp] at HMO
      rw [grL_no hp] at HGI HGS
      clear hp hF hS
      go_wp2_with fail
      refine (HGI.out _ (HMX.out _ HW2.out) HA.out).mono ?_
      rintro e w3 ⟨⟨vg, rfl, hog⟩, hb3⟩
      have HA3 := hid (HA.out.below hb3)
      have HW3 := hid (blMb HW2.out hb3 HW2.out.size)
      have HG3 := hid (own2_arg hog)
      clear HA hb3 HW2 hog
      go_wp2_with fail
      refine (HGS.out _ HA3.out).mono ?_
      rintro e w4 ⟨⟨vs, rfl, hos⟩, hb4⟩
      have HA4 := hid (HA3.out.below hb4)
      have HG4 := hid (HG3.out.below hb4)
      have HW4 := hid (blMb HW3.out hb4 HW3.out.size)
      have HS4 := hid (own2_arg hos)
      clear HA3 HG3 hb4 HW3 hos
      go_wp2_with fail
      refine (HSM.out [] _ _ _ (by simp) HG4.out HS4.out).mono ?_
      rintro e w5 ⟨rfl, hb5⟩
      have HA5 := hid (HA4.out.below hb5)
      have HG5 := hid (HG4.out.below hb5)
      have HW5 := hid (blMb HW4.out hb5 HW4.out.size)
      clear HA4 HG4 hb5 HW4 HS4
      go_wp2_with fail
      refine (HMO.out _ HA5.out).mono ?_
      rintro e w6 ⟨rfl, hb6⟩
      have HA6 := hid (HA5.out.below hb6)
      have HG6 := hid (HG5.out.below hb6)
      have HW6 := hid (blMb HW5.out hb6 HW5.out.size)
      clear HA5 HG5 hb6 HW5 HMO
      go_wp2_with fail
      refine (HGS.out _ HA6.out).mono ?_
      rintro e w7 ⟨⟨vs2, rfl, hos⟩, hb7⟩
      have HG7 := hid (HG6.out.below hb7)
      have HW7 := hid (blMb HW6.out hb7 HW6.out.size)
      have HS7 := hid (own2_arg hos)
      clear HA6 HG6 hb7 HW6 hos
      go_wp2_with fail
      refine (HSM.out [] _ _ _ (by simp) HG7.out HS7.out).mono ?_
      rintro e w8 ⟨rfl, hb8⟩
      have HW8 := hid (blMb HW7.out hb8 HW7.out.size)
      go_wp2_with fail
      go_ret
      exact ⟨rfl, HW8.out⟩

set_option maxRecDepth 100000 in
theorem lifted (os : Os) (started : os.Started) (H : Type) (enc : TypeId × Value → H) :
    ReturnsInHanded {} Tryd.checked os 5 .any (fun w args => (Rows.fnGroupedSpec.pre enc Tryd.prog Tryd.f5 [] false w args ∧ laidMetH Tryd.prog [("unicode/utf8.acceptRanges", Rows.laid_unicode_utf8_acceptRanges), ("unicode/utf8.first", Rows.laid_unicode_utf8_first)] w) ∧ sizedMet enc Tryd.prog Tryd.f5 (OpenSpec.ofChange Rows.fnGroupedSpec) false w args) (Rows.fnGroupedSpec.post enc Tryd.prog Tryd.f5 false true false false) := by
  refine handed_laid (C := Tryd.checked) (X := fun w => laidMetH Tryd.prog [("unicode/utf8.acceptRanges", Rows.laid_unicode_utf8_acceptRanges), ("unicode/utf8.first", Rows.laid_unicode_utf8_first)] w) (fun _ _ hh h => h.of_heap hh) own started (by kernel_rfl) Tryd.func5
    (ChangeSpec.witness_shaped (enc := enc) (C := Tryd.checked) (os := os) (X := fun w _ => laidMetH Tryd.prog [("unicode/utf8.acceptRanges", Rows.laid_unicode_utf8_acceptRanges), ("unicode/utf8.first", Rows.laid_unicode_utf8_first)] w) false (World.laidAll Tryd.prog os [("unicode/utf8.acceptRanges", Rows.laid_unicode_utf8_acceptRanges), ("unicode/utf8.first", Rows.laid_unicode_utf8_first)]) #[.slice none 0 0] 8 (World.laidAll_os _ _ _) (World.shaped_of_ZipB (by kernel_rfl) (by kernel_rfl)) (by kernel_rfl) (by kernel_rfl) (by kernel_rfl) (by rw [MakeChecks.laidMetH_plain _ _ _ (by kernel_rfl)]; exact laidMet_laidAll _ (by kernel_rfl) (by kernel_rfl))) ?_
  intro W base args ds gs before hval0 hW hL hsh
  have hval : ∀ (j : Nat) t v, Tryd.f5.params[j]? = some t → args[j]? = some v → Value.okWide Tryd.prog W .any base t v := hval0
  have hW' := hW
  obtain ⟨p, q, hA0, hV, rfl, hfz, hnd⟩ := hW
  have hA : DataW.TrodAll enc Tryd.prog W 0 (fun _ => true) true Tryd.f5.params.toList args.toList ds p := hA0
  rw [Tryd.params5] at hA hval
  obtain ⟨v0, vs0, d0, ds0, p0, q0, hargs, rfl, rfl, h0, r0⟩ := trodAll_cons hA
  obtain ⟨rfl, rfl, rfl⟩ := trodAll_nil r0
  obtain rfl : args = #[v0] := by cases args; simp_all
  obtain ⟨rfl, rfl⟩ := trodVars_none hV
  have hMX : MxL W := mx_of_shape hsh
  obtain ⟨a0, len0, cap0, rfl⟩ := okWide_slice Tryd.underlying22 (hval 0 22 v0 rfl rfl)
  have k0 := h0
  have lt0 : ∀ x ∈ p0, x.block < W.heap.size := by obtain ⟨m, hm⟩ := k0; exact DataW.trod_lt m _ _ _ hm
  obtain ⟨z0, w0⟩ : ∃ zs, IsRow .u8 W a0 len0 cap0 zs := by
    obtain ⟨fuel, hf⟩ := h0
    rcases open_ints Tryd.underlying22 Tryd.underlying5 (by kernel_rfl) hf with ⟨hcs, _⟩ | ⟨x, l, c, zs, hcs, _, hl, hm, hz, _, hcell, hwz⟩
    · simp [Value.cells] at hcs
      obtain ⟨rfl, rfl, rfl⟩ := hcs
      exact ⟨[], .inl ⟨rfl, rfl, rfl, rfl⟩⟩
    · simp [Value.cells] at hcs
      obtain ⟨rfl, rfl, rfl⟩ := hcs
      exact ⟨zs, .inr ⟨_, rfl, hl, hm, by simpa using hz, hcell, hwz⟩⟩
  clear hA0 hval0
  refine (walk a0 len0 cap0 z0 W w0 hMX).mono fun e W' ⟨he, bel⟩ => ?_
  subst he
  exact ⟨_, rfl, _, _, _, [], _, [], hW', trodAll_mk1 (shut_bool Tryd.underlying4 _), (trodAll_cons_mk (Below.trod laidOut (by kernel_rfl) (of_decide_eq_true (by kernel_rfl)) k0 bel lt0) trodAll_mk0), rfl, bel.frame _, fun h => by cases h⟩

theorem over : Rows.fnGroupedRow.holds Tryd.pinned (OpenSpec.ofChange Rows.fnGroupedSpec) :=
  OpenClaim.holds_of_wide 5 Tryd.f5 rfl rfl rfl rfl rfl rfl rfl ⟨rfl, rfl, rfl, rfl, rfl⟩ rfl rfl rfl rfl rfl (by kernel_rfl) Tryd.func5 (by kernel_rfl)
    (of_decide_eq_true (by kernel_rfl)) (by unfold Func.isWrapper; first | (rw [if_pos (by decide +kernel)]; kernel_rfl) | (rw [if_neg (by decide +kernel)]; exact ⟨rfl, rfl⟩))
    (fun os started H enc _ => lifted os started H enc)

theorem proved : Rows.FnGroupedCardSaid :=
  Claim7.holds_tied_plain_at .later [] [.data, .pinned] true (true, "035472ad97aa82c5e00724a87885a4d71eec7f57e226dfe30d186398433c0bb3") false
    over (fun _ h => by cases h) (by kernel_rfl) (fun _ h => by cases h) fnGrouped_row_tie rfl ⟨rfl, rfl⟩ (by kernel_rfl) rfl
    (fun f fn hf hfn => by
      obtain rfl : f = 5 := Option.some.inj ((show Tryd.prog.funcNamed "loop.example/g00228/laws.FnGrouped" = some 5 by kernel_rfl).symm.trans hf) |>.symm
      obtain rfl : fn = Tryd.f5 := (Option.some.inj (Tryd.func5.symm.trans hfn)).symm
      exact ⟨by kernel_rfl, fun j t ht => by
        have hall : Tryd.f5.params.all (fun t => Tryd.prog.wantsStandIn t == false) = true := by kernel_rfl
        obtain ⟨hj, rfl⟩ := Array.getElem?_eq_some_iff.1 ht
        exact beq_iff_eq.1 (Array.all_eq_true.1 hall j hj)⟩)
    (by kernel_rfl)
#print axioms proved
end Go.Proofs.YtfegoldjejlcaaaDoor.fnGrouped
