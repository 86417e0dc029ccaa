/-
  What lies under a path is what lies under its nodes, and the node itself first.
-/
import Derived.Test.YtfegoldjejlcaaaDoorRows
import Derived.Test.YtfegoldjejlcaaaDoorTie
import Derived.Test.YtfegoldjejlcaaaDoorCards
import Derived.Test.YtfegoldjejlcaaaDoorCardKitP
import Derived.SevenTiedAt
import Derived.Stop.Joined
import Derived.Lay
import Derived.Test.YtfegoldjejlcaaaDoorUnF
import Derived.Test.YtfegoldjejlcaaaDoorDrwTn
import Derived.Test.YtfegoldjejlcaaaDoorSameNd
import Derived.Test.YtfegoldjejlcaaaDoorNdNe
import Derived.Test.YtfegoldjejlcaaaDoorPthC2
import Derived.Test.YtfegoldjejlcaaaDoorBig
import Derived.Laws.Rows
import Derived.Laws.Cover1
import Derived.BigQuiet
import Derived.WalkKit
import Derived.ProofKit
import Derived.OpenShut
import Derived.ShutString
import Derived.ChangeOld
import Derived.Below
namespace Go.Proofs.YtfegoldjejlcaaaDoor.fnUnder
open Go.ChangeShapes Go.WideShapes Go.ChangeAt Go.RowKit
open Go.ChangeMaps (open_string shut_string)
set_option linter.unusedVariables false

theorem own : ownKnob Tryd.prog.godebug = none := by kernel_rfl
theorem laidOut : laidOutB Tryd.prog = true := by kernel_rfl

/-- what the walk is told of a slice of integers that came in -/
def IsRow (k : IntKind) (w : World) (a : Option Addr) (len cap : Nat) (zs : List Int) : Prop :=
  (a = none ∧ len = 0 ∧ cap = 0 ∧ zs = []) ∨
  ∃ x, a = some x ∧ len ≤ cap ∧ cap ≤ maxLen ∧ zs.length = cap ∧ (∀ i, i < zs.length → w.cell? (x.add i) = some (.int k (zs.getD i 0))) ∧ ∀ n ∈ zs, (Lit.int k n).wf = true

set_option linter.unusedSimpArgs false
set_option linter.unusedVariables false
theorem nd_eql (p q : NdI) (w : World) : Sem.run Tryd.prog (binOp .eql 30 (.agg #[.string p.p, .bool p.r, .int .i64 p.m, .string p.d]) (.agg #[.string q.p, .bool q.r, .int .i64 q.m, .string q.d])) w = .ok (.bool (!ndNe p q)) w := by
  have hS : Tryd.prog.underlying 30 = some (.struct (Tryd.prog.fieldsOf 30)) := by kernel_rfl
  have hp : Tryd.prog.stoodInHeld 30 = false := by kernel_rfl
  rw [run_eql_struct, show (10000 : Nat) = 9999 + 1 from rfl, run_equalIn_agg w 9999 30 _ _ hS hp]
  simp only [Program.fieldsOf, Tryd.underlying30]
  go_simp
  unfold ndNe
  by_cases h1 : p.p.toList = q.p.toList <;> by_cases h2 : p.r = q.r <;> by_cases h3 : p.m = q.m <;> by_cases h4 : p.d.toList = q.d.toList <;> simp [h1, h2, h3, h4]

set_option maxRecDepth 100000 in
set_option maxHeartbeats 4000000 in
theorem walk (a0 : Option Addr) (len0 cap0 : Nat) (z0 : List Int) (w : World) (w0 : IsRow .u8 w a0 len0 cap0 z0) (hm : MxL w) :
    Calls Tryd.prog 3 #[.slice a0 len0 cap0] w fun e w' => e = .returned (.bool true) ∧ Below w.heap.size w w' := by
  by_cases hbig : 1048576 < len0
  · go_enter Tryd.func3, Tryd.ntmps3
    go_wp2_with fail
    refine (big_yes a0 len0 cap0 _ hbig).mono ?_
    rintro e w1 ⟨rfl, rfl⟩
    go_wp2_with fail
    go_ret
    exact ⟨rfl, Below.refl _ _⟩
  · have hS := src_of w0 (by omega)
    have HMX : Hid (∀ w', Below w.heap.size w w' → MxL w') := fun w' h => hm.below h hm.lt
    clear w0 hm
    go_enter Tryd.func3, Tryd.ntmps3
    go_wp2_with fail
    refine (big_no a0 len0 cap0 _ hbig).mono ?_
    rintro e w1 ⟨rfl, hw1⟩
    subst w1
    go_wp2_with fail
    refine (drawUnder hS (Below.refl _ _)).mono ?_
    rintro e w2 ⟨⟨v, L, s, hL, hsz, hs, rfl, ho⟩, hb2⟩
    clear hbig
    have hF := ndF_leD L hL hsz
    have HA := hidT (own4_arg ho)
    have HW2 := hidT hb2
    have HUI := hidT (fun w hm h => und_any v L.length (ndF L) s w hm hF (by omega) h)
    have HUS := hidT (fun w h => sund_any v L.length (ndF L) s w hF (by omega) h)
    have HFI := hidT (fun w hm h => findF_any v L.length (ndF L) s w hF (by omega) hm h)
    have HSM : Hid (∀ (M : List NdI) va vb w, M.length ≤ 60 → NdArg w va M.length (ndF M) → NdArg w vb M.length (ndF M) → Calls Tryd.prog 12 #[va, vb] w fun e w' => e = .returned (.bool true) ∧ Below w.heap.size w w') := fun M va vb w hM h1 h2 => sameN_any va vb M.length (ndF M) w (by omega) h1 h2
    have hcase : (unA (ndF L) L.length s = [] ∧ fdI (ndF L) L.length s = none) ∨ (∃ j t, j < L.length ∧ trV (ndF L) L.length ∧ (ndF L j).p = s ∧ unA (ndF L) L.length s = ndF L j :: t ∧ (∀ q ∈ t, pL s q.p) ∧ fdI (ndF L) L.length s = some j) := by
      by_cases hr : ndR (ndF L) L.length
      · by_cases hj : ∃ j, j < L.length ∧ (ndF L j).p = s
        · obtain ⟨j, hj, e⟩ := hj
          obtain ⟨t, h1, h2⟩ := un_head hr.2 hj e
          exact Or.inr ⟨j, t, hj, hr.2, e, by rw [unA_yes hr]; exact h1, h2, fdI_some hr hj e⟩
        · refine Or.inl ⟨by rw [unA_yes hr]; exact uf_none hr.2 (fun j hjn e => hj ⟨j, hjn, e⟩), ?_⟩
          unfold fdI
          rw [dif_neg (fun h => hj h.2)]
      · refine Or.inl ⟨unA_no hr, ?_⟩
        unfold fdI
        rw [dif_neg (fun h => hr h.1)]
    rcases hcase with ⟨h1, h2⟩ | ⟨j, t, hj, hV, hjs, h1, h2, h3⟩
    · rw [h1] at HUI HUS
      rw [h2] at HFI
      clear h1 h2 hF hS hsz ho hb2
      go_wp2_with fail
      refine (HUI.out _ (HMX.out _ HW2.out) HA.out).mono ?_
      rintro e w3 ⟨⟨vg, rfl, hog⟩, hb3⟩
      obtain ⟨ga, gc, rfl⟩ := own4_slice hog
      have HA3 := hidT (HA.out.below hb3)
      have HW3 := hidT (blNd HW2.out hb3 HW2.out.size)
      have HG3 := hidT (own4_arg hog)
      clear HA hb3 HW2 hog
      go_wp2_with fail
      refine (HUS.out _ HA3.out).mono ?_
      rintro e w4 ⟨⟨vs, rfl, hos⟩, hb4⟩
      have HA4 := hidT (HA3.out.below hb4)
      have HG4 := hidT (HG3.out.below hb4)
      have HW4 := hidT (blNd HW3.out hb4 HW3.out.size)
      have HS4 := hidT (own4_arg hos)
      clear HA3 HG3 hb4 HW3 hos
      go_wp2_with fail
      refine (HSM.out [] _ _ _ (by simp) HG4.out HS4.out).mono ?_
      rintro e w5 ⟨rfl, hb5⟩
      have HA5 := hidT (HA4.out.below hb5)
      have HW5 := hidT (blNd HW4.out hb5 HW4.out.size)
      clear HA4 HG4 hb5 HW4 HS4
      go_wp2_with fail
      refine (HFI.out _ (HMX.out _ HW5.out) HA5.out).mono ?_
      rintro e w6 ⟨rfl, hb6⟩
      have HW6 := hidT (blNd HW5.out hb6 HW5.out.size)
      clear HA5 hb6 HW5
      unfold fdT ndVal
      go_wp2_with fail
      go_ret
      exact ⟨rfl, HW6.out.alloc HW6.out.size _⟩
    · rw [h1] at HUI HUS
      rw [h3] at HFI
      obtain ⟨P, hP⟩ : ∃ P, P = ndF L j := ⟨_, rfl⟩
      rw [← hP] at h1 HUI HUS hjs
      unfold fdT at HFI
      simp only at HFI
      rw [← hP] at HFI
      obtain ⟨U, hU⟩ : ∃ U, U = P :: t := ⟨_, rfl⟩
      rw [← hU] at HUI HUS h1
      have hU1 : U.length = t.length + 1 := by rw [hU]; rfl
      have hU40 : U.length ≤ 40 := by rw [← h1]; exact unA_len _ _ _
      have hmem : ∀ q ∈ U, ∃ i, i < L.length ∧ ndF L i = q ∧ unL s.data.toList q.p.data.toList := by
        intro q hq
        rw [← h1] at hq
        have hr : ndR (ndF L) L.length := by
          by_cases hr : ndR (ndF L) L.length
          · exact hr
          · rw [unA_no hr] at hq; cases hq
        rw [unA_yes hr] at hq
        exact (uf_mem _ _ _ _).1 hq
      have hrise : U.Pairwise fun a b => pL a.p b.p := by
        rw [← h1]
        by_cases hr : ndR (ndF L) L.length
        · rw [unA_yes hr]; exact uf_rise hr.2 _ (Nat.le_refl _)
        · rw [unA_no hr]; exact List.Pairwise.nil
      have HRI : Hid (∀ i, i + 1 < U.length → pL (ndF U i).p (ndF U (i + 1)).p) := fun i hi => by
        have e1 : ndF U i = U[i] := by unfold ndF; simp [show i < U.length by omega]
        have e2 : ndF U (i + 1) = U[i + 1] := by unfold ndF; simp [hi]
        rw [e1, e2]
        exact List.pairwise_iff_getElem.1 hrise i (i + 1) (by omega) hi (by omega)
      have HAT : Hid (∀ i, i < U.length → (ndF U i).p.size ≤ 100 ∧ (ndF U i).d.size ≤ 600) := fun i hi => by
        have e2 : ndF U i = U[i] := by unfold ndF; simp [hi]
        rw [e2]
        obtain ⟨k, hk, e, _⟩ := hmem _ (List.getElem_mem hi)
        rw [← e]
        exact ndF_sz L hsz hk
      have HFM : Hid (∀ i, i + 1 < U.length → s.size + 2 ≤ (ndF U (i + 1)).p.size ∧ (ndF U (i + 1)).p.extract 0 (s.size + 1) = s ++ ⟨#[47]⟩) := fun i hi => by
        have e2 : ndF U (i + 1) = t[i]'(by omega) := by
          have : U[i + 1] = t[i]'(by omega) := by subst hU; rfl
          rw [← this]; unfold ndF; simp [hi]
        have hin : ndF U (i + 1) ∈ U := by
          have e3 : ndF U (i + 1) = U[i + 1] := by unfold ndF; simp [hi]
          rw [e3]; exact List.getElem_mem hi
        have hne := pL_ne (h2 _ (List.getElem_mem (show i < t.length by omega)))
        rw [← e2] at hne
        obtain ⟨k, hk, e, hu⟩ := hmem _ hin
        refine un_form ?_ hu (fun c => hne c.symm)
        rw [← e]
        exact (hV k hk).1.1
      have HDR : Hid (t.length = 0 ∨ P.r = true) := by
        show _ ∨ _
        cases t with
        | nil => exact Or.inl rfl
        | cons q t2 =>
          right
          obtain ⟨k, hk, e, hu⟩ := hmem q (by rw [hU]; simp)
          have hne : (ndF L k).p ≠ s := by rw [e]; exact fun c => pL_ne (h2 q (by simp)) c.symm
          obtain ⟨k2, hk2, e2, hr2⟩ := un_dir hV k hk (by rw [e]; exact hu) hne
          have : k2 = j := trV_inj hV hk2 hj (e2.trans (by rw [← hP]; exact hjs.symm))
          rw [hP, ← this]
          exact hr2
      have HP0 : Hid (ndF U 0 = P) := by show _ = _; rw [hU]; rfl
      have hFU : NdLe (ndF U) U.length := ⟨by omega, by
        have := ndTot_sz (ndF U) U.length HAT.out
        omega⟩
      have HFU := hidT hFU
      have HU1 := hidT hU1
      have HSS := hidT hs
      clear h1 h2 h3 hF hS hsz ho hb2 hmem hrise hV hj hP hU hjs hFU hU1
      go_wp2_with fail
      refine (HUI.out _ (HMX.out _ HW2.out) HA.out).mono ?_
      rintro e w3 ⟨⟨vg, rfl, hog⟩, hb3⟩
      obtain ⟨ga, gc, rfl⟩ := own4_slice hog
      have HA3 := hidT (HA.out.below hb3)
      have HW3 := hidT (blNd HW2.out hb3 HW2.out.size)
      have HG3 := hidT (own4_arg hog)
      clear HA hb3 HW2 hog
      go_wp2_with fail
      refine (HUS.out _ HA3.out).mono ?_
      rintro e w4 ⟨⟨vs, rfl, hos⟩, hb4⟩
      have HA4 := hidT (HA3.out.below hb4)
      have HG4 := hidT (HG3.out.below hb4)
      have HW4 := hidT (blNd HW3.out hb4 HW3.out.size)
      have HS4 := hidT (own4_arg hos)
      clear HA3 HG3 hb4 HW3 hos
      go_wp2_with fail
      refine (HSM.out U _ _ _ (by omega) HG4.out HS4.out).mono ?_
      rintro e w5 ⟨rfl, hb5⟩
      have HA5 := hidT (HA4.out.below hb5)
      have HG5 := hidT (HG4.out.below hb5)
      have HW5 := hidT (blNd HW4.out hb5 HW4.out.size)
      clear HA4 HG4 hb5 HW4 HS4
      go_wp2_with fail
      refine (HFI.out _ (HMX.out _ HW5.out) HA5.out).mono ?_
      rintro e w6 ⟨rfl, hb6⟩
      have HW6 := hidT (blNd HW5.out hb6 HW5.out.size)
      have HG6 := hidT (HG5.out.below hb6)
      clear HA5 hb6 HW5 HG5
      have HNQ := hidT (nd_neq P P)
      obtain ⟨pp, pr, pm, pd⟩ := P
      unfold ndVal
      simp only at HNQ HDR
      have HG7 : Hid (NdArg (w6.alloc (.cells #[.string pp, .bool pr, .int .i64 pm, .string pd] 30)) (.slice ga U.length gc) U.length (ndF U)) := HG6.out.below ((Below.refl _ _).alloc (Nat.le_refl _) _)
      have HW7 : Hid (Below w.heap.size w (w6.alloc (.cells #[.string pp, .bool pr, .int .i64 pm, .string pd] 30))) := HW6.out.alloc HW6.out.size _
      have HNB : Hid ((w6.alloc (.cells #[.string pp, .bool pr, .int .i64 pm, .string pd] 30)).heap[w6.heap.size]? = some (.cells #[.string pp, .bool pr, .int .i64 pm, .string pd] 30 (0, 0))) := heap_alloc_new w6 _
      obtain ⟨a2, c2, e2, hr1⟩ := HG7.out
      cases e2
      obtain ⟨g, ea, hr⟩ := hr1 (by have := HU1.out; omega)
      subst ea
      have y0 := hr.c0 0 (by have := HU1.out; omega)
      have y1 := hr.c1 0 (by have := HU1.out; omega)
      have y2 := hr.c2 0 (by have := HU1.out; omega)
      have y3 := hr.c3 0 (by have := HU1.out; omega)
      rw [HP0.out] at y0 y1 y2 y3
      simp only at y0 y1 y2 y3
      have hnq := HNQ.out
      rw [ndNe_no rfl] at hnq
      have hun : ((U.length : Int) == 0) = false := by have := HU1.out; rw [beq_eq_false_iff_ne]; omega
      have hu0 : (0 : Int) < (U.length : Int) := by have := HU1.out; omega
      have hun2 : ¬ U.length = 0 := by have := HU1.out; omega
      have x0 := cell_of_row _ _ 0 _ _ _ HNB.out
      have x1 := cell_of_row _ _ 1 _ _ _ HNB.out
      have x2 := cell_of_row _ _ 2 _ _ _ HNB.out
      have x3 := cell_of_row _ _ 3 _ _ _ HNB.out
      clear hr hr1
      go_wp2_with fail
      go_quiet (fail)
      rename Nat => nz
      obtain ⟨w8, hw8⟩ : ∃ w8, w8 = (w6.alloc (.cells #[.string pp, .bool pr, .int .i64 pm, .string pd] 30)).drewN nz := ⟨_, rfl⟩
      rw [← hw8]
      have hbd : Below (w6.alloc (.cells #[.string pp, .bool pr, .int .i64 pm, .string pd] 30)).heap.size (w6.alloc (.cells #[.string pp, .bool pr, .int .i64 pm, .string pd] 30)) w8 := by rw [hw8]; exact ⟨rfl, rfl, rfl, Nat.le_refl _, fun _ _ => rfl⟩
      have HG8 := hidT (HG7.out.below hbd)
      have HW8 := hidT (blNd HW7.out hbd HW7.out.size)
      have HNB8 : Hid (w8.heap[w6.heap.size]? = some (.cells #[.string pp, .bool pr, .int .i64 pm, .string pd] 30 (0, 0))) := (hbd.block _ (by rw [World.size_alloc]; omega)).trans HNB.out
      have HST : Hid (Below w8.heap.size w8 w8) := Below.refl _ _
      generalize w6.heap.size = nb at HNB8 ⊢
      clear hw8 hbd HNB HW7 HG7 HW6 HG6 x0 x1 x2 x3 y0 y1 y2 y3 hnq HNQ nz hun hun2
      have HFD : Hid (∀ (x : ByteArray) w, x.size ≤ 1048576 → MxL w → NdArg w (.slice (some ⟨g, 0, none⟩) U.length gc) U.length (ndF U) → Calls Tryd.prog 14 #[.slice (some ⟨g, 0, none⟩) U.length gc, .string x] w fun e w' => e = .returned (fdT (ndF U) (fdI (ndF U) U.length x)) ∧ Below w.heap.size w w') := fun x w h1 h2 h3 => findF_any _ U.length (ndF U) x w HFU.out h1 h2 h3
      have HPA : Hid (∀ (x : ByteArray) w, x.size ≤ 1048576 → MxL w → Calls Tryd.prog 15 #[.string x] w fun e w' => e = .returned (.string (parB x)) ∧ Below w.heap.size w w') := fun x w h1 h2 => parent_any x w h1 h2
      have hnq0 := fun w => nd_eql nd0 nd0 w
      rw [ndNe_no rfl] at hnq0
      unfold nd0 at hnq0
      simp only at hnq0
      have HQ0 := hidT hnq0
      clear hnq0
      go_wp2_with fail
      go_loopw [8] (fun x wr => ∃ i : Nat, i ≤ U.length ∧ x = .int .i64 ((i : Int) + 1) ∧ Hid (Below w8.heap.size w8 wr)) (fun x _ => (U.length + 2) - (trI x).toNat)
      case atStart => exact ⟨0, by omega, rfl, HST⟩
      case round =>
        clear HST
        rename World => W0
        obtain ⟨i, hi, rfl, HST⟩ := hrel
        by_cases hlt : i + 1 < U.length
        · have hltI : (i : Int) + 1 < (U.length : Int) := by omega
          have hltJ : (i : Int) < (U.length : Int) := by omega
          have ht1 : (0 : Int) ≤ (i : Int) + 1 := by omega
          have htn : ((i : Int) + 1).toNat = i + 1 := by omega
          have hsub : (i : Int) + 1 - 1 = (i : Int) := by omega
          obtain ⟨q, hq⟩ : ∃ q, q = 4 * i := ⟨_, rfl⟩
          obtain ⟨r, hr⟩ : ∃ r, r = 4 * (i + 1) := ⟨_, rfl⟩
          have htq : i * 4 = q := by omega
          have htr : (i + 1) * 4 = r := by omega
          obtain ⟨xa, hxa⟩ : ∃ xa, xa = (ndF U i).p := ⟨_, rfl⟩
          obtain ⟨xb, hxb⟩ : ∃ xb, xb = (ndF U (i + 1)).p := ⟨_, rfl⟩
          have HXQ : Hid (∀ wd, Below w8.heap.size w8 wd → wd.cell? ⟨g, q, none⟩ = some (.string xa) ∧ wd.cell? ⟨g, r, none⟩ = some (.string xb)) := fun wd hb => by
            obtain ⟨a2, c2, e2, hr1⟩ := HG8.out.below hb
            cases e2
            obtain ⟨g2, e3, hr2⟩ := hr1 (by omega)
            cases e3
            rw [hq, hr, hxa, hxb]
            exact ⟨hr2.c0 i (by omega), hr2.c0 (i + 1) hlt⟩
          have HLS := HRI.out i hlt
          obtain ⟨hf1, hf2⟩ := HFM.out i hlt
          have hsb := (HAT.out (i + 1) hlt).1
          rw [← hxa, ← hxb] at HLS
          rw [← hxb] at hf1 hf2 hsb
          unfold pL at HLS
          have HLL := hidT HLS
          have HEQ : Hid (((xb.extract 0 (s.size + 1)).toList == (s ++ ⟨#[47]⟩).toList) = true) := by show _ = _; rw [hf2]; simp
          have HF1 := hidT hf1
          have HSB := hidT hsb
          have HPZ : Hid ((parB xb).size ≤ 1048576) := by
            show _ ≤ _
            unfold parB
            split
            · rw [ByteArray.size_extract]; omega
            · exact Nat.zero_le _
          have HLT := hidT hlt
          have HMW := hidT (HMX.out _ (blNd HW8.out HST.out HW8.out.size))
          have x1 := (HXQ.out _ HST.out).2
          clear hq hr hxa hxb HLS hf1 hf2 hsb hlt hi
          go_wp2_with fail
          refine (HPA.out xb _ (by have := HSB.out; omega) HMW.out).mono ?_
          rintro e w9 ⟨rfl, hb9⟩
          have HS9 := hidT (blNd HST.out hb9 HST.out.size)
          have HM9 := hidT (HMX.out _ (blNd HW8.out HS9.out HW8.out.size))
          clear hb9 x1 HST HMW
          go_wp2_with fail
          refine (HFD.out (parB xb) _ HPZ.out HM9.out (HG8.out.below HS9.out)).mono ?_
          rintro e w10 ⟨rfl, hb10⟩
          have HS10 := hidT (blNd HS9.out hb10 HS9.out.size)
          clear hb10 HS9 HM9
          have hbI : (s.size : Int) + 2 ≤ (xb.size : Int) := by have := HF1.out; omega
          cases fdI (ndF U) U.length (parB xb) with
          | some k =>
            unfold fdT ndVal
            simp only
            generalize ndF U k = K9
            obtain ⟨ka, kr, km, kd⟩ := K9
            try simp only
            have HSA : Hid (Below w8.heap.size w8 (w10.alloc (.cells #[.string ka, .bool kr, .int .i64 km, .string kd] 30))) := HS10.out.alloc HS10.out.size _
            obtain ⟨y0, y1⟩ := HXQ.out _ HSA.out
            have heq := HEQ.out
            have hll := HLL.out
            have hc1 : (s.size : Int) + 1 ≤ (xb.size : Int) := by omega
            have hc2 : (0 : Int) ≤ (s.size : Int) + 1 := by omega
            have hc3 : ((s.size : Int) + 1).toNat = s.size + 1 := by omega
            go_wp2_with fail
            go_quiet (fail)
            rename Nat => nz
            have HSE : Hid (Below w8.heap.size w8 ((w10.alloc (.cells #[.string ka, .bool kr, .int .i64 km, .string kd] 30)).drewN nz)) := blNd HSA.out ⟨rfl, rfl, rfl, Nat.le_refl _, fun _ _ => rfl⟩ HSA.out.size
            clear y0 y1 heq hll hc1 hc2 hc3 HSA HS10
            generalize (w10.alloc (.cells #[.string ka, .bool kr, .int .i64 km, .string kd] 30)).drewN nz = wz at HSE ⊢
            clear nz
            go_wp2_with fail
            go_roundw
            case rel => exact ⟨i + 1, by have := HLT.out; omega, by go_num, HSE⟩
            case measure => simp [trI]; have := HLT.out; omega
          | none =>
            unfold fdT ndVal nd0
            simp only
            have HSA : Hid (Below w8.heap.size w8 (w10.alloc (.cells #[.string ⟨#[]⟩, .bool false, .int .i64 0, .string ⟨#[]⟩] 30))) := HS10.out.alloc HS10.out.size _
            obtain ⟨y0, y1⟩ := HXQ.out _ HSA.out
            have heq := HEQ.out
            have hll := HLL.out
            have hc1 : (s.size : Int) + 1 ≤ (xb.size : Int) := by omega
            have hc2 : (0 : Int) ≤ (s.size : Int) + 1 := by omega
            have hc3 : ((s.size : Int) + 1).toNat = s.size + 1 := by omega
            have hnq0 := HQ0.out
            go_wp2_with fail
            go_quiet (fail)
            rename Nat => nz
            have HSE : Hid (Below w8.heap.size w8 ((w10.alloc (.cells #[.string ⟨#[]⟩, .bool false, .int .i64 0, .string ⟨#[]⟩] 30)).drewN nz)) := blNd HSA.out ⟨rfl, rfl, rfl, Nat.le_refl _, fun _ _ => rfl⟩ HSA.out.size
            clear y0 y1 heq hll hc1 hc2 hc3 HSA HS10
            generalize (w10.alloc (.cells #[.string ⟨#[]⟩, .bool false, .int .i64 0, .string ⟨#[]⟩] 30)).drewN nz = wz at HSE ⊢
            clear nz
            go_wp2_with fail
            go_roundw
            case rel => exact ⟨i + 1, by have := HLT.out; omega, by go_num, HSE⟩
            case measure => simp [trI]; have := HLT.out; omega
        · have hltI : ¬ (i : Int) + 1 < (U.length : Int) := by omega
          clear hlt hi
          have x1 := cell_of_row _ _ 1 _ _ _ ((HST.out.block _ (Array.getElem?_eq_some_iff.1 HNB8.out).1).trans HNB8.out)
          have HWE := hidT (blNd HW8.out HST.out HW8.out.size)
          rcases HDR.out with h0 | h0
          · have hone : ((U.length : Int) == 1) = true := by have := HU1.out; rw [beq_iff_eq]; omega
            have HONE := hidT hone
            clear h0
            cases pr with
            | true =>
              go_wp2_with fail
              go_ret
              exact ⟨rfl, HWE.out⟩
            | false =>
              go_wp2_with fail
              go_ret
              exact ⟨rfl, HWE.out⟩
          · subst h0
            go_wp2_with fail
            go_ret
            exact ⟨rfl, HWE.out⟩

set_option maxRecDepth 100000 in
theorem lifted (os : Os) (started : os.Started) (H : Type) (enc : TypeId × Value → H) :
    ReturnsInHanded {} Tryd.checked os 3 .any (fun w args => (Rows.fnUnderSpec.pre enc Tryd.prog Tryd.f3 [] false w args ∧ laidMetH Tryd.prog [("unicode/utf8.acceptRanges", Rows.laid_unicode_utf8_acceptRanges), ("unicode/utf8.first", Rows.laid_unicode_utf8_first)] w) ∧ sizedMet enc Tryd.prog Tryd.f3 (OpenSpec.ofChange Rows.fnUnderSpec) false w args) (Rows.fnUnderSpec.post enc Tryd.prog Tryd.f3 false true false false) := by
  refine handed_laid (C := Tryd.checked) (X := fun w => laidMetH Tryd.prog [("unicode/utf8.acceptRanges", Rows.laid_unicode_utf8_acceptRanges), ("unicode/utf8.first", Rows.laid_unicode_utf8_first)] w) (fun _ _ hh h => h.of_heap hh) own started (by kernel_rfl) Tryd.func3
    (ChangeSpec.witness_shaped (enc := enc) (C := Tryd.checked) (os := os) (X := fun w _ => laidMetH Tryd.prog [("unicode/utf8.acceptRanges", Rows.laid_unicode_utf8_acceptRanges), ("unicode/utf8.first", Rows.laid_unicode_utf8_first)] w) false (World.laidAll Tryd.prog os [("unicode/utf8.acceptRanges", Rows.laid_unicode_utf8_acceptRanges), ("unicode/utf8.first", Rows.laid_unicode_utf8_first)]) #[.slice none 0 0] 8 (World.laidAll_os _ _ _) (World.shaped_of_ZipB (by kernel_rfl) (by kernel_rfl)) (by kernel_rfl) (by kernel_rfl) (by kernel_rfl) (by rw [MakeChecks.laidMetH_plain _ _ _ (by kernel_rfl)]; exact laidMet_laidAll _ (by kernel_rfl) (by kernel_rfl))) ?_
  intro W base args ds gs before hval0 hW hL hsh
  have hval : ∀ (j : Nat) t v, Tryd.f3.params[j]? = some t → args[j]? = some v → Value.okWide Tryd.prog W .any base t v := hval0
  have hW' := hW
  obtain ⟨p, q, hA0, hV, rfl, hfz, hnd⟩ := hW
  have hA : DataW.TrodAll enc Tryd.prog W 0 (fun _ => true) true Tryd.f3.params.toList args.toList ds p := hA0
  rw [Tryd.params3] at hA hval
  obtain ⟨v0, vs0, d0, ds0, p0, q0, hargs, rfl, rfl, h0, r0⟩ := trodAll_cons hA
  obtain ⟨rfl, rfl, rfl⟩ := trodAll_nil r0
  obtain rfl : args = #[v0] := by cases args; simp_all
  obtain ⟨rfl, rfl⟩ := trodVars_none hV
  have hMX : MxL W := mx_of_shape hsh
  obtain ⟨a0, len0, cap0, rfl⟩ := okWide_slice Tryd.underlying22 (hval 0 22 v0 rfl rfl)
  have k0 := h0
  have lt0 : ∀ x ∈ p0, x.block < W.heap.size := by obtain ⟨m, hm⟩ := k0; exact DataW.trod_lt m _ _ _ hm
  obtain ⟨z0, w0⟩ : ∃ zs, IsRow .u8 W a0 len0 cap0 zs := by
    obtain ⟨fuel, hf⟩ := h0
    rcases open_ints Tryd.underlying22 Tryd.underlying5 (by kernel_rfl) hf with ⟨hcs, _⟩ | ⟨x, l, c, zs, hcs, _, hl, hm, hz, _, hcell, hwz⟩
    · simp [Value.cells] at hcs
      obtain ⟨rfl, rfl, rfl⟩ := hcs
      exact ⟨[], .inl ⟨rfl, rfl, rfl, rfl⟩⟩
    · simp [Value.cells] at hcs
      obtain ⟨rfl, rfl, rfl⟩ := hcs
      exact ⟨zs, .inr ⟨_, rfl, hl, hm, by simpa using hz, hcell, hwz⟩⟩
  clear hA0 hval0
  refine (walk a0 len0 cap0 z0 W w0 hMX).mono fun e W' ⟨he, bel⟩ => ?_
  subst he
  exact ⟨_, rfl, _, _, _, [], _, [], hW', trodAll_mk1 (shut_bool Tryd.underlying4 _), (trodAll_cons_mk (Below.trod laidOut (by kernel_rfl) (of_decide_eq_true (by kernel_rfl)) k0 bel lt0) trodAll_mk0), rfl, bel.frame _, fun h => by cases h⟩

theorem over : Rows.fnUnderRow.holds Tryd.pinned (OpenSpec.ofChange Rows.fnUnderSpec) :=
  OpenClaim.holds_of_wide 3 Tryd.f3 rfl rfl rfl rfl rfl rfl rfl ⟨rfl, rfl, rfl, rfl, rfl⟩ rfl rfl rfl rfl rfl (by kernel_rfl) Tryd.func3 (by kernel_rfl)
    (of_decide_eq_true (by kernel_rfl)) (by unfold Func.isWrapper; first | (rw [if_pos (by decide +kernel)]; kernel_rfl) | (rw [if_neg (by decide +kernel)]; exact ⟨rfl, rfl⟩))
    (fun os started H enc _ => lifted os started H enc)

theorem proved : Rows.FnUnderCardSaid :=
  Claim7.holds_tied_plain_at .later [] [.data, .pinned] true (true, "035472ad97aa82c5e00724a87885a4d71eec7f57e226dfe30d186398433c0bb3") false
    over (fun _ h => by cases h) (by kernel_rfl) (fun _ h => by cases h) fnUnder_row_tie rfl ⟨rfl, rfl⟩ (by kernel_rfl) rfl
    (fun f fn hf hfn => by
      obtain rfl : f = 3 := Option.some.inj ((show Tryd.prog.funcNamed "loop.example/g00228/laws.FnUnder" = some 3 by kernel_rfl).symm.trans hf) |>.symm
      obtain rfl : fn = Tryd.f3 := (Option.some.inj (Tryd.func3.symm.trans hfn)).symm
      exact ⟨by kernel_rfl, fun j t ht => by
        have hall : Tryd.f3.params.all (fun t => Tryd.prog.wantsStandIn t == false) = true := by kernel_rfl
        obtain ⟨hj, rfl⟩ := Array.getElem?_eq_some_iff.1 ht
        exact beq_iff_eq.1 (Array.all_eq_true.1 hall j hj)⟩)
    (by kernel_rfl)
#print axioms proved
end Go.Proofs.YtfegoldjejlcaaaDoor.fnUnder
