/-
  A link made to skip its base: both sides, and who owns what
-/
import Derived.Test.YtpeddaljgmkomaaRows
import Derived.Test.YtpeddaljgmkomaaSkC
import Derived.Test.YtpeddaljgmkomaaSkS
import Derived.Test.YtpeddaljgmkomaaPk28
import Derived.Test.YtpeddaljgmkomaaPk15
import Derived.WalkKit
import Derived.ProofKit
import Derived.OpenShut
import Derived.ShutString
import Derived.ChangeOld
import Derived.Below
import Derived.Lib.SmallJoins
import Derived.Deep.Slices
namespace Go.Proofs.Ytpeddaljgmkomaa.fnExactSkip
open Go.ChangeShapes Go.WideShapes Go.ChangeAt Go.RowKit
open Go.ChangeMaps (open_string shut_string)
open Go.Deep
set_option linter.unusedVariables false
set_option linter.unusedSimpArgs false

theorem own : ownKnob Try.prog.godebug = none := by kernel_rfl
theorem laidOut : laidOutB Try.prog = true := by kernel_rfl
theorem lkMN_of {L : List LkI} (h : lkN L ≤ 1048576) : 1 + lkMN L ≤ 4000000 := by
  have h2 : ∀ M : List LkI, lkMN M ≤ 2 * M.length + 3 * (M.map lkW).sum := by
    intro M
    induction M with
    | nil => simp [lkMN]
    | cons x M ih =>
      unfold lkMN at ih ⊢
      rw [List.map_cons, List.sum_cons, List.map_cons, List.sum_cons, List.length_cons]
      have : lkM1 x ≤ 2 + 3 * lkW x := by unfold lkM1 lkW pcN; omega
      omega
  have := h2 L
  unfold lkN at h
  omega
set_option maxRecDepth 100000 in
set_option maxHeartbeats 4000000 in
theorem walkL (a : Option Addr) (n c : Nat) (L : List LkI) (k0 : Int) (w : World) (hv : Rd w (lksD L) (.slice a n c)) (hm : L.length ≤ maxLen) (hz : ∀ x ∈ L, LkZ x) (hn : lkN L ≤ 1048576) (ok : Bool) (M : List LkI) (hM1 : M.length ≤ 1048576) (hM2 : ∀ x ∈ M, x.p.length ≤ 1048576) (hM3 : 1 + lkMN M ≤ 4000000)
    (hu : ∀ v bs w, Hd w (lksD L) v bs → Calls Try.prog 29 #[v, .int .i64 k0] w fun e w' => (∃ v', e = .returned (.tuple #[v', .bool ok]) ∧ Own w' w.heap.size (lksD M) v') ∧ Below w.heap.size w w')
    (hs : ∀ v bs w, Hd w (lksD L) v bs → Calls Try.prog 28 #[v, .int .i64 k0] w fun e w' => (∃ v', e = .returned (.tuple #[v', .bool ok]) ∧ Own w' w.heap.size (lksD M) v') ∧ Below w.heap.size w w') :
    Calls Try.prog 8 #[.slice a n c, .int .i64 k0] w fun e w' => e = .returned (.bool true) ∧ Below w.heap.size w w' := by
  have HZ : Hid (∀ w, Rd w (lksD L) (.slice a n c) → Calls Try.prog 13 #[.slice a n c, .int .i64 1048576] w fun e w' => e = .returned (szV 1048576 (lkN L)) ∧ Below w.heap.size w w') := fun w h => szLkS_deep _ L 1048576 w (Nat.le_refl _) hm hz h
  have HV := dhid hv
  have HV0 := dhid hv
  obtain ⟨hL, hn1, hp1⟩ := lkLe_of hz hn
  rw [szV_le hn] at HZ
  have hl : ¬ ((1048576 - lkN L : Nat) : Int) < 0 := by omega
  have HT : Hid (∀ w, Rd w (lksD L) (.slice a n c) → Calls Try.prog 15 #[.slice a n c] w fun e w' => (∃ v', e = .returned v' ∧ Own w' w.heap.size (lksD L) v') ∧ Below w.heap.size w w') := fun w h => toLkS_deep _ L w hn1 hp1 h
  have HE : Hid (∀ v1 v2 b1 b2 w, Hd w (lksD L) v1 b1 → Hd w (lksD L) v2 b2 → Calls Try.prog 17 #[v1, v2] w fun e w' => e = .returned (.bool true) ∧ Below w.heap.size w w') := fun v1 v2 b1 b2 w h1 h2 => eqLkS_deep v1 v2 L b1 b2 w hn1 hp1 h1 h2
  have HEM : Hid (∀ v1 v2 b1 b2 w, Hd w (lksD M) v1 b1 → Hd w (lksD M) v2 b2 → Calls Try.prog 17 #[v1, v2] w fun e w' => e = .returned (.bool true) ∧ Below w.heap.size w w') := fun v1 v2 b1 b2 w h1 h2 => eqLkS_deep v1 v2 M b1 b2 w hM1 hM2 h1 h2
  have HU := dhid hu
  have HS := dhid hs
  have hL4 := lkMN_of hn
  obtain ⟨KL, hKL⟩ : ∃ KL, KL = 1 + lkMN L := ⟨_, rfl⟩
  obtain ⟨KM, hKM⟩ : ∃ KM, KM = 1 + lkMN M := ⟨_, rfl⟩
  have HML : Hid (∀ v bs w, Hd w (lksD L) v bs → bs.Nodup → Calls Try.prog 24 #[v, .int .i64 1] w fun e w' => (e = .returned (.int .i64 (KL : Int)) ∧ Hd w' (lksD (lkMk L 1)) v bs) ∧ Tch w w' bs) := fun v bs w h1 h2 => by rw [hKL]; exact markLk_deep v L 1 bs w hp1 (Nat.le_refl _) hL4 h1 h2
  have HMM : Hid (∀ v bs w, Hd w (lksD M) v bs → bs.Nodup → Calls Try.prog 24 #[v, .int .i64 1] w fun e w' => (e = .returned (.int .i64 (KM : Int)) ∧ Hd w' (lksD (lkMk M 1)) v bs) ∧ Tch w w' bs) := fun v bs w h1 h2 => by rw [hKM]; exact markLk_deep v M 1 bs w hM2 (Nat.le_refl _) hM3 h1 h2
  have HH : Hid (∀ v bs w, Hd w (lksD (lkMk M 1)) v bs → Calls Try.prog 25 #[v, .int .i64 1] w fun e w' => e = .returned (.int .i64 (KM : Int)) ∧ Below w.heap.size w w') := fun v bs w h1 => by rw [hKM]; exact heldLk_deep v M 1 bs w hM2 (Nat.le_refl _) hM3 h1
  have hKL0 : ¬ (KL : Int) < 0 := by omega
  have hKM0 : ¬ (KM : Int) < 0 := by omega
  generalize 1048576 - lkN L = Z at HZ hl
  clear hv hn hn1 hp1 hm hL hz hu hs hL4 hKL hKM hM1 hM2 hM3
  go_enter Try.func8, Try.ntmps8
  go_wp2_with fail
  refine (HZ.out _ HV.out).mono ?_
  rintro e w1 ⟨rfl, hb⟩
  have HV1 := dhid (HV.out.under hb)
  have HB1 := dhid hb
  clear hb HV
  go_wp2_with fail
  refine (HT.out _ HV1.out).mono ?_
  rintro e w2 ⟨⟨va, rfl, ba, ha, _⟩, hb⟩
  have HV2 := dhid (HV1.out.under hb)
  have HB2 := dhid (dblow HB1.out hb HB1.out.size)
  clear hb HV1 HB1
  go_wp2_with fail
  refine (HS.out _ _ _ ha).mono ?_
  rintro e w3 ⟨⟨vW, rfl, bW, hW, _⟩, hb⟩
  have HV3 := dhid (HV2.out.under hb)
  have HB3 := dhid (dblow HB2.out hb HB2.out.size)
  have HW3 := dhid hW
  have HBW : Hid (∀ b ∈ bW, b < w3.heap.size) := hW.lt
  clear hb HV2 HB2 ha hW
  go_wp2_with fail
  refine (HT.out _ HV3.out).mono ?_
  rintro e w4 ⟨⟨vx, rfl, bx, hx, hxn, hxl⟩, hb⟩
  have HV4 := dhid (HV3.out.under hb)
  have HB4 := dhid (dblow HB3.out hb HB3.out.size)
  have HW4 := dhid (HW3.out.under hb)
  have HX4 := dhid hx
  have HS34 : Hid (w3.heap.size ≤ w4.heap.size) := hb.size
  have HBX : Hid (bx.Nodup ∧ (∀ b ∈ bx, w3.heap.size ≤ b ∧ b < w4.heap.size) ∧ w.heap.size ≤ w3.heap.size) := ⟨hxn, fun b hb' => ⟨hxl b hb', hx.lt b hb'⟩, HB3.out.size⟩
  clear hb HV3 HB3 HW3 hx hxn hxl
  go_wp2_with fail
  refine (HU.out _ _ _ HX4.out).mono ?_
  rintro e w5 ⟨⟨vG, rfl, bG, hG, hgn, hgl⟩, hb⟩
  have HV5 := dhid (HV4.out.under hb)
  have HB5 := dhid (dblow HB4.out hb HB4.out.size)
  have HW5 := dhid (HW4.out.under hb)
  have HX5 := dhid (HX4.out.under hb)
  have HG5 := dhid hG
  have HBG : Hid (bG.Nodup ∧ (∀ b ∈ bG, w4.heap.size ≤ b) ∧ w3.heap.size ≤ w4.heap.size) := ⟨hgn, hgl, HS34.out⟩
  clear hb HV4 HB4 HW4 HX4 hG hgn hgl
  cases ok with
  | true =>
    go_wp2_with fail
    refine (HEM.out _ _ _ _ _ HG5.out HW5.out).mono ?_
    rintro e w6 ⟨rfl, hb⟩
    have HV6 := dhid (HV5.out.under hb)
    have HW6 := dhid (HW5.out.under hb)
    have HX6 := dhid (HX5.out.under hb)
    have HG6 := dhid (HG5.out.under hb)
    have HB6 := dhid (dblow HB5.out hb HB5.out.size)
    clear hb HV5 HW5 HX5 HG5 HB5
    go_wp2_with fail
    refine (HT.out _ HV6.out).mono ?_
    rintro e w7 ⟨⟨vy, rfl, by1, hy, _⟩, hb⟩
    have HV7 := dhid (HV6.out.under hb)
    have HW7 := dhid (HW6.out.under hb)
    have HX7 := dhid (HX6.out.under hb)
    have HG7 := dhid (HG6.out.under hb)
    have HB7 := dhid (dblow HB6.out hb HB6.out.size)
    have HY7 := dhid hy
    clear hb HV6 HW6 HX6 HG6 HB6
    go_wp2_with fail
    refine (HE.out _ _ _ _ _ HX7.out HY7.out).mono ?_
    rintro e w8 ⟨rfl, hb⟩
    have HV8 := dhid (HV7.out.under hb)
    have HW8 := dhid (HW7.out.under hb)
    have HX8 := dhid (HX7.out.under hb)
    have HG8 := dhid (HG7.out.under hb)
    have HB8 := dhid (dblow HB7.out hb HB7.out.size)
    clear hb HV7 HW7 HX7 HG7 HB7
    clear HY7 hy
    go_wp2_with fail
    refine (HML.out _ _ _ HX8.out HBX.out.1).mono ?_
    rintro e w9 ⟨⟨rfl, _⟩, ht⟩
    have HB9 := dhid (ht.below HB8.out HB8.out.size (fun b hb' => by have h1 := (HBX.out.2.1 b hb').1; have h2 := HBX.out.2.2; omega))
    have HV9 := dhid (HV0.out.under HB9.out)
    have HW9 := dhid (HW8.out.tch ht (fun b hb' hc => by have h1 := HBW.out b hb'; have h2 := (HBX.out.2.1 b hc).1; omega))
    have HG9 := dhid (HG8.out.tch ht (fun b hb' hc => by have h1 := HBG.out.2.1 b hb'; have h2 := (HBX.out.2.1 b hc).2; omega))
    clear ht HB8 HV8 HW8 HX8 HG8 HML
    go_wp2_with fail
    refine (HEM.out _ _ _ _ _ HG9.out HW9.out).mono ?_
    rintro e w10 ⟨rfl, hb⟩
    have HV10 := dhid (HV9.out.under hb)
    have HW10 := dhid (HW9.out.under hb)
    have HG10 := dhid (HG9.out.under hb)
    have HB10 := dhid (dblow HB9.out hb HB9.out.size)
    clear hb HV9 HW9 HG9 HB9
    go_wp2_with fail
    refine (HMM.out _ _ _ HG10.out HBG.out.1).mono ?_
    rintro e w11 ⟨⟨rfl, hg11⟩, ht⟩
    have HB11 := dhid (ht.below HB10.out HB10.out.size (fun b hb' => by have h1 := HBG.out.2.1 b hb'; have h2 := HBG.out.2.2; have h3 := HBX.out.2.2; omega))
    have HV11 := dhid (HV0.out.under HB11.out)
    have HW11 := dhid (HW10.out.tch ht (fun b hb' hc => by have h1 := HBW.out b hb'; have h2 := HBG.out.2.1 b hc; have h3 := HBG.out.2.2; omega))
    have HG11 := dhid hg11
    clear ht HB10 HV10 HW10 HG10 HMM hg11
    go_wp2_with fail
    refine (HH.out _ _ _ HG11.out).mono ?_
    rintro e w12 ⟨rfl, hb⟩
    have HV12 := dhid (HV11.out.under hb)
    have HW12 := dhid (HW11.out.under hb)
    have HG12 := dhid (HG11.out.under hb)
    have HB12 := dhid (dblow HB11.out hb HB11.out.size)
    clear hb HV11 HW11 HG11 HB11
    go_wp2_with fail
    refine (HT.out _ HV12.out).mono ?_
    rintro e w13 ⟨⟨vz, rfl, bz, hz, _⟩, hb⟩
    have HV13 := dhid (HV12.out.under hb)
    have HW13 := dhid (HW12.out.under hb)
    have HG13 := dhid (HG12.out.under hb)
    have HB13 := dhid (dblow HB12.out hb HB12.out.size)
    clear hb HV12 HW12 HG12 HB12
    go_wp2_with fail
    refine (HU.out _ _ _ hz).mono ?_
    rintro e w14 ⟨⟨vH, rfl, bH, hH, _⟩, hb⟩
    have HW14 := dhid (HW13.out.under hb)
    have HG14 := dhid (HG13.out.under hb)
    have HB14 := dhid (dblow HB13.out hb HB13.out.size)
    clear hb HW13 HG13 HB13 HV13 hz
    go_wp2_with fail
    refine (HEM.out _ _ _ _ _ hH HW14.out).mono ?_
    rintro e w15 ⟨rfl, hb⟩
    have HG15 := dhid (HG14.out.under hb)
    have HB15 := dhid (dblow HB14.out hb HB14.out.size)
    clear hb HG14 HB14 HW14 hH
    go_wp2_with fail
    refine (HH.out _ _ _ HG15.out).mono ?_
    rintro e w16 ⟨rfl, hb⟩
    have HB16 := dhid (dblow HB15.out hb HB15.out.size)
    clear hb HB15 HG15
    go_wp2_with fail
    go_ret
    exact ⟨rfl, HB16.out⟩
  | false =>
    go_wp2_with fail
    refine (HEM.out _ _ _ _ _ HG5.out HW5.out).mono ?_
    rintro e w6 ⟨rfl, hb⟩
    have HV6 := dhid (HV5.out.under hb)
    have HW6 := dhid (HW5.out.under hb)
    have HX6 := dhid (HX5.out.under hb)
    have HG6 := dhid (HG5.out.under hb)
    have HB6 := dhid (dblow HB5.out hb HB5.out.size)
    clear hb HV5 HW5 HX5 HG5 HB5
    go_wp2_with fail
    refine (HT.out _ HV6.out).mono ?_
    rintro e w7 ⟨⟨vy, rfl, by1, hy, _⟩, hb⟩
    have HV7 := dhid (HV6.out.under hb)
    have HW7 := dhid (HW6.out.under hb)
    have HX7 := dhid (HX6.out.under hb)
    have HG7 := dhid (HG6.out.under hb)
    have HB7 := dhid (dblow HB6.out hb HB6.out.size)
    have HY7 := dhid hy
    clear hb HV6 HW6 HX6 HG6 HB6
    go_wp2_with fail
    refine (HE.out _ _ _ _ _ HX7.out HY7.out).mono ?_
    rintro e w8 ⟨rfl, hb⟩
    have HV8 := dhid (HV7.out.under hb)
    have HW8 := dhid (HW7.out.under hb)
    have HX8 := dhid (HX7.out.under hb)
    have HG8 := dhid (HG7.out.under hb)
    have HB8 := dhid (dblow HB7.out hb HB7.out.size)
    clear hb HV7 HW7 HX7 HG7 HB7
    clear HY7 hy
    go_wp2_with fail
    refine (HML.out _ _ _ HX8.out HBX.out.1).mono ?_
    rintro e w9 ⟨⟨rfl, _⟩, ht⟩
    have HB9 := dhid (ht.below HB8.out HB8.out.size (fun b hb' => by have h1 := (HBX.out.2.1 b hb').1; have h2 := HBX.out.2.2; omega))
    have HV9 := dhid (HV0.out.under HB9.out)
    have HW9 := dhid (HW8.out.tch ht (fun b hb' hc => by have h1 := HBW.out b hb'; have h2 := (HBX.out.2.1 b hc).1; omega))
    have HG9 := dhid (HG8.out.tch ht (fun b hb' hc => by have h1 := HBG.out.2.1 b hb'; have h2 := (HBX.out.2.1 b hc).2; omega))
    clear ht HB8 HV8 HW8 HX8 HG8 HML
    go_wp2_with fail
    refine (HEM.out _ _ _ _ _ HG9.out HW9.out).mono ?_
    rintro e w10 ⟨rfl, hb⟩
    have HV10 := dhid (HV9.out.under hb)
    have HW10 := dhid (HW9.out.under hb)
    have HG10 := dhid (HG9.out.under hb)
    have HB10 := dhid (dblow HB9.out hb HB9.out.size)
    clear hb HV9 HW9 HG9 HB9
    go_wp2_with fail
    refine (HMM.out _ _ _ HG10.out HBG.out.1).mono ?_
    rintro e w11 ⟨⟨rfl, hg11⟩, ht⟩
    have HB11 := dhid (ht.below HB10.out HB10.out.size (fun b hb' => by have h1 := HBG.out.2.1 b hb'; have h2 := HBG.out.2.2; have h3 := HBX.out.2.2; omega))
    have HV11 := dhid (HV0.out.under HB11.out)
    have HW11 := dhid (HW10.out.tch ht (fun b hb' hc => by have h1 := HBW.out b hb'; have h2 := HBG.out.2.1 b hc; have h3 := HBG.out.2.2; omega))
    have HG11 := dhid hg11
    clear ht HB10 HV10 HW10 HG10 HMM hg11
    go_wp2_with fail
    refine (HH.out _ _ _ HG11.out).mono ?_
    rintro e w12 ⟨rfl, hb⟩
    have HV12 := dhid (HV11.out.under hb)
    have HW12 := dhid (HW11.out.under hb)
    have HG12 := dhid (HG11.out.under hb)
    have HB12 := dhid (dblow HB11.out hb HB11.out.size)
    clear hb HV11 HW11 HG11 HB11
    go_wp2_with fail
    refine (HT.out _ HV12.out).mono ?_
    rintro e w13 ⟨⟨vz, rfl, bz, hz, _⟩, hb⟩
    have HV13 := dhid (HV12.out.under hb)
    have HW13 := dhid (HW12.out.under hb)
    have HG13 := dhid (HG12.out.under hb)
    have HB13 := dhid (dblow HB12.out hb HB12.out.size)
    clear hb HV12 HW12 HG12 HB12
    go_wp2_with fail
    refine (HU.out _ _ _ hz).mono ?_
    rintro e w14 ⟨⟨vH, rfl, bH, hH, _⟩, hb⟩
    have HW14 := dhid (HW13.out.under hb)
    have HG14 := dhid (HG13.out.under hb)
    have HB14 := dhid (dblow HB13.out hb HB13.out.size)
    clear hb HW13 HG13 HB13 HV13 hz
    go_wp2_with fail
    refine (HEM.out _ _ _ _ _ hH HW14.out).mono ?_
    rintro e w15 ⟨rfl, hb⟩
    have HG15 := dhid (HG14.out.under hb)
    have HB15 := dhid (dblow HB14.out hb HB14.out.size)
    clear hb HG14 HB14 HW14 hH
    go_wp2_with fail
    refine (HH.out _ _ _ HG15.out).mono ?_
    rintro e w16 ⟨rfl, hb⟩
    have HB16 := dhid (dblow HB15.out hb HB15.out.size)
    clear hb HB15 HG15
    go_wp2_with fail
    go_ret
    exact ⟨rfl, HB16.out⟩
set_option maxRecDepth 100000 in
set_option maxHeartbeats 1000000 in
theorem walk (v : Value) (L : List LkI) (hm : L.length ≤ maxLen) (hz : ∀ x ∈ L, LkZ x) (k0 : Int) (wk0 : (Lit.int .i64 k0).wf = true) (w : World) (hv : Rd w (lksD L) v) :
    Calls Try.prog 8 #[v, .int .i64 k0] w fun e w' => e = .returned (.bool true) ∧ Below w.heap.size w w' := by
  obtain ⟨a, n, c, rfl, _⟩ := hv.slice
  by_cases hn : lkN L ≤ 1048576
  · obtain ⟨hL, hn1, hp1⟩ := lkLe_of hz hn
    obtain ⟨hM1, hM2, hM3⟩ : ((skR L k0).getD []).length ≤ 1048576 ∧ (∀ x ∈ (skR L k0).getD [], x.p.length ≤ 1048576) ∧ 1 + lkMN ((skR L k0).getD []) ≤ 4000000 := sk_bd hL
    exact walkL a n c L k0 w hv hm hz hn (skR L k0).isSome ((skR L k0).getD []) hM1 hM2 hM3 (fun v bs w h => skip_any v L bs k0 w wk0 hL h) (fun v bs w h => sskip_any v L bs k0 w hL h)
  · have HZ : Hid (Calls Try.prog 13 #[.slice a n c, .int .i64 1048576] w fun e w' => e = .returned (szV 1048576 (lkN L)) ∧ Below w.heap.size w w') := szLkS_deep _ L 1048576 w (Nat.le_refl _) hm hz hv
    rw [szV_no hn] at HZ
    clear hn hm hz hv
    go_enter Try.func8, Try.ntmps8
    go_wp2_with fail
    refine HZ.out.mono ?_
    rintro e w1 ⟨rfl, hb1⟩
    go_wp2_with fail
    go_ret
    exact ⟨rfl, hb1⟩
set_option maxRecDepth 100000 in
theorem lifted (os : Os) (started : os.Started) (H : Type) (enc : TypeId × Value → H) :
    ReturnsInHanded {} Try.checked os 8 .any (Rows.fnExactSkipSpec.pre6 enc Try.prog Try.f8 Rows.fnExactSkipRow.domain false) (Rows.fnExactSkipSpec.post enc Try.prog Try.f8 false true false false) := by
  refine returnsInHanded_of_change (C := Try.checked) own started (by kernel_rfl) Try.func8
    (ChangeSpec.witness6 (enc := enc) (C := Try.checked) false ⟨#[], #[.slice none 0 0, .int .i64 0], []⟩ 8 (by kernel_rfl) (by kernel_rfl) (by kernel_rfl) (by kernel_rfl)) ?_
  intro W base args ds gs before hval0 hW hcnd _
  have hval : ∀ (j : Nat) t v, Try.f8.params[j]? = some t → args[j]? = some v → Value.okWide Try.prog W .any base t v := hval0
  have hW' := hW
  obtain ⟨p, q, hA0, hV, rfl, hfz, hnd⟩ := hW
  have hA : DataW.TrodAll enc Try.prog W 0 (fun _ => true) true Try.f8.params.toList args.toList ds p := hA0
  rw [Try.params8] at hA hval
  obtain ⟨v0, vs0, d0, ds0, p0, q0, hargs, rfl, rfl, h0, r0⟩ := trodAll_cons hA
  obtain ⟨v1, vs1, d1, ds1, p1, q1, rfl, rfl, rfl, h1, r1⟩ := trodAll_cons r0
  obtain ⟨rfl, rfl, rfl⟩ := trodAll_nil r1
  obtain rfl : args = #[v0, v1] := by cases args; simp_all
  obtain ⟨rfl, rfl⟩ := trodVars_none hV
  obtain ⟨L0, hm0, hz0, hr0⟩ := read_inLk h0 (Value.okWide_any_base (hval 0 _ v0 rfl rfl))
  have k0 := h0
  have lt0 : ∀ x ∈ p0, x.block < W.heap.size := by obtain ⟨m, hm⟩ := k0; exact DataW.trod_lt m _ _ _ hm
  obtain ⟨a1, rfl, rfl, rfl, w1⟩ := open_int Try.underlying2 (hval 1 _ v1 rfl rfl) h1
  clear hA0 hval0
  refine (walk v0 L0 hm0 hz0 a1 w1 W hr0).mono fun e W' ⟨he, bel⟩ => ?_
  subst he
  exact ⟨_, rfl, _, _, _, [], _, [], hW', trodAll_mk1 (shut_bool Try.underlying4 _), (trodAll_cons_mk (Below.trod laidOut (by kernel_rfl) (of_decide_eq_true (by kernel_rfl)) k0 bel lt0) (trodAll_cons_mk (shut_int Try.underlying2 w1) trodAll_mk0)), rfl, bel.frame _, fun h => by cases h⟩

theorem over : Rows.fnExactSkipRow.holds Try.pinned (OpenSpec.ofChange Rows.fnExactSkipSpec) :=
  OpenClaim.holds_of_wide 8 Try.f8 rfl rfl rfl rfl rfl rfl rfl ⟨rfl, rfl, rfl, rfl, rfl⟩ rfl rfl rfl rfl rfl (by kernel_rfl) Try.func8 (by kernel_rfl)
    (of_decide_eq_true (by kernel_rfl)) (by unfold Func.isWrapper; first | (rw [if_pos (by decide +kernel)]; kernel_rfl) | (rw [if_neg (by decide +kernel)]; exact ⟨rfl, rfl⟩))
    (fun os started H enc _ => lifted os started H enc)
theorem proved : Rows.FnExactSkipSaid :=
  over
#print axioms proved
end Go.Proofs.Ytpeddaljgmkomaa.fnExactSkip
