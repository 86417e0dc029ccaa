/-
  The code's versions of a chain: all of them, in a map; one of them.
-/
import Derived.Test.YtpeddaljgmkomaaVeC
import Derived.Test.YtpeddaljgmkomaaLkE
namespace Go.Proofs.Ytpeddaljgmkomaa
open Go.RowKit
open Go.Maps (Keyed)
set_option linter.unusedVariables false
set_option linter.unusedSimpArgs false
/-- what the law's measure lets in -/
structure LkLe (L : List LkI) : Prop where
  len : L.length ≤ 1048576
  one : ∀ x ∈ L, x.d.size ≤ 1048576 ∧ (Lit.int .i64 x.b).wf = true ∧ PcLe (pcF x.p) x.p.length
theorem vMap_end {V : List VerI} {i : Nat} (h : V.length = i) : vMap V (.int .i64 (i : Int)) = none := by
  unfold vMap
  simp only [if_pos (show (0 : Int) ≤ (i : Int) by omega), Int.toNat_natCast]
  rw [List.getElem?_eq_none (by omega)]; rfl
theorem vMap_put {V : List VerI} {i : Nat} (h : V.length = i) (x : VerI) (kl : Lit) : vMap (V ++ [x]) kl = putF (vMap V) (.int .i64 (i : Int)) (verV x) kl := by
  by_cases e : kl = .int .i64 (i : Int)
  · subst e
    rw [putF_same]
    unfold vMap
    simp only [if_pos (show (0 : Int) ≤ (i : Int) by omega), Int.toNat_natCast]
    rw [List.getElem?_append_right (by omega), h]
    simp
  · rw [putF_other e]
    unfold vMap
    split
    · rename_i k
      split
      · rename_i h0
        by_cases hk : k.toNat < i
        · rw [List.getElem?_append_left (by omega)]
        · rw [List.getElem?_eq_none (by simp; exact (by have : k ≠ (i : Int) := fun c => e (by rw [c]); omega)), List.getElem?_eq_none (by omega)]
      · rfl
    · rfl
/-- what versionsOf tells -/
def VsPost (w : World) (R : Option (List VerI)) (e : Ending) (w' : World) : Prop :=
  (match R with | some V => e = .returned (.tuple #[.map (some w.heap.size), .bool true]) ∧ MapF w' Try.prog 2 w.heap.size V.length (vMap V) | none => e = .returned (.tuple #[.map none, .bool false])) ∧ Below w.heap.size w w'
set_option maxRecDepth 100000 in
set_option maxHeartbeats 4000000 in
theorem vs_some (g c n : Nat) (L : List LkI) (hLn : n = L.length) (w : World) (hl : LkLe L) (hn : n ≤ 30) (hg : LkCells w g L) :
    Calls Try.prog 40 #[.slice (some ⟨g, 0, none⟩) n c] w fun e w' => VsPost w (vAll L) e w' := by
  have hnI : (n : Int) ≤ 30 := by omega
  have hnI2 : ¬ (30 : Int) < (n : Int) := by omega
  have hmm := @run_makeMap Try.prog
  have HX : Hid (n = L.length ∧ LkLe L ∧ LkCells w g L) := ⟨hLn, hl, hg⟩
  have HM : Hid (∀ (V : List VerI) (l : LkI) (pv : Value) (bs : List Nat) (mb : Nat) (w : World), VerB V → l.d.size ≤ 1048576 → (Lit.int .i64 l.b).wf = true → PcLe (pcF l.p) l.p.length → Hd w (pcsD l.p) pv bs → MapF w Try.prog 2 mb V.length (vMap V) →
    Calls Try.prog 71 #[.agg #[.int .i64 l.b, .string l.d, pv], .map (some mb)] w fun e w' => (∃ x ok, e = .returned (.tuple #[verV x, .bool ok]) ∧ (∀ v, mkV V l = some v → x = v ∧ ok = true) ∧ (mkV V l = none → ok = false ∨ (ok = true ∧ 6 < x.d ∧ x.d ≤ 7))) ∧ Below w.heap.size w w') := fun V l pv bs mb w h1 h2 h3 h4 h5 h6 => madeFrom_any V l pv bs mb w h1 h2 h3 h4 h5 h6
  have HST : Hid (Below w.heap.size w (w.alloc (.map #[] 0)) ∧ MapF (w.alloc (.map #[] 0)) Try.prog 2 w.heap.size 0 (vMap [])) := ⟨(Below.refl _ _).alloc (Nat.le_refl _) _, (MapF.made w Try.prog 2).congr fun kl _ => by unfold vMap; split <;> simp⟩
  clear hg hl hLn
  go_enter Try.func40, Try.ntmps40
  go_wp2_with fail
  clear hmm
  go_loopw [15] (fun v wr => ∃ (i : Nat) (V : List VerI), i ≤ n ∧ v = .int .i64 (i : Int) ∧ Hid (vF L i = some V) ∧ Hid (Below w.heap.size w wr ∧ MapF wr Try.prog 2 w.heap.size i (vMap V))) (fun v _ => n - (intN v).toNat)
  case atStart => exact ⟨0, [], by omega, rfl, rfl, HST⟩
  case round =>
    clear HST
    obtain ⟨i, V, hi, rfl, HV, HB⟩ := hrel
    have hVl := vF_len HV.out
    by_cases hlt : i < n
    · have hltI : (i : Int) < (n : Int) := by omega
      have hx := List.getElem?_eq_getElem (l := L) (i := i) (by have := HX.out.1; omega)
      have hlx := HX.out.2.1.one _ (List.mem_of_getElem? hx)
      obtain ⟨pv, bs, x0, x1, x2, hd⟩ := HX.out.2.2.2 i _ hx
      have hgl := HX.out.2.2.1
      generalize L[i]'_ = x at hx hlx x0 x1 x2 hd
      obtain ⟨a1, n1, c1, rfl, _⟩ := hd.rd.slice
      have HXI : Hid (L[i]? = some x) := hx
      obtain ⟨q, hq⟩ : ∃ q, q = 3 * i := ⟨_, rfl⟩
      have hiq : i * 3 = q := by omega
      rw [← hq] at x0 x1 x2
      rw [← HB.out.1.cell (p := ⟨g, q, none⟩) hgl] at x0
      rw [← HB.out.1.cell (p := ⟨g, q + 1, none⟩) hgl] at x1
      rw [← HB.out.1.cell (p := ⟨g, q + 2, none⟩) hgl] at x2
      have hm := HB.out.2
      rw [← hVl] at hm
      have HCALL : Hid (∀ w', Below wr.heap.size wr w' → Calls Try.prog 71 #[.agg #[.int .i64 x.b, .string x.d, .slice a1 n1 c1], .map (some w.heap.size)] w' fun e w2 => (∃ y ok, e = .returned (.tuple #[verV y, .bool ok]) ∧ (∀ v, mkV V x = some v → y = v ∧ ok = true) ∧ (mkV V x = none → ok = false ∨ (ok = true ∧ 6 < y.d ∧ y.d ≤ 7))) ∧ Below w'.heap.size w' w2) := fun w' hb' =>
        HM.out V x _ bs w.heap.size w' (vF_bd HV.out) hlx.1 hlx.2.1 hlx.2.2 ((hd.under HB.out.1).under hb') (hm.under hb')
      have HBX : Hid (Below wr.heap.size wr (wr.alloc (.cells #[.int .i64 x.b, .string x.d, .slice a1 n1 c1] 54))) := (Below.refl _ _).alloc (Nat.le_refl _) _
      have HVL := dhid hVl
      clear hx hlx hd hq hgl hm hVl
      go_wp2_with fail
      refine (HCALL.out _ HBX.out).mono ?_
      rintro e w3 ⟨⟨y, ok, rfl, hy1, hy2⟩, hb3⟩
      have HBr : Hid (Below wr.heap.size wr w3) := dhid (dblow HBX.out hb3 HBX.out.size)
      have HY : Hid ((∀ v, mkV V x = some v → y = v ∧ ok = true) ∧ (mkV V x = none → ok = false ∨ (ok = true ∧ 6 < y.d ∧ y.d ≤ 7))) := ⟨hy1, hy2⟩
      clear hb3 x0 x1 x2 HCALL HBX hy1 hy2
      obtain ⟨yt, yd⟩ := y
      unfold verV
      have HBV : Hid (Below wr.heap.size wr (w3.alloc (.cells #[.string yt, .int .i64 yd] 62))) := dhid (HBr.out.alloc HBr.out.size _)
      have HBW : Hid (Below w.heap.size w (w3.alloc (.cells #[.string yt, .int .i64 yd] 62))) := dhid (dblow HB.out.1 HBV.out HB.out.1.size)
      cases hmk : mkV V x with
      | none =>
        have HBAD : Hid (vAll L = none) := vAll_bad HV.out HXI.out hmk
        rcases HY.out.2 hmk with rfl | ⟨rfl, h6, h7⟩
        · clear HY hmk
          go_wp2_with fail
          go_ret2
          exact ⟨by rw [HBAD.out]; exact rfl, HBW.out⟩
        · simp only at h6
          clear HY hmk h7
          go_wp2_with fail
          go_ret2
          exact ⟨by rw [HBAD.out]; exact rfl, HBW.out⟩
      | some z =>
        obtain ⟨rfl, rfl⟩ := HY.out.1 z hmk
        have hbd := mkV_bd (vF_bd HV.out) hmk
        simp only at hbd
        have h6 : ¬ 6 < yd := by omega
        have HNX : Hid (vF L (i + 1) = some (V ++ [⟨yt, yd⟩])) := by
          show vF L (i + 1) = _
          rw [vF_succ HV.out HXI.out, hmk]; rfl
        have HMV : Hid (MapF (w3.alloc (.cells #[.string yt, .int .i64 yd] 62)) Try.prog 2 w.heap.size i (vMap V)) := HB.out.2.under HBV.out
        have HKEY : Hid (keyOf Try.prog 2 (.int .i64 (i : Int)) = some (.int .i64 (i : Int))) := Maps.keyOf_int_mk Try.underlying2 (WalkArith.wf_i64 (by omega))
        clear HY hmk hbd HB HBr HBV
        go_wp2_with (at_mapUpdate; refine wpList_storeF _ rfl _ _ _ 56 rfl 2 62 keyI Try.underlying56 w.heap.size i (vMap V) rfl HMV.out (by unfold maxLen; omega) _ _ _ rfl rfl HKEY.out ?_; intro w4 hm4 hgr; refine hold_goalF ?_)
        have HN4 : Hid (Below w.heap.size w w4 ∧ MapF w4 Try.prog 2 w.heap.size (i + 1) (vMap (V ++ [⟨yt, yd⟩]))) := by
          refine ⟨HBW.out.grown hgr HBW.out.size (fun j hj => by cases hj; exact Nat.le_refl _), ?_⟩
          rw [vMap_end HVL.out] at hm4
          exact hm4.congr fun kl _ => vMap_put HVL.out _ kl
        clear hm4 hgr HMV HBW
        unfold Hid
        go_wp2_with fail
        go_roundw
        case rel => exact ⟨i + 1, _, by omega, by go_num, HNX, HN4⟩
        case measure => simp [intN]; omega
    · obtain rfl : i = n := by omega
      have hA : vAll L = some V := vAll_good (by rw [← HX.out.1]; exact HV.out) (by rw [← HX.out.1]; exact hn)
      have HA := dhid hA
      have HVL := dhid hVl
      clear hA hVl
      go_wp2_with fail
      go_ret2
      refine ⟨?_, HB.out.1⟩
      rw [HA.out]
      have h2 := HB.out.2
      rw [← HVL.out] at h2
      exact ⟨rfl, h2⟩
end Go.Proofs.Ytpeddaljgmkomaa
