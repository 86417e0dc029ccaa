/-
  Several texts of this seat as one: VeE, CpL, LkM.
-/
import Derived.Test.YtpeddaljgmkomaaPk13
import Derived.Test.YtpeddaljgmkomaaPk10
import Derived.Test.YtpeddaljgmkomaaPk09

/-!   The code's ChainOk, VersionAt, DepthAt. -/
namespace Go.Proofs.Ytpeddaljgmkomaa
open Go.RowKit
open Go.Maps (Keyed)
set_option linter.unusedVariables false
set_option linter.unusedSimpArgs false
set_option maxRecDepth 100000 in
theorem vs_zero (a : Option Addr) (c : Nat) (w : World) :
    Calls Try.prog 40 #[.slice a 0 c] w fun e w' => VsPost w (vAll []) e w' := by
  have hmm := @run_makeMap Try.prog
  have HST : Hid (Below w.heap.size w (w.alloc (.map #[] 0)) ∧ MapF (w.alloc (.map #[] 0)) Try.prog 2 w.heap.size 0 (vMap [])) := ⟨(Below.refl _ _).alloc (Nat.le_refl _) _, (MapF.made w Try.prog 2).congr fun kl _ => by unfold vMap; split <;> simp⟩
  have HA : Hid (vAll [] = some []) := vAll_good rfl (by decide)
  go_enter Try.func40, Try.ntmps40
  go_wp2_with fail
  clear hmm
  refine wp_loop_rounds 1 ?_
  rw [rounds_succ]
  go_wp2_with fail
  go_ret2
  refine ⟨?_, HST.out.1⟩
  rw [HA.out]
  exact ⟨rfl, HST.out.2⟩
set_option maxRecDepth 100000 in
theorem vs_long (a : Option Addr) (n c : Nat) (L : List LkI) (hLn : n = L.length) (w : World) (hn : ¬ n ≤ 30) (hm : n ≤ 1048576) :
    Calls Try.prog 40 #[.slice a n c] w fun e w' => VsPost w (vAll L) e w' := by
  have hnI : (30 : Int) < (n : Int) := by omega
  have HA : Hid (vAll L = none) := vAll_long (by omega)
  go_enter Try.func40, Try.ntmps40
  go_wp2_with fail
  go_ret2
  exact ⟨by rw [HA.out]; exact rfl, Below.refl _ _⟩
theorem vs_any (v : Value) (L : List LkI) (bs : List Nat) (w : World) (hl : LkLe L) (h : Hd w (lksD L) v bs) :
    Calls Try.prog 40 #[v] w fun e w' => VsPost w (vAll L) e w' := by
  obtain ⟨a, c, rfl, hx⟩ := lks_at h
  by_cases hn : L.length ≤ 30
  · by_cases h0 : 0 < L.length
    · obtain ⟨g, rfl, hg⟩ := hx h0
      exact vs_some g c L.length L rfl w hl hn hg
    · have e0 : L = [] := List.length_eq_zero_iff.1 (by omega)
      subst e0
      exact vs_zero a c w
  · exact vs_long a L.length c L rfl w hn hl.len
/-- the version of a number -/
noncomputable def verOf (L : List LkI) (k : Int) : Option VerI := (vAll L).bind fun V => if 0 ≤ k then V[k.toNat]? else none
def ver0 : VerI := ⟨⟨#[]⟩, 0⟩
theorem verOf_none {L : List LkI} {k : Int} (h : vAll L = none) : verOf L k = none := by unfold verOf; rw [h]; rfl
theorem verOf_some {L : List LkI} {k : Int} {V : List VerI} (h : vAll L = some V) : (verOf L k).map verV = vMap V (.int .i64 k) := by
  unfold verOf vMap
  rw [h]
  show Option.map verV (if 0 ≤ k then V[k.toNat]? else none) = if 0 ≤ k then (V[k.toNat]?).map verV else none
  split <;> rfl
set_option maxRecDepth 100000 in
set_option maxHeartbeats 2000000 in
theorem verOf_any (v : Value) (L : List LkI) (bs : List Nat) (k : Int) (w : World) (hk : (Lit.int .i64 k).wf = true) (hl : LkLe L) (h : Hd w (lksD L) v bs) :
    Calls Try.prog 43 #[v, .int .i64 k] w fun e w' => e = .returned (.tuple #[verV ((verOf L k).getD ver0), .bool (verOf L k).isSome]) ∧ Below w.heap.size w w' := by
  obtain ⟨a, n, c, rfl, _⟩ := h.rd.slice
  have HVS : Hid (∀ w', Below w.heap.size w w' → Calls Try.prog 40 #[.slice a n c] w' fun e w2 => VsPost w' (vAll L) e w2) := fun w' hb => vs_any _ L bs w' hl (h.under hb)
  have HB1 : Hid (Below w.heap.size w (w.alloc (.cells #[.string ⟨#[]⟩, .int .i64 0] 62))) := allocs_low [_] w
  have HR1 : Hid ((w.alloc (.cells #[.string ⟨#[]⟩, .int .i64 0] 62)).heap[w.heap.size]? = some (.cells #[.string ⟨#[]⟩, .int .i64 0] 62 (0, 0))) := heap_alloc_new w _
  have hkey := Maps.keyOf_int_mk Try.underlying2 hk
  have HKEY := dhid hkey
  clear h hkey
  go_enter Try.func43, Try.ntmps43
  go_wp2_with fail
  refine (HVS.out _ HB1.out).mono ?_
  rintro e w3 ⟨hpost, hb3⟩
  have r1 := (hb3.block w.heap.size (by simp)).trans HR1.out
  have R1 := dhid r1
  have HB3 := dhid (dblow HB1.out hb3 HB1.out.size)
  have x0 : w3.cell? ⟨w.heap.size, 0, none⟩ = some (.string ⟨#[]⟩) := cell_of_row w3 _ 0 _ _ _ r1
  have x1 : w3.cell? ⟨w.heap.size, 1, none⟩ = some (.int .i64 0) := cell_of_row w3 _ 1 _ _ _ r1
  have z0 := frozen_of_row w3 _ 0 _ _ r1
  have z1 := frozen_of_row w3 _ 1 _ _ r1
  have hlt : w.heap.size < w3.heap.size := (Array.getElem?_eq_some_iff.1 r1).1
  have HLT := dhid hlt
  cases hA : vAll L with
  | none =>
    rw [hA] at hpost
    obtain rfl := hpost
    have hrun := Maps.look_nil true keyI Try.underlying56 (zeroVer w3) HKEY.out
    have HN : Hid (verOf L k = none) := verOf_none hA
    clear hA hb3 r1 HR1 HB1 HVS
    go_wp2_with fail

    refine bodyPost_ret (results_c1 rfl _ _ w.heap.size 62 #[.string ⟨#[]⟩, .int .i64 0] (0, 0) _ rfl ((Below.heap_alloc _ _ _ (by have := HLT.out; simpa using this)).trans (box2_row R1.out _ _)) Try.underlying62 rfl (by kernel_rfl)) rfl ⟨by rw [HN.out]; rfl, ((HB3.out.setCell (p := ⟨w.heap.size, 0, none⟩) (Nat.le_refl _) _).setCell (p := ⟨w.heap.size, 1, none⟩) (Nat.le_refl _) _).alloc (by have := HB3.out.size; simpa using this) _⟩
  | some V =>
    rw [hA] at hpost
    have hs1 : (w.alloc (.cells #[.string ⟨#[]⟩, .int .i64 0] 62)).heap.size = w.heap.size + 1 := by simp
    simp only [hs1] at hpost
    obtain ⟨rfl, hm⟩ := hpost
    clear hs1
    have hvs := verOf_some (k := k) hA
    cases hv : verOf L k with
    | none =>
      rw [hv] at hvs
      have hrun := (hm.look_no keyI Try.underlying56 (zeroVer w3) HKEY.out hvs.symm).1
      have HVV := dhid hv
      clear hA hb3 r1 HR1 HB1 HVS hvs hm hv
      go_wp2_with fail
      refine bodyPost_ret (results_c1 rfl _ _ w.heap.size 62 #[.string ⟨#[]⟩, .int .i64 0] (0, 0) _ rfl ((Below.heap_alloc _ _ _ (by have := HLT.out; simpa using this)).trans (box2_row R1.out _ _)) Try.underlying62 rfl (by kernel_rfl)) rfl ⟨by rw [HVV.out]; rfl, ((HB3.out.setCell (p := ⟨w.heap.size, 0, none⟩) (Nat.le_refl _) _).setCell (p := ⟨w.heap.size, 1, none⟩) (Nat.le_refl _) _).alloc (by have := HB3.out.size; simpa using this) _⟩
    | some y =>
      rw [hv] at hvs
      have hrun := (hm.look_yes keyI Try.underlying56 (zeroVer w3) HKEY.out hvs.symm).1
      obtain ⟨yt, yd⟩ := y
      unfold verV at hrun
      simp only at hrun
      have HVV := dhid hv
      clear hA hb3 r1 HR1 HB1 HVS hvs hm hv
      go_wp2_with fail
      refine bodyPost_ret (results_c1 rfl _ _ w.heap.size 62 #[.string yt, .int .i64 yd] (0, 0) _ rfl ((Below.heap_alloc _ _ _ (by have := HLT.out; simpa using this)).trans (box2_row R1.out _ _)) Try.underlying62 rfl (by kernel_rfl)) rfl ⟨by rw [HVV.out]; rfl, ((HB3.out.setCell (p := ⟨w.heap.size, 0, none⟩) (Nat.le_refl _) _).setCell (p := ⟨w.heap.size, 1, none⟩) (Nat.le_refl _) _).alloc (by have := HB3.out.size; simpa using this) _⟩
noncomputable def chB (L : List LkI) : Bool := (vAll L).isSome
set_option maxRecDepth 100000 in
theorem chain_any (v : Value) (L : List LkI) (bs : List Nat) (w : World) (hl : LkLe L) (h : Hd w (lksD L) v bs) :
    Calls Try.prog 16 #[v] w fun e w' => e = .returned (.bool (chB L)) ∧ Below w.heap.size w w' := by
  obtain ⟨a, n, c, rfl, _⟩ := h.rd.slice
  have HVS : Hid (Calls Try.prog 40 #[.slice a n c] w fun e w2 => VsPost w (vAll L) e w2) := vs_any _ L bs w hl h
  clear h
  go_enter Try.func16, Try.ntmps16
  go_wp2_with fail
  refine HVS.out.mono ?_
  rintro e w3 ⟨hpost, hb3⟩
  have HB3 := dhid hb3
  clear hb3
  cases hA : vAll L with
  | none =>
    rw [hA] at hpost
    obtain rfl := hpost
    have HCB : Hid (chB L = false) := by unfold chB; rw [hA]; exact rfl
    clear hA HVS
    go_wp2_with fail
    go_ret
    exact ⟨by rw [HCB.out]; rfl, HB3.out⟩
  | some V =>
    rw [hA] at hpost
    obtain ⟨rfl, hm⟩ := hpost
    have HCB : Hid (chB L = true) := by unfold chB; rw [hA]; exact rfl
    clear hA hm HVS
    go_wp2_with fail
    go_ret
    exact ⟨by rw [HCB.out]; rfl, HB3.out⟩
set_option maxRecDepth 100000 in
theorem verAt_any (v : Value) (L : List LkI) (bs : List Nat) (k : Int) (w : World) (hk : (Lit.int .i64 k).wf = true) (hl : LkLe L) (h : Hd w (lksD L) v bs) :
    Calls Try.prog 19 #[v, .int .i64 k] w fun e w' => e = .returned (.tuple #[.string ((verOf L k).getD ver0).t, .bool (verOf L k).isSome]) ∧ Below w.heap.size w w' := by
  obtain ⟨a, n, c, rfl, _⟩ := h.rd.slice
  have HVS : Hid (Calls Try.prog 43 #[.slice a n c, .int .i64 k] w fun e w' => e = .returned (.tuple #[verV ((verOf L k).getD ver0), .bool (verOf L k).isSome]) ∧ Below w.heap.size w w') := verOf_any _ L bs k w hk hl h
  unfold verV at HVS
  generalize (verOf L k).getD ver0 = x at HVS ⊢
  generalize (verOf L k).isSome = ok at HVS ⊢
  obtain ⟨t, d⟩ := x
  simp only at HVS ⊢
  clear h
  go_enter Try.func19, Try.ntmps19
  go_wp2_with fail
  refine HVS.out.mono ?_
  rintro e w3 ⟨rfl, hb3⟩
  have HB3 := dhid hb3
  clear hb3 HVS
  go_wp2_with fail
  go_ret2
  exact ⟨rfl, HB3.out.alloc HB3.out.size _⟩
noncomputable def depI (L : List LkI) (k : Int) : Int := if (verOf L k).isSome then ((verOf L k).getD ver0).d else -1
set_option maxRecDepth 100000 in
theorem depAt_any (v : Value) (L : List LkI) (bs : List Nat) (k : Int) (w : World) (hk : (Lit.int .i64 k).wf = true) (hl : LkLe L) (h : Hd w (lksD L) v bs) :
    Calls Try.prog 21 #[v, .int .i64 k] w fun e w' => e = .returned (.int .i64 (depI L k)) ∧ Below w.heap.size w w' := by
  obtain ⟨a, n, c, rfl, _⟩ := h.rd.slice
  have HVS : Hid (Calls Try.prog 43 #[.slice a n c, .int .i64 k] w fun e w' => e = .returned (.tuple #[verV ((verOf L k).getD ver0), .bool (verOf L k).isSome]) ∧ Below w.heap.size w w') := verOf_any _ L bs k w hk hl h
  unfold verV at HVS
  unfold depI
  generalize (verOf L k).getD ver0 = x at HVS ⊢
  generalize (verOf L k).isSome = ok at HVS ⊢
  obtain ⟨t, d⟩ := x
  simp only at HVS ⊢
  clear h
  go_enter Try.func21, Try.ntmps21
  go_wp2_with fail
  refine HVS.out.mono ?_
  rintro e w3 ⟨rfl, hb3⟩
  have HB3 := dhid hb3
  clear hb3 HVS
  cases ok with
  | true =>
    go_wp2_with fail
    go_ret
    exact ⟨rfl, HB3.out.alloc HB3.out.size _⟩
  | false =>
    go_wp2_with fail
    go_ret
    exact ⟨rfl, HB3.out.alloc HB3.out.size _⟩
end Go.Proofs.Ytpeddaljgmkomaa

/-!   Links copied: the code's. -/
namespace Go.Proofs.Ytpeddaljgmkomaa
open Go.RowKit
set_option linter.unusedVariables false
set_option linter.unusedSimpArgs false
structure LkG (x : LkI) : Prop where
  d : x.d.size ≤ 1048576
  len : x.p.length ≤ 500
  one : ∀ p ∈ x.p, PcG p
def isPc (e : Nat) : Prop := e = 89
theorem pcsD_ty (p : List PcI) : Tys isPc (pcsD p) := .list _ _ _ rfl fun j x hx => by
  have := List.mem_of_getElem? hx
  obtain ⟨q, _, hq⟩ := List.mem_flatMap.1 this
  simp only [pcDs, List.mem_cons, List.not_mem_nil, or_false] at hq
  rcases hq with rfl | rfl | rfl <;> exact .one _
theorem lkDs_ty (x : LkI) : ∀ d ∈ lkDs x, Tys isPc d := by
  intro d hd
  simp only [lkDs, List.mem_cons, List.not_mem_nil, or_false] at hd
  rcases hd with rfl | rfl | rfl
  · exact .one _
  · exact .one _
  · exact pcsD_ty _
theorem three_lk (b : Int) (d : ByteArray) (a : Option Addr) (n c : Nat) : ∀ u ∈ [Value.int .i64 b, .string d, .slice a n c], u.oneCell' = true := by
  intro u hu
  simp only [List.mem_cons, List.not_mem_nil, or_false] at hu
  rcases hu with rfl | rfl | rfl <;> rfl
theorem lk_new {W : World} {lo : Nat} {b : Int} {d : ByteArray} {p : List PcI} {v : Value} (h : Own W lo (pcsD p) v) : Nst W lo [.int .i64 b, .string d, v] (lkDs ⟨b, d, p⟩) := Nst.one _ (Nst.one _ h.nst)
set_option maxRecDepth 100000 in
set_option maxHeartbeats 4000000 in
theorem cpLk_some (g c n : Nat) (L : List LkI) (hLn : n = L.length) (w : World) (hn : n ≤ 30) (hG : ∀ x ∈ L, LkG x) (hg : LkCells w g L) :
    Calls Try.prog 48 #[.slice (some ⟨g, 0, none⟩) n c] w fun e w' => (∃ v us, e = .returned v ∧ Gl w' w.heap.size 54 3 isPc v n us (L.flatMap lkDs)) ∧ Below w.heap.size w w' := by
  have hnI : (n : Int) ≤ 30 := by omega
  obtain ⟨i0, hi0, hz0, hz1, hz2⟩ := info_parts Try.infLk
  have HX : Hid (n = L.length ∧ (∀ x ∈ L, LkG x) ∧ LkCells w g L) := ⟨hLn, hG, hg⟩
  have HCL : Hid (∀ (d : ByteArray) w, d.size ≤ 1048576 → Calls Try.prog 50 #[.string d] w fun e w' => e = .returned (.string d) ∧ Below w.heap.size w w') := fun d w h => clone_any d w (by omega)
  have HCP : Hid (∀ (v : Value) (p : List PcI) (bs : List Nat) w, p.length ≤ 500 → (∀ x ∈ p, PcG x) → Hd w (pcsD p) v bs → Calls Try.prog 75 #[v] w fun e w' => (∃ v', e = .returned v' ∧ Own w' w.heap.size (pcsD p) v') ∧ Below w.heap.size w w') := fun v p bs w h1 h2 h3 => cpPc_deep v p bs w h1 h2 h3
  clear hLn hG hg
  go_enter Try.func48, Try.ntmps48
  go_wp2_with fail
  go_loopw [3, 8] (fun v x wr => ∃ (i : Nat) (us : List Value), i ≤ n ∧ x = .int .i64 (i : Int) ∧ Hid (Gl wr w.heap.size 54 3 isPc v i us ((L.take i).flatMap lkDs) ∧ Below w.heap.size w wr)) (fun _ x _ => n - (intN x).toNat)
  case atStart => exact ⟨0, [], by omega, rfl, Gl.nil _ _ _ _ (by unfold isPc; decide), Below.refl _ _⟩
  case round =>
    obtain ⟨i, us, hi, rfl, HO⟩ := hrel
    by_cases hlt : i < n
    · have hltI : (i : Int) < (n : Int) := by omega
      have hx := List.getElem?_eq_getElem (l := L) (i := i) (by have := HX.out.1; omega)
      have hgx := HX.out.2.1 _ (List.mem_of_getElem? hx)
      obtain ⟨pv, bs, x0, x1, x2, hd⟩ := HX.out.2.2.2 i _ hx
      have hgl := HX.out.2.2.1
      generalize L[i]'_ = x at hx hgx x0 x1 x2 hd
      have HSTP : Hid ((L.take (i + 1)).flatMap lkDs = (L.take i).flatMap lkDs ++ lkDs x) := fm_take lkDs hx
      obtain ⟨q, hq⟩ : ∃ q, q = 3 * i := ⟨_, rfl⟩
      have hiq : i * 3 = q := by omega
      rw [← hq] at x0 x1 x2
      rw [← HO.out.2.cell (p := ⟨g, q, none⟩) hgl] at x0
      rw [← HO.out.2.cell (p := ⟨g, q + 1, none⟩) hgl] at x1
      rw [← HO.out.2.cell (p := ⟨g, q + 2, none⟩) hgl] at x2
      obtain ⟨b, d, p⟩ := x
      simp only at x0 x1 x2 hd
      obtain ⟨a1, n1, c1, rfl, _⟩ := hd.rd.slice
      have HC1 : Hid (∀ w, Calls Try.prog 50 #[.string d] w fun e w' => e = .returned (.string d) ∧ Below w.heap.size w w') := fun w => HCL.out d w hgx.d
      have HC2 : Hid (∀ w', Below w.heap.size w w' → Calls Try.prog 75 #[.slice a1 n1 c1] w' fun e w2 => (∃ v', e = .returned v' ∧ Own w2 w'.heap.size (pcsD p) v') ∧ Below w'.heap.size w' w2) := fun w' hb => HCP.out _ p bs w' hgx.len hgx.one (hd.under hb)
      obtain ⟨ov, hov⟩ : ∃ ov : Value, ∃ a0 c0, ov = .slice a0 i c0 ∧ Gl wr w.heap.size 54 3 isPc ov i us ((L.take i).flatMap lkDs) := by
        have h := HO.out.1
        obtain ⟨_, ⟨h1, h2⟩ | ⟨g1, cap, cur, h1, _⟩⟩ := h.row
        · subst h1; exact ⟨_, _, _, by rw [h2], h⟩
        · subst h1; exact ⟨_, _, _, rfl, h⟩
      have HB0 := dhid (HO.out.2.alloc HO.out.2.size (.cells #[.int .i64 b, .string d, .slice a1 n1 c1] 54))
      obtain ⟨va0, vc0, hva⟩ : ∃ a0 c0, u3 = .slice a0 i c0 := by
        have h := HO.out.1
        obtain ⟨_, ⟨h1, h2⟩ | ⟨g1, cap, cur, h1, _⟩⟩ := h.row
        · exact ⟨_, _, by rw [h1, h2]⟩
        · exact ⟨_, _, h1⟩
      subst hva
      have HNB : Hid (Value.ownBlock (.slice va0 i vc0) ≠ some wr.heap.size) := fun c => by have := (HO.out.1.row.lt _ c).2; omega
      obtain ⟨S, hSS⟩ : ∃ S : World → Prop, S = fun w' => w'.heap[wr.heap.size]? = some (.cells #[.int .i64 b, .string d, .slice a1 n1 c1] 54 (0, 0)) := ⟨_, rfl⟩
      have HS := dhid hSS
      have hSd : S (wr.alloc (.cells #[.int .i64 b, .string d, .slice a1 n1 c1] 54)).drew := by rw [hSS]; exact heap_alloc_new wr (.cells #[.int .i64 b, .string d, .slice a1 n1 c1] 54)
      have HSC : Hid (∀ a b, S a → Below a.heap.size a b → S b) := fun a b h1 h2 => by
        rw [hSS] at h1 ⊢
        exact (h2.block _ (Array.getElem?_eq_some_iff.1 h1).1).trans h1
      have HF0 : Hid (∀ w', S w' → w'.cell? ⟨wr.heap.size, 0, none⟩ = some (.int .i64 b)) := fun w' hw' => by rw [hSS] at hw'; exact cell_of_row _ _ 0 _ _ _ hw'
      have HF1 : Hid (∀ w', S w' → w'.cell? ⟨wr.heap.size, 1, none⟩ = some (.string d)) := fun w' hw' => by rw [hSS] at hw'; exact cell_of_row _ _ 1 _ _ _ hw'
      have HF2 : Hid (∀ w', S w' → w'.cell? ⟨wr.heap.size, 2, none⟩ = some (.slice a1 n1 c1)) := fun w' hw' => by rw [hSS] at hw'; exact cell_of_row _ _ 2 _ _ _ hw'
      have HBd := dhid HB0.out.drew
      have HBw : Hid (Below wr.heap.size wr (wr.alloc (.cells #[.int .i64 b, .string d, .slice a1 n1 c1] 54)).drew) := ((Below.refl _ _).alloc (Nat.le_refl _) _).drew
      clear hSS hx hgx hd hq hgl hov HB0
      go_wp2_with fail
      refine wp_region_held (S := S) (by kernel_rfl) ?_
      change wpAnyH _ _ _ _ _ _ _ _ (World.drew _)
      refine wpAnyH_take (i := 0) (v := .slice va0 i vc0) rfl (by kernel_rfl) (by kernel_rfl) (by kernel_rfl) (fun _ _ _ h => h) (Or.inl ⟨by rfl, by intro w' hS'; go_simp <;> (first | omega | (rw [IntKind.wrap_i64]; omega) | (rw [IntKind.wrap_u64]; omega) | (rw [IntKind.wrap_u32]; omega) | (rw [Int.tmod_eq_emod_of_nonneg (by omega)]))⟩) hSd ?_
      (try simp only [List.getElem_toArray, List.getElem_cons_succ, List.getElem_cons_zero, Act.put, List.setIfInBounds_toArray, List.set_cons_zero, List.set_cons_succ])
      refine wpAnyH_take (i := 1) (v := .pointer (some ⟨wr.heap.size, 0, none⟩)) rfl (by kernel_rfl) (by kernel_rfl) (by kernel_rfl) (fun _ _ _ h => h) (Or.inl ⟨by rfl, by intro w' hS'; go_simp <;> (first | omega | (rw [IntKind.wrap_i64]; omega) | (rw [IntKind.wrap_u64]; omega) | (rw [IntKind.wrap_u32]; omega) | (rw [Int.tmod_eq_emod_of_nonneg (by omega)]))⟩) hSd ?_
      (try simp only [List.getElem_toArray, List.getElem_cons_succ, List.getElem_cons_zero, Act.put, List.setIfInBounds_toArray, List.set_cons_zero, List.set_cons_succ])
      refine wpAnyH_take (i := 2) (v := .int .i64 b) rfl (by kernel_rfl) (by kernel_rfl) (by kernel_rfl) (fun _ _ _ h => h) (Or.inl ⟨by rfl, by intro w' hS'; have hxx := HF0.out w' hS'; go_simp <;> (first | omega | (rw [IntKind.wrap_i64]; omega) | (rw [IntKind.wrap_u64]; omega) | (rw [IntKind.wrap_u32]; omega) | (rw [Int.tmod_eq_emod_of_nonneg (by omega)]))⟩) hSd ?_
      (try simp only [List.getElem_toArray, List.getElem_cons_succ, List.getElem_cons_zero, Act.put, List.setIfInBounds_toArray, List.set_cons_zero, List.set_cons_succ])
      refine wpAnyH_take (i := 3) (v := .pointer (some ⟨wr.heap.size, 1, none⟩)) rfl (by kernel_rfl) (by kernel_rfl) (by kernel_rfl) (fun _ _ _ h => h) (Or.inl ⟨by rfl, by intro w' hS'; go_simp <;> (first | omega | (rw [IntKind.wrap_i64]; omega) | (rw [IntKind.wrap_u64]; omega) | (rw [IntKind.wrap_u32]; omega) | (rw [Int.tmod_eq_emod_of_nonneg (by omega)]))⟩) hSd ?_
      (try simp only [List.getElem_toArray, List.getElem_cons_succ, List.getElem_cons_zero, Act.put, List.setIfInBounds_toArray, List.set_cons_zero, List.set_cons_succ])
      refine wpAnyH_take (i := 4) (v := .string d) rfl (by kernel_rfl) (by kernel_rfl) (by kernel_rfl) (fun _ _ _ h => h) (Or.inl ⟨by rfl, by intro w' hS'; have hxx := HF1.out w' hS'; go_simp <;> (first | omega | (rw [IntKind.wrap_i64]; omega) | (rw [IntKind.wrap_u64]; omega) | (rw [IntKind.wrap_u32]; omega) | (rw [Int.tmod_eq_emod_of_nonneg (by omega)]))⟩) hSd ?_
      (try simp only [List.getElem_toArray, List.getElem_cons_succ, List.getElem_cons_zero, Act.put, List.setIfInBounds_toArray, List.set_cons_zero, List.set_cons_succ])
      refine wpAnyH_take (i := 6) (v := .pointer (some ⟨wr.heap.size, 2, none⟩)) rfl (by kernel_rfl) (by kernel_rfl) (by kernel_rfl) (fun _ _ _ h => h) (Or.inl ⟨by rfl, by intro w' hS'; go_simp <;> (first | omega | (rw [IntKind.wrap_i64]; omega) | (rw [IntKind.wrap_u64]; omega) | (rw [IntKind.wrap_u32]; omega) | (rw [Int.tmod_eq_emod_of_nonneg (by omega)]))⟩) hSd ?_
      (try simp only [List.getElem_toArray, List.getElem_cons_succ, List.getElem_cons_zero, Act.put, List.setIfInBounds_toArray, List.set_cons_zero, List.set_cons_succ])
      refine wpAnyH_take (i := 7) (v := .slice a1 n1 c1) rfl (by kernel_rfl) (by kernel_rfl) (by kernel_rfl) (fun _ _ _ h => h) (Or.inl ⟨by rfl, by intro w' hS'; have hxx := HF2.out w' hS'; go_simp <;> (first | omega | (rw [IntKind.wrap_i64]; omega) | (rw [IntKind.wrap_u64]; omega) | (rw [IntKind.wrap_u32]; omega) | (rw [Int.tmod_eq_emod_of_nonneg (by omega)]))⟩) hSd ?_
      (try simp only [List.getElem_toArray, List.getElem_cons_succ, List.getElem_cons_zero, Act.put, List.setIfInBounds_toArray, List.set_cons_zero, List.set_cons_succ])
      refine held_stepS (i := 5) (by kernel_rfl) rfl (by rfl) ?_
      go_simp
      refine (HC1.out _).mono ?_
      rintro e w3 ⟨rfl, hb⟩
      have HB3 := dhid (dblow HBd.out hb HBd.out.size)
      have HW3 := dhid (dblow HBw.out hb HBw.out.size)
      have hS3 : S w3 := HSC.out _ _ hSd hb
      clear hb
      refine ⟨hS3, ?_⟩
      (try simp only [List.getElem_toArray, List.getElem_cons_succ, List.getElem_cons_zero, Act.put, List.setIfInBounds_toArray, List.set_cons_zero, List.set_cons_succ])
      refine held_stepS (i := 8) (by kernel_rfl) rfl (by rfl) ?_
      go_simp
      refine (HC2.out _ HB3.out).mono ?_
      rintro e w4 ⟨⟨pw, rfl, ho⟩, hb⟩
      have HB4 := dhid (dblow HB3.out hb HB3.out.size)
      have HW4 := dhid (dblow HW3.out hb HW3.out.size)
      have HNW : Hid (Nst w4 wr.heap.size [.int .i64 b, .string d, pw] (lkDs ⟨b, d, p⟩)) := lk_new (ho.base HW3.out.size)
      obtain ⟨a2, n2, c2, rfl, _⟩ := ho.rd.slice
      have hS4 : S w4 := HSC.out _ _ hS3 hb
      clear hb ho
      refine ⟨hS4, ?_⟩
      (try simp only [List.getElem_toArray, List.getElem_cons_succ, List.getElem_cons_zero, Act.put, List.setIfInBounds_toArray, List.set_cons_zero, List.set_cons_succ])
      refine wpAnyH_take (i := 9) (v := .agg #[.int .i64 b, .string d, .slice a2 n2 c2]) rfl (by kernel_rfl) (by kernel_rfl) (by kernel_rfl) (fun _ _ _ h => h) (Or.inl ⟨by rfl, by intro w' hS'; go_simp <;> (first | omega | (rw [IntKind.wrap_i64]; omega) | (rw [IntKind.wrap_u64]; omega) | (rw [IntKind.wrap_u32]; omega) | (rw [Int.tmod_eq_emod_of_nonneg (by omega)]))⟩) hS4 ?_
      (try simp only [List.getElem_toArray, List.getElem_cons_succ, List.getElem_cons_zero, Act.put, List.setIfInBounds_toArray, List.set_cons_zero, List.set_cons_succ])
      have hS5 : S (w4.alloc (.cells #[.int .i64 b, .string d, .slice a2 n2 c2] 54)) := HSC.out _ _ hS4 ((Below.refl _ _).alloc (Nat.le_refl _) _)
      refine held_stepS (i := 10) (by kernel_rfl) rfl (by rfl) ?_
      go_simp
      refine ⟨hS5, ?_⟩
      (try simp only [List.getElem_toArray, List.getElem_cons_succ, List.getElem_cons_zero, Act.put, List.setIfInBounds_toArray, List.set_cons_zero, List.set_cons_succ])
      refine held_stepS (i := 11) (by kernel_rfl) rfl (by rfl) ?_
      have HB5 := dhid (HB4.out.alloc HB4.out.size (.cells #[.int .i64 b, .string d, .slice a2 n2 c2] 54))
      have HW5 : Hid (Below wr.heap.size wr (w4.alloc (.cells #[.int .i64 b, .string d, .slice a2 n2 c2] 54))) := HW4.out.alloc HW4.out.size _
      have HN5 := dhid (HNW.out.under ((Below.refl _ _).alloc (Nat.le_refl _) (.cells #[.int .i64 b, .string d, .slice a2 n2 c2] 54)))
      have HO5 := dhid (HO.out.1.call HW5.out)
      refine wp_append_own _ (.tmp 12) (.tmp 22) 25 rfl w.heap.size 54 i0 _ 3 48 Try.underlying25 hi0 hz0 hz1 hz2 rfl (by decide) _ i us rfl HO5.out.row ⟨w4.heap.size, 0, none⟩ 1 1 [.int .i64 b, .string d, .slice a2 n2 c2] rfl rfl (cell_three_at rfl) (three_lk _ _ _ _ _) (by unfold maxLen; omega) (by omega) HB5.out.size ?_
      intro v' w7 ho7 hg7 _
      have HB7 := dhid (HB5.out.grown hg7 HB5.out.size (fun k hk => (HO5.out.row.lt k hk).1))
      have HO7 : Hid (Gl w7 w.heap.size 54 3 isPc v' (i + 1) (us ++ [.int .i64 b, .string d, .slice a2 n2 c2]) ((L.take (i + 1)).flatMap lkDs)) := by
        show Gl _ _ _ _ _ _ _ _ _
        rw [HSTP.out]
        exact HO.out.1.grow HW5.out HO.out.2.size HN5.out (lkDs_ty _) ho7 hg7
      have hS7 : S w7 := by
        rw [HS.out] at hS5 ⊢
        exact (hg7.block _ (Array.getElem?_eq_some_iff.1 hS5).1 (fun e => HNB.out e.symm)).trans hS5
      refine ⟨hS7, ?_⟩
      (try simp only [List.getElem_toArray, List.getElem_cons_succ, List.getElem_cons_zero, Act.put, List.setIfInBounds_toArray, List.set_cons_zero, List.set_cons_succ])
      refine wpAnyH_take (i := 12) (v := v') rfl (by kernel_rfl) (by kernel_rfl) (by kernel_rfl) (fun _ _ _ h => h) (Or.inl ⟨by rfl, by intro w' hS'; go_simp <;> (first | omega | (rw [IntKind.wrap_i64]; omega) | (rw [IntKind.wrap_u64]; omega) | (rw [IntKind.wrap_u32]; omega) | (rw [Int.tmod_eq_emod_of_nonneg (by omega)]))⟩) hS7 ?_
      (try simp only [List.getElem_toArray, List.getElem_cons_succ, List.getElem_cons_zero, Act.put, List.setIfInBounds_toArray, List.set_cons_zero, List.set_cons_succ])
      refine wpAnyH_done (by kernel_rfl) ?_ _
      have HNEW : Hid (Gl w7 w.heap.size 54 3 isPc v' (i + 1) (us ++ [.int .i64 b, .string d, .slice a2 n2 c2]) ((L.take (i + 1)).flatMap lkDs) ∧ Below w.heap.size w w7) := ⟨HO7.out, HB7.out⟩
      clear ho7 hg7 hS7 hS5 hS4 hS3 hSd HO5 HB5 HB4 HB3 HBd HSC HS HF0 HF1 HF2 HSTP HC1 HC2 HO7 HB7 HW3 HW4 HW5 HN5 HNW HBw HO HNB
      go_wp2_with fail
      go_roundw
      case rel => exact ⟨i + 1, _, by omega, by go_num, HNEW⟩
      case measure => simp [intN]; omega
    · obtain rfl : i = n := by omega
      have hT : L.take i = L := List.take_of_length_le (by have := HX.out.1; omega)
      have HOO := HO.out
      rw [hT] at HOO
      have HO9 := dhid HOO
      clear hT HOO HO
      go_wp2_with fail
      go_ret
      exact ⟨⟨_, _, rfl, HO9.out.1⟩, HO9.out.2⟩
set_option maxRecDepth 100000 in
theorem cpLk_zero (a : Option Addr) (c : Nat) (w : World) :
    Calls Try.prog 48 #[.slice a 0 c] w fun e w' => e = .returned (.slice none 0 0) ∧ w' = w := by
  go_enter Try.func48, Try.ntmps48
  go_wp2_with fail
  refine wp_loop_rounds 1 ?_
  rw [rounds_succ]
  go_wp2_with fail
  go_ret
  exact ⟨rfl, rfl⟩
theorem cpLk_gl (v : Value) (L : List LkI) (bs : List Nat) (w : World) (hn : L.length ≤ 30) (hG : ∀ x ∈ L, LkG x) (h : Hd w (lksD L) v bs) :
    Calls Try.prog 48 #[v] w fun e w' => (∃ v us, e = .returned v ∧ Gl w' w.heap.size 54 3 isPc v L.length us (L.flatMap lkDs)) ∧ Below w.heap.size w w' := by
  obtain ⟨a, c, rfl, hx⟩ := lks_at h
  by_cases h0 : 0 < L.length
  · obtain ⟨g, rfl, hg⟩ := hx h0
    exact cpLk_some g c L.length L rfl w hn hG hg
  · have e0 : L = [] := List.length_eq_zero_iff.1 (by omega)
    subst e0
    refine (cpLk_zero a c w).mono ?_
    rintro e w' ⟨rfl, rfl⟩
    exact ⟨⟨_, _, rfl, Gl.nil _ _ _ _ (by unfold isPc; decide)⟩, Below.refl _ _⟩
end Go.Proofs.Ytpeddaljgmkomaa

/-!   Links that are marked: the law's own way. -/
namespace Go.Proofs.Ytpeddaljgmkomaa
open Go.RowKit
set_option linter.unusedVariables false
set_option linter.unusedSimpArgs false
/-- only these blocks have turned, and new ones come -/
structure Tch (w w' : World) (bs : List Nat) : Prop where
  same : ∀ b, b < w.heap.size → b ∉ bs → w'.heap[b]? = w.heap[b]?
  size : w.heap.size ≤ w'.heap.size
  os : w'.os = w.os
  tape : w'.tape = w.tape
  output : w'.output = w.output
theorem Tch.refl (w : World) (bs : List Nat) : Tch w w bs := ⟨fun _ _ _ => rfl, Nat.le_refl _, rfl, rfl, rfl⟩
theorem Tch.trans {a b c : World} {bs : List Nat} (h : Tch a b bs) (k : Tch b c bs) : Tch a c bs :=
  ⟨fun i hi hn => (k.same i (Nat.lt_of_lt_of_le hi h.size) hn).trans (h.same i hi hn), Nat.le_trans h.size k.size, k.os.trans h.os, k.tape.trans h.tape, k.output.trans h.output⟩
theorem Tch.more {w w' : World} {bs cs : List Nat} (h : Tch w w' bs) (hs : ∀ b ∈ bs, b ∈ cs) : Tch w w' cs := ⟨fun b hb hn => h.same b hb fun c => hn (hs b c), h.size, h.os, h.tape, h.output⟩
theorem Tch.of {w w' : World} {bs : List Nat} (h : Below w.heap.size w w') : Tch w w' bs := ⟨fun b hb _ => h.block b hb, h.size, h.os, h.tape, h.output⟩
theorem Tch.below {B : Nat} {w0 w w' : World} {bs : List Nat} (h : Tch w w' bs) (hb : Below B w0 w) (hB : B ≤ w.heap.size) (hl : ∀ b ∈ bs, B ≤ b) : Below B w0 w' :=
  ⟨h.os.trans hb.os, h.tape.trans hb.tape, h.output.trans hb.output, Nat.le_trans hb.size h.size, fun k hk => (h.same k (by omega) fun c => by have := hl k c; omega).trans (hb.block k hk)⟩
theorem Hd.tch {w w' : World} {d : Dd} {v : Value} {xs bs : List Nat} (h : Hd w d v xs) (ht : Tch w w' bs) (hd : ∀ b ∈ xs, b ∉ bs) : Hd w' d v xs := h.keep fun b hb => ht.same b (h.lt b hb) (hd b hb)
theorem Rd.tch {w w' : World} {d : Dd} {v : Value} {B : Nat} (h : Rd w d v) {w0 : World} (hb : Below w0.heap.size w0 w') (h0 : Rd w0 d v) : Rd w' d v := h0.under hb
theorem setCell_tch (w : World) (g t : Nat) (v : Value) : Tch w (w.setCell ⟨g, t, none⟩ v) [g] :=
  ⟨fun b hb hn => heap_setCell_other _ _ _ _ (fun e => hn (by rw [e]; simp)), by simp, rfl, rfl, rfl⟩
/-- a list of links out of its row -/
theorem lks_mk {w : World} {L : List LkI} {g c : Nat} {cur : Array Value} {fb : Nat → List Nat} (h0 : 0 < L.length) (hr : w.heap[g]? = some (.cells cur 54 (0, 0))) (hs : 3 * L.length ≤ cur.size)
    (hc : ∀ i x, L[i]? = some x → ∃ pv, cur[3 * i]? = some (.int .i64 x.b) ∧ cur[3 * i + 1]? = some (.string x.d) ∧ cur[3 * i + 2]? = some pv ∧ Hd w (pcsD x.p) pv (fb i)) : Hd w (lksD L) (.slice (some ⟨g, 0, none⟩) L.length c) (g :: (List.range L.length).flatMap fb) := by
  have hfl := fm_len lkDs_len L
  have hall : ∀ t y, (L.flatMap lkDs)[t]? = some y → ∃ u, cur[t]? = some u ∧ Hd w y u (if t % 3 = 2 then fb (t / 3) else []) :=
    fm_in (by omega) lkDs_len (P := fun t y => ∃ u, cur[t]? = some u ∧ Hd w y u (if t % 3 = 2 then fb (t / 3) else [])) L fun i x hi j y hy => by
      obtain ⟨pv, c0, c1, c2, hp⟩ := hc i x hi
      match j, hy with
      | 0, hy =>
        simp [lkDs] at hy; subst hy
        exact ⟨_, c0, by rw [if_neg (by omega)]; exact .one _⟩
      | 1, hy =>
        simp [lkDs] at hy; subst hy
        exact ⟨_, c1, by rw [if_neg (by omega)]; exact .one _⟩
      | 2, hy =>
        simp [lkDs] at hy; subst hy
        exact ⟨_, c2, by rw [if_pos (by omega), show (3 * i + 2) / 3 = i by omega]; exact hp⟩
  have h := Hd.list (w := w) 54 3 L.length c g (L.flatMap lkDs) cur (fun t => (cur[t]?).getD (.bool false)) (fun t => if t % 3 = 2 then fb (t / 3) else []) h0 hfl hr hs (fun t ht => by
    obtain ⟨u, hu, _⟩ := hall t _ (List.getElem?_eq_getElem ht)
    rw [hu]; rfl) (fun t y hy => by
    obtain ⟨u, hu, hd⟩ := hall t y hy
    show Hd w y ((cur[t]?).getD _) _
    rw [hu]; exact hd)
  have e : (List.range (L.flatMap lkDs).length).flatMap (fun t => if t % 3 = 2 then fb (t / 3) else []) = (List.range L.length).flatMap fb := by
    rw [hfl]
    refine rows_foot fun i hi => ?_
    show (if (3 * i + 0) % 3 = 2 then fb ((3 * i + 0) / 3) else []) ++ ((if (3 * i + 1) % 3 = 2 then fb ((3 * i + 1) / 3) else []) ++ ((if (3 * i + 2) % 3 = 2 then fb ((3 * i + 2) / 3) else []) ++ [])) = _
    rw [if_neg (by omega), if_neg (by omega), if_pos (by omega), show (3 * i + 2) / 3 = i by omega]
    simp
  rw [e] at h
  exact h
def lkM1 (x : LkI) : Nat := 2 + 3 * x.p.length
def lkMN (L : List LkI) : Nat := (L.map lkM1).sum
def lkMk1 (x : LkI) (k : Nat) : LkI := ⟨(k : Int), mkT (k + 1), pcMk x.p.length (k + 2)⟩
/-- links that bear marks from k on -/
def lkMk : List LkI → Nat → List LkI
  | [], _ => []
  | x :: L, k => lkMk1 x k :: lkMk L (k + lkM1 x)
theorem lkMk_len : ∀ (L : List LkI) (k : Nat), (lkMk L k).length = L.length
  | [], _ => rfl
  | x :: L, k => by show (lkMk L _).length + 1 = _; rw [lkMk_len L]; rfl
theorem lkMk_at : ∀ (L : List LkI) (k i : Nat) (x : LkI), L[i]? = some x → (lkMk L k)[i]? = some (lkMk1 x (k + lkMN (L.take i)))
  | [], _, _, _, h => by simp at h
  | y :: L, k, 0, x, h => by
    have e : y = x := by simpa using h
    subst e; rfl
  | y :: L, k, i + 1, x, h => by
    have ih := lkMk_at L (k + lkM1 y) i x (by simpa using h)
    show (lkMk L _)[i]? = _
    rw [ih]
    unfold lkMN
    rw [List.take_succ_cons, List.map_cons, List.sum_cons, Nat.add_assoc]
theorem lkMN_take {L : List LkI} {i : Nat} {x : LkI} (h : L[i]? = some x) : lkMN (L.take (i + 1)) = lkMN (L.take i) + lkM1 x := sum_take lkM1 h
theorem lkMN_le (L : List LkI) (i : Nat) : lkMN (L.take i) ≤ lkMN L := sum_take_le lkM1 L i
/-- the first i are marked, the others as they were -/
def lkHalf (L : List LkI) (k i : Nat) : List LkI := lkMk (L.take i) k ++ L.drop i
theorem lkHalf_len (L : List LkI) (k i : Nat) (hi : i ≤ L.length) : (lkHalf L k i).length = L.length := by
  unfold lkHalf
  rw [List.length_append, lkMk_len, List.length_take, List.length_drop]; omega
theorem lkHalf_zero (L : List LkI) (k : Nat) : lkHalf L k 0 = L := rfl
theorem lkHalf_all (L : List LkI) (k : Nat) : lkHalf L k L.length = lkMk L k := by unfold lkHalf; simp
theorem lkHalf_at {L : List LkI} {k i : Nat} {x : LkI} (h : L[i]? = some x) : (lkHalf L k i)[i]? = some x := by
  unfold lkHalf
  have hi := (List.getElem?_eq_some_iff.1 h).1
  have hl : (lkMk (L.take i) k).length = i := by rw [lkMk_len, List.length_take]; omega
  rw [List.getElem?_append_right (by omega), hl, Nat.sub_self, List.getElem?_drop]; exact h
theorem lkHalf_step {L : List LkI} {k i j : Nat} {x : LkI} (h : L[i]? = some x) : (lkHalf L k (i + 1))[j]? = if j = i then some (lkMk1 x (k + lkMN (L.take i))) else (lkHalf L k i)[j]? := by
  have hi := (List.getElem?_eq_some_iff.1 h).1
  have hl : (lkMk (L.take i) k).length = i := by rw [lkMk_len, List.length_take]; omega
  have hl2 : (lkMk (L.take (i + 1)) k).length = i + 1 := by rw [lkMk_len, List.length_take]; omega
  have hap : ∀ (M : List LkI) (y : LkI) (k : Nat), lkMk (M ++ [y]) k = lkMk M k ++ [lkMk1 y (k + lkMN M)] := by
    intro M
    induction M with
    | nil => intro y k; rfl
    | cons z M ih =>
      intro y k
      show lkMk1 z k :: lkMk (M ++ [y]) _ = lkMk1 z k :: (lkMk M _ ++ _)
      rw [ih]
      unfold lkMN
      rw [List.map_cons, List.sum_cons, Nat.add_assoc]
  have ht : L.take (i + 1) = L.take i ++ [x] := by rw [List.take_add_one, h]; rfl
  unfold lkHalf
  rw [ht, hap]
  by_cases h1 : j < i
  · rw [if_neg (by omega), List.append_assoc, List.getElem?_append_left (by omega), List.getElem?_append_left (by omega)]
  · by_cases h2 : j = i
    · subst h2
      rw [if_pos rfl, List.append_assoc, List.getElem?_append_right (by omega), hl]; simp
    · rw [if_neg h2, List.getElem?_append_right (by rw [List.length_append, hl]; simp; omega), List.getElem?_append_right (by omega), List.length_append, hl, List.getElem?_drop, List.getElem?_drop]
      congr 1
      simp; omega
set_option maxRecDepth 100000 in
theorem markLk_zero (a : Option Addr) (c k : Nat) (w : World) :
    Calls Try.prog 24 #[.slice a 0 c, .int .i64 (k : Int)] w fun e w' => e = .returned (.int .i64 (k : Int)) ∧ w' = w := by
  go_enter Try.func24, Try.ntmps24
  go_wp2_with fail
  refine wp_loop_rounds 1 ?_
  rw [rounds_succ]
  go_wp2_with fail
  go_ret
  exact ⟨rfl, rfl⟩
theorem flat_nodup {fb : Nat → List Nat} : ∀ {n : Nat}, ((List.range n).flatMap fb).Nodup → (∀ i, i < n → (fb i).Nodup) ∧ ∀ i j, i < n → j < n → i ≠ j → ∀ b ∈ fb i, b ∉ fb j
  | 0, _ => ⟨fun i hi => absurd hi (by omega), fun i j hi => absurd hi (by omega)⟩
  | n + 1, h => by
    rw [List.range_succ, List.flatMap_append, List.nodup_append] at h
    obtain ⟨h1, h2, h3⟩ := h
    simp only [List.flatMap_cons, List.flatMap_nil, List.append_nil] at h2 h3
    obtain ⟨k1, k2⟩ := flat_nodup h1
    refine ⟨fun i hi => ?_, fun i j hi hj hne b hb hb2 => ?_⟩
    · by_cases e : i = n
      · subst e; exact h2
      · exact k1 i (by omega)
    · by_cases e : i = n
      · subst e
        exact h3 b (List.mem_flatMap.2 ⟨j, List.mem_range.2 (by omega), hb2⟩) b hb rfl
      · by_cases e2 : j = n
        · subst e2
          exact h3 b (List.mem_flatMap.2 ⟨i, List.mem_range.2 (by omega), hb⟩) b hb2 rfl
        · exact k2 i j (by omega) (by omega) hne b hb hb2
set_option maxRecDepth 100000 in
set_option maxHeartbeats 2000000 in
theorem markLk_some (g c n k : Nat) (L : List LkI) (hLn : n = L.length) (w : World) (cur : Array Value) (fb : Nat → List Nat) (h00 : 0 < n) (hp : ∀ x ∈ L, x.p.length ≤ 1048576) (h1 : 1 ≤ k) (hk : k + lkMN L ≤ 4000000)
    (hr : w.heap[g]? = some (.cells cur 54 (0, 0))) (hs : 3 * n ≤ cur.size) (hnd : (g :: (List.range n).flatMap fb).Nodup)
    (hc : ∀ i x, L[i]? = some x → ∃ pv, cur[3 * i]? = some (.int .i64 x.b) ∧ cur[3 * i + 1]? = some (.string x.d) ∧ cur[3 * i + 2]? = some pv ∧ Hd w (pcsD x.p) pv (fb i)) :
    Calls Try.prog 24 #[.slice (some ⟨g, 0, none⟩) n c, .int .i64 (k : Int)] w fun e w' => (e = .returned (.int .i64 ((k + lkMN L : Nat) : Int)) ∧ Hd w' (lksD (lkMk L k)) (.slice (some ⟨g, 0, none⟩) n c) (g :: (List.range n).flatMap fb)) ∧ Tch w w' (g :: (List.range n).flatMap fb) := by
  have hn4 : n ≤ 4000000 := by
    have h5 : L.length ≤ lkMN L := by
      unfold lkMN
      have : ∀ M : List LkI, M.length ≤ (M.map lkM1).sum := by
        intro M
        induction M with
        | nil => simp
        | cons y M ih => rw [List.map_cons, List.sum_cons, List.length_cons]; have : 2 ≤ lkM1 y := by unfold lkM1; omega
                         omega
      exact this L
    omega
  have HX : Hid (n = L.length ∧ (∀ x ∈ L, x.p.length ≤ 1048576) ∧ k + lkMN L ≤ 4000000 ∧ 1 ≤ k ∧ (g :: (List.range n).flatMap fb).Nodup) := ⟨hLn, hp, hk, h1, hnd⟩
  have HM : Hid (∀ (k : Nat) (w : World), 1 ≤ k → k ≤ 10000000 → Calls Try.prog 51 #[.int .i64 (k : Int)] w fun e w' => e = .returned (.string (mkT k)) ∧ Below w.heap.size w w') := fun k w h1 h2 => markT_any k w h1 h2
  have HP : Hid (∀ (v : Value) (p : List PcI) (k : Nat) (bs : List Nat) (w : World), p.length ≤ 1048576 → 1 ≤ k → k ≤ 4000000 → Hd w (pcsD p) v bs → Calls Try.prog 52 #[v, .int .i64 (k : Int)] w fun e w' => (e = .returned (.int .i64 ((k + 3 * p.length : Nat) : Int)) ∧ Hd w' (pcsD (pcMk p.length k)) v bs) ∧ Tch w w' bs) := fun v p k bs w h1 h2 h3 h4 =>
    (markPcs_deep v p k bs w h1 h2 h3 h4).mono fun e w' ⟨ha, hb1, hb2, hb3, hb4, hb5⟩ => ⟨ha, hb1, hb2, hb3, hb4, hb5⟩
  have HST : Hid (Tch w w (g :: (List.range n).flatMap fb) ∧ w.heap[g]? = some (.cells cur 54 (0, 0)) ∧ 3 * n ≤ cur.size) := ⟨Tch.refl _ _, hr, hs⟩
  have HSC : Hid (∀ i x, (lkHalf L k 0)[i]? = some x → ∃ pv, cur[3 * i]? = some (.int .i64 x.b) ∧ cur[3 * i + 1]? = some (.string x.d) ∧ cur[3 * i + 2]? = some pv ∧ Hd w (pcsD x.p) pv (fb i)) := hc
  clear hLn hp hk h1 hnd hr hs hc
  go_enter Try.func24, Try.ntmps24
  go_wp2_with fail
  go_loopw [1, 5] (fun x v wr => ∃ (i : Nat) (C : Array Value), i ≤ n ∧ x = .int .i64 ((k + lkMN (L.take i) : Nat) : Int) ∧ v = .int .i64 (i : Int) ∧ Hid (Tch w wr (g :: (List.range n).flatMap fb) ∧ wr.heap[g]? = some (.cells C 54 (0, 0)) ∧ 3 * n ≤ C.size) ∧ Hid (∀ j x, (lkHalf L k i)[j]? = some x → ∃ pv, C[3 * j]? = some (.int .i64 x.b) ∧ C[3 * j + 1]? = some (.string x.d) ∧ C[3 * j + 2]? = some pv ∧ Hd wr (pcsD x.p) pv (fb j))) (fun _ v _ => n - natP v)
  case atStart => exact ⟨0, cur, by omega, rfl, rfl, HST, HSC⟩
  case round =>
    clear HST HSC
    obtain ⟨i, C, hi, rfl, rfl, HW, HC⟩ := hrel
    by_cases hlt : i < n
    · have hltI : (i : Int) < (n : Int) := by omega
      have hx := List.getElem?_eq_getElem (l := L) (i := i) (by have := HX.out.1; omega)
      have hpx := HX.out.2.1 _ (List.mem_of_getElem? hx)
      generalize L[i]'_ = x at hx hpx
      obtain ⟨pv, c0, c1, c2, hd⟩ := HC.out i x (lkHalf_at hx)
      have HXI := dhid hx
      have hmt := lkMN_take hx
      have hml := lkMN_le L (i + 1)
      have hm1 : lkM1 x = 2 + 3 * x.p.length := rfl
      have hkb := HX.out.2.2.1
      have hk1 := HX.out.2.2.2.1
      obtain ⟨q, hq⟩ : ∃ q, q = 3 * i := ⟨_, rfl⟩
      have hiq : i * 3 = q := by omega
      obtain ⟨k0, hk0⟩ : ∃ k0, k0 = k + lkMN (L.take i) := ⟨_, rfl⟩
      have hk0b : k0 + 2 ≤ 4000000 := by omega
      have hk0l : 1 ≤ k0 := by omega
      have HK : Hid (k0 = k + lkMN (L.take i) ∧ k + lkMN (L.take (i + 1)) = k0 + 2 + 3 * x.p.length) := ⟨hk0, by omega⟩
      rw [← hk0]
      rw [← hq] at c0 c1 c2
      have HMK : Hid (∀ w, Calls Try.prog 51 #[.int .i64 ((k0 : Int) + 1)] w fun e w' => e = .returned (.string (mkT (k0 + 1))) ∧ Below w.heap.size w w') := fun w => by
        have h := HM.out (k0 + 1) w (by omega) (by omega)
        rw [show ((k0 + 1 : Nat) : Int) = (k0 : Int) + 1 by omega] at h
        exact h
      have hwk1 : IntKind.i64.wrap ((k0 : Int) + 1) = (k0 : Int) + 1 := by rw [IntKind.wrap_i64]; omega
      have hrow := HW.out.2.1
      have hsz := HW.out.2.2
      have hqs : q + 2 < C.size := by omega
      have x0 : wr.cell? ⟨g, q, none⟩ = some (.int .i64 x.b) := (cell_of_row wr _ q _ _ _ hrow).trans c0
      have z0 := frozen_of_row wr _ q _ _ hrow
      have hr2 : (wr.setCell ⟨g, q, none⟩ (.int .i64 (k0 : Int))).heap[g]? = some (.cells (C.setIfInBounds q (.int .i64 (k0 : Int))) 54 (0, 0)) := heap_setCell_same _ _ _ _ _ _ hrow
      have HR2 := dhid hr2
      have HT2 : Hid (Tch wr (wr.setCell ⟨g, q, none⟩ (.int .i64 (k0 : Int))) [g]) := setCell_tch _ _ _ _
      have HCC : Hid (C[q + 1]? = some (.string x.d) ∧ C[q + 2]? = some pv ∧ Hd wr (pcsD x.p) pv (fb i) ∧ x.p.length ≤ 1048576 ∧ q + 2 < C.size ∧ q = 3 * i) := ⟨c1, c2, hd, hpx, hqs, hq⟩
      clear hq hk0 hrow hsz hr2 c0 c1 c2 hd hmt hml hm1 hkb hk1 hpx hx
      go_wp2_with fail
      refine (HMK.out _).mono ?_
      rintro e w3 ⟨rfl, hb3⟩
      have hr3 := (hb3.block g (row_ltM HR2.out)).trans HR2.out
      have HT3 : Hid (Tch wr w3 [g]) := HT2.out.trans (Tch.of hb3)
      have x1 : w3.cell? ⟨g, q + 1, none⟩ = some (.string x.d) := by
        rw [cell_of_row w3 _ (q + 1) _ _ _ hr3, Array.getElem?_setIfInBounds_ne (by omega)]
        exact HCC.out.1
      have x2 : w3.cell? ⟨g, q + 2, none⟩ = some pv := by
        rw [cell_of_row w3 _ (q + 2) _ _ _ hr3, Array.getElem?_setIfInBounds_ne (by omega)]
        exact HCC.out.2.1
      have z1 := frozen_of_row w3 _ (q + 1) _ _ hr3
      generalize hTX : mkT (k0 + 1) = T at *
      have hr4 : (w3.setCell ⟨g, q + 1, none⟩ (.string T)).heap[g]? = some (.cells ((C.setIfInBounds q (.int .i64 (k0 : Int))).setIfInBounds (q + 1) (.string T)) 54 (0, 0)) := heap_setCell_same _ _ _ _ _ _ hr3
      have HT4 : Hid (Tch wr (w3.setCell ⟨g, q + 1, none⟩ (.string T)) [g]) := HT3.out.trans (setCell_tch _ _ _ _)
      have HR4 := dhid hr4
      have hgf : g ∉ fb i := fun c => (List.nodup_cons.1 HX.out.2.2.2.2).1 (List.mem_flatMap.2 ⟨i, List.mem_range.2 hlt, c⟩)
      have hd4 : Hd (w3.setCell ⟨g, q + 1, none⟩ (.string T)) (pcsD x.p) pv (fb i) := HCC.out.2.2.1.tch HT4.out fun b hb hc => by
        have e : b = g := by simpa using hc
        exact hgf (e ▸ hb)
      have hwk2 : IntKind.i64.wrap ((k0 : Int) + 1 + 1) = ((k0 + 2 : Nat) : Int) := by rw [IntKind.wrap_i64]; omega
      have HPP : Hid (Calls Try.prog 52 #[pv, .int .i64 ((k0 + 2 : Nat) : Int)] (w3.setCell ⟨g, q + 1, none⟩ (.string T)) fun e w' => (e = .returned (.int .i64 ((k0 + 2 + 3 * x.p.length : Nat) : Int)) ∧ Hd w' (pcsD (pcMk x.p.length (k0 + 2))) pv (fb i)) ∧ Tch (w3.setCell ⟨g, q + 1, none⟩ (.string T)) w' (fb i)) := HP.out pv x.p (k0 + 2) (fb i) _ HCC.out.2.2.2.1 (by omega) hk0b hd4
      have HTX := dhid hTX
      obtain ⟨a5, n5, c5, rfl, _⟩ := hd4.rd.slice
      clear hr3 hr4 hb3 hd4 hgf HT3 HT2 HR2 x0 z0 hTX
      go_wp2_with fail
      refine HPP.out.mono ?_
      rintro e w5 ⟨⟨rfl, hd5⟩, ht5⟩
      have hnd := HX.out.2.2.2.2
      have hgf : g ∉ (List.range n).flatMap fb := (List.nodup_cons.1 hnd).1
      have hgi : g ∉ fb i := fun c => hgf (List.mem_flatMap.2 ⟨i, List.mem_range.2 hlt, c⟩)
      have hfn := flat_nodup (List.nodup_cons.1 hnd).2
      have hr5 := (ht5.same g (row_ltM HR4.out) hgi).trans HR4.out
      have hsub : ∀ b ∈ fb i, b ∈ g :: (List.range n).flatMap fb := fun b hb => List.mem_cons_of_mem _ (List.mem_flatMap.2 ⟨i, List.mem_range.2 hlt, hb⟩)
      have HN : Hid (Tch w w5 (g :: (List.range n).flatMap fb) ∧ w5.heap[g]? = some (.cells ((C.setIfInBounds q (.int .i64 (k0 : Int))).setIfInBounds (q + 1) (.string T)) 54 (0, 0)) ∧ 3 * n ≤ ((C.setIfInBounds q (.int .i64 (k0 : Int))).setIfInBounds (q + 1) (.string T)).size) := by
        refine ⟨(HW.out.1.trans (HT4.out.more fun b hb => by have e : b = g := by simpa using hb
                                                             subst e; simp)).trans (ht5.more hsub), hr5, by simpa using HW.out.2.2⟩
      have HN2 : Hid (∀ j x', (lkHalf L k (i + 1))[j]? = some x' → ∃ pv, ((C.setIfInBounds q (.int .i64 (k0 : Int))).setIfInBounds (q + 1) (.string T))[3 * j]? = some (.int .i64 x'.b) ∧ ((C.setIfInBounds q (.int .i64 (k0 : Int))).setIfInBounds (q + 1) (.string T))[3 * j + 1]? = some (.string x'.d) ∧ ((C.setIfInBounds q (.int .i64 (k0 : Int))).setIfInBounds (q + 1) (.string T))[3 * j + 2]? = some pv ∧ Hd w5 (pcsD x'.p) pv (fb j)) := by
        intro j x' hx'
        have hcq := HCC.out.2.2.2.2.2
        have hcs := HCC.out.2.2.2.2.1
        rw [lkHalf_step HXI.out] at hx'
        by_cases hji : j = i
        · subst hji
          rw [if_pos rfl, ← HK.out.1] at hx'
          have hx' := (Option.some.inj hx').symm
          subst hx'
          rw [← hcq]
          refine ⟨.slice a5 n5 c5, ?_, ?_, ?_, hd5⟩
          · rw [Array.getElem?_setIfInBounds_ne (by omega), Array.getElem?_setIfInBounds_self_of_lt (by omega)]; rfl
          · rw [Array.getElem?_setIfInBounds_self_of_lt (by simp; omega)]
            show _ = some (Value.string (mkT (k0 + 1)))
            rw [HTX.out]
          · rw [Array.getElem?_setIfInBounds_ne (by omega), Array.getElem?_setIfInBounds_ne (by omega)]
            exact HCC.out.2.1
        · rw [if_neg hji] at hx'
          have hjl := (List.getElem?_eq_some_iff.1 hx').1
          rw [lkHalf_len L k i (by have := HX.out.1; omega)] at hjl
          obtain ⟨pv', e0, e1, e2, hd'⟩ := HC.out j x' hx'
          refine ⟨pv', ?_, ?_, ?_, ?_⟩
          · rw [Array.getElem?_setIfInBounds_ne (by omega), Array.getElem?_setIfInBounds_ne (by omega)]; exact e0
          · rw [Array.getElem?_setIfInBounds_ne (by omega), Array.getElem?_setIfInBounds_ne (by omega)]; exact e1
          · rw [Array.getElem?_setIfInBounds_ne (by omega), Array.getElem?_setIfInBounds_ne (by omega)]; exact e2
          · have hjn : j < n := by have := HX.out.1; omega
            exact (hd'.tch HT4.out fun b hb hc => by
              have e : b = g := by simpa using hc
              exact hgf (e ▸ List.mem_flatMap.2 ⟨j, List.mem_range.2 hjn, hb⟩)).tch ht5 fun b hb hc => hfn.2 j i hjn hlt hji b hb hc
      clear hd5 ht5 hnd hgf hgi hfn hr5 hsub HPP x1 x2 z1 HR4 HT4
      go_wp2_with fail
      go_roundw
      case rel => exact ⟨i + 1, _, by omega, by have := HK.out; show Value.int .i64 _ = Value.int .i64 _; congr 1; omega, by go_num, HN, HN2⟩
      case measure => simp [natP]; omega
    · obtain rfl : i = n := by omega
      go_wp2_with fail
      go_ret
      have hLn := HX.out.1
      refine ⟨⟨by rw [List.take_of_length_le (by omega)]; rfl, ?_⟩, HW.out.1⟩
      have h9 := HC.out
      rw [hLn, lkHalf_all] at h9
      have h8 := lks_mk (w := wr) (L := lkMk L k) (g := g) (c := c) (by rw [lkMk_len]; omega) HW.out.2.1 (by rw [lkMk_len]; have := HW.out.2.2; omega) h9
      rw [lkMk_len, ← hLn] at h8
      exact h8
theorem markLk_deep (v : Value) (L : List LkI) (k : Nat) (bs : List Nat) (w : World) (hp : ∀ x ∈ L, x.p.length ≤ 1048576) (h1 : 1 ≤ k) (hk : k + lkMN L ≤ 4000000) (h : Hd w (lksD L) v bs) (hnd : bs.Nodup) :
    Calls Try.prog 24 #[v, .int .i64 (k : Int)] w fun e w' => (e = .returned (.int .i64 ((k + lkMN L : Nat) : Int)) ∧ Hd w' (lksD (lkMk L k)) v bs) ∧ Tch w w' bs := by
  obtain ⟨a, c, rfl, hz, hx⟩ := lks_hd h
  by_cases h0 : 0 < L.length
  · obtain ⟨g, cur, fb, rfl, hr, hs, rfl, hc⟩ := hx h0
    exact markLk_some g c L.length k L rfl w cur fb h0 hp h1 hk hr hs hnd hc
  · have e0 : L = [] := List.length_eq_zero_iff.1 (by omega)
    subst e0
    have hbs := hz rfl
    subst hbs
    refine (markLk_zero a c k w).mono ?_
    rintro e w' ⟨rfl, rfl⟩
    exact ⟨⟨rfl, .nil _ _ _ _⟩, Tch.refl _ _⟩
end Go.Proofs.Ytpeddaljgmkomaa
