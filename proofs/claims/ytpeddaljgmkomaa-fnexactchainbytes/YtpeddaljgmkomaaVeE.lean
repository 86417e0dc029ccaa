/-
  The code's ChainOk, VersionAt, DepthAt.
-/
import Derived.Test.YtpeddaljgmkomaaVeD
namespace Go.Proofs.Ytpeddaljgmkomaa
open Go.RowKit
open Go.Maps (Keyed)
set_option linter.unusedVariables false
set_option linter.unusedSimpArgs false
set_option maxRecDepth 100000 in
theorem vs_zero (a : Option Addr) (c : Nat) (w : World) :
    Calls Try.prog 40 #[.slice a 0 c] w fun e w' => VsPost w (vAll []) e w' := by
  have hmm := @run_makeMap Try.prog
  have HST : Hid (Below w.heap.size w (w.alloc (.map #[] 0)) ∧ MapF (w.alloc (.map #[] 0)) Try.prog 2 w.heap.size 0 (vMap [])) := ⟨(Below.refl _ _).alloc (Nat.le_refl _) _, (MapF.made w Try.prog 2).congr fun kl _ => by unfold vMap; split <;> simp⟩
  have HA : Hid (vAll [] = some []) := vAll_good rfl (by decide)
  go_enter Try.func40, Try.ntmps40
  go_wp2_with fail
  clear hmm
  refine wp_loop_rounds 1 ?_
  rw [rounds_succ]
  go_wp2_with fail
  go_ret2
  refine ⟨?_, HST.out.1⟩
  rw [HA.out]
  exact ⟨rfl, HST.out.2⟩
set_option maxRecDepth 100000 in
theorem vs_long (a : Option Addr) (n c : Nat) (L : List LkI) (hLn : n = L.length) (w : World) (hn : ¬ n ≤ 30) (hm : n ≤ 1048576) :
    Calls Try.prog 40 #[.slice a n c] w fun e w' => VsPost w (vAll L) e w' := by
  have hnI : (30 : Int) < (n : Int) := by omega
  have HA : Hid (vAll L = none) := vAll_long (by omega)
  go_enter Try.func40, Try.ntmps40
  go_wp2_with fail
  go_ret2
  exact ⟨by rw [HA.out]; exact rfl, Below.refl _ _⟩
theorem vs_any (v : Value) (L : List LkI) (bs : List Nat) (w : World) (hl : LkLe L) (h : Hd w (lksD L) v bs) :
    Calls Try.prog 40 #[v] w fun e w' => VsPost w (vAll L) e w' := by
  obtain ⟨a, c, rfl, hx⟩ := lks_at h
  by_cases hn : L.length ≤ 30
  · by_cases h0 : 0 < L.length
    · obtain ⟨g, rfl, hg⟩ := hx h0
      exact vs_some g c L.length L rfl w hl hn hg
    · have e0 : L = [] := List.length_eq_zero_iff.1 (by omega)
      subst e0
      exact vs_zero a c w
  · exact vs_long a L.length c L rfl w hn hl.len
/-- the version of a number -/
noncomputable def verOf (L : List LkI) (k : Int) : Option VerI := (vAll L).bind fun V => if 0 ≤ k then V[k.toNat]? else none
def ver0 : VerI := ⟨⟨#[]⟩, 0⟩
theorem verOf_none {L : List LkI} {k : Int} (h : vAll L = none) : verOf L k = none := by unfold verOf; rw [h]; rfl
theorem verOf_some {L : List LkI} {k : Int} {V : List VerI} (h : vAll L = some V) : (verOf L k).map verV = vMap V (.int .i64 k) := by
  unfold verOf vMap
  rw [h]
  show Option.map verV (if 0 ≤ k then V[k.toNat]? else none) = if 0 ≤ k then (V[k.toNat]?).map verV else none
  split <;> rfl
set_option maxRecDepth 100000 in
set_option maxHeartbeats 2000000 in
theorem verOf_any (v : Value) (L : List LkI) (bs : List Nat) (k : Int) (w : World) (hk : (Lit.int .i64 k).wf = true) (hl : LkLe L) (h : Hd w (lksD L) v bs) :
    Calls Try.prog 43 #[v, .int .i64 k] w fun e w' => e = .returned (.tuple #[verV ((verOf L k).getD ver0), .bool (verOf L k).isSome]) ∧ Below w.heap.size w w' := by
  obtain ⟨a, n, c, rfl, _⟩ := h.rd.slice
  have HVS : Hid (∀ w', Below w.heap.size w w' → Calls Try.prog 40 #[.slice a n c] w' fun e w2 => VsPost w' (vAll L) e w2) := fun w' hb => vs_any _ L bs w' hl (h.under hb)
  have HB1 : Hid (Below w.heap.size w (w.alloc (.cells #[.string ⟨#[]⟩, .int .i64 0] 62))) := allocs_low [_] w
  have HR1 : Hid ((w.alloc (.cells #[.string ⟨#[]⟩, .int .i64 0] 62)).heap[w.heap.size]? = some (.cells #[.string ⟨#[]⟩, .int .i64 0] 62 (0, 0))) := heap_alloc_new w _
  have hkey := Maps.keyOf_int_mk Try.underlying2 hk
  have HKEY := dhid hkey
  clear h hkey
  go_enter Try.func43, Try.ntmps43
  go_wp2_with fail
  refine (HVS.out _ HB1.out).mono ?_
  rintro e w3 ⟨hpost, hb3⟩
  have r1 := (hb3.block w.heap.size (by simp)).trans HR1.out
  have R1 := dhid r1
  have HB3 := dhid (dblow HB1.out hb3 HB1.out.size)
  have x0 : w3.cell? ⟨w.heap.size, 0, none⟩ = some (.string ⟨#[]⟩) := cell_of_row w3 _ 0 _ _ _ r1
  have x1 : w3.cell? ⟨w.heap.size, 1, none⟩ = some (.int .i64 0) := cell_of_row w3 _ 1 _ _ _ r1
  have z0 := frozen_of_row w3 _ 0 _ _ r1
  have z1 := frozen_of_row w3 _ 1 _ _ r1
  have hlt : w.heap.size < w3.heap.size := (Array.getElem?_eq_some_iff.1 r1).1
  have HLT := dhid hlt
  cases hA : vAll L with
  | none =>
    rw [hA] at hpost
    obtain rfl := hpost
    have hrun := Maps.look_nil true keyI Try.underlying56 (zeroVer w3) HKEY.out
    have HN : Hid (verOf L k = none) := verOf_none hA
    clear hA hb3 r1 HR1 HB1 HVS
    go_wp2_with fail

    refine bodyPost_ret (results_c1 rfl _ _ w.heap.size 62 #[.string ⟨#[]⟩, .int .i64 0] (0, 0) _ rfl ((Below.heap_alloc _ _ _ (by have := HLT.out; simpa using this)).trans (box2_row R1.out _ _)) Try.underlying62 rfl (by kernel_rfl)) rfl ⟨by rw [HN.out]; rfl, ((HB3.out.setCell (p := ⟨w.heap.size, 0, none⟩) (Nat.le_refl _) _).setCell (p := ⟨w.heap.size, 1, none⟩) (Nat.le_refl _) _).alloc (by have := HB3.out.size; simpa using this) _⟩
  | some V =>
    rw [hA] at hpost
    have hs1 : (w.alloc (.cells #[.string ⟨#[]⟩, .int .i64 0] 62)).heap.size = w.heap.size + 1 := by simp
    simp only [hs1] at hpost
    obtain ⟨rfl, hm⟩ := hpost
    clear hs1
    have hvs := verOf_some (k := k) hA
    cases hv : verOf L k with
    | none =>
      rw [hv] at hvs
      have hrun := (hm.look_no keyI Try.underlying56 (zeroVer w3) HKEY.out hvs.symm).1
      have HVV := dhid hv
      clear hA hb3 r1 HR1 HB1 HVS hvs hm hv
      go_wp2_with fail
      refine bodyPost_ret (results_c1 rfl _ _ w.heap.size 62 #[.string ⟨#[]⟩, .int .i64 0] (0, 0) _ rfl ((Below.heap_alloc _ _ _ (by have := HLT.out; simpa using this)).trans (box2_row R1.out _ _)) Try.underlying62 rfl (by kernel_rfl)) rfl ⟨by rw [HVV.out]; rfl, ((HB3.out.setCell (p := ⟨w.heap.size, 0, none⟩) (Nat.le_refl _) _).setCell (p := ⟨w.heap.size, 1, none⟩) (Nat.le_refl _) _).alloc (by have := HB3.out.size; simpa using this) _⟩
    | some y =>
      rw [hv] at hvs
      have hrun := (hm.look_yes keyI Try.underlying56 (zeroVer w3) HKEY.out hvs.symm).1
      obtain ⟨yt, yd⟩ := y
      unfold verV at hrun
      simp only at hrun
      have HVV := dhid hv
      clear hA hb3 r1 HR1 HB1 HVS hvs hm hv
      go_wp2_with fail
      refine bodyPost_ret (results_c1 rfl _ _ w.heap.size 62 #[.string yt, .int .i64 yd] (0, 0) _ rfl ((Below.heap_alloc _ _ _ (by have := HLT.out; simpa using this)).trans (box2_row R1.out _ _)) Try.underlying62 rfl (by kernel_rfl)) rfl ⟨by rw [HVV.out]; rfl, ((HB3.out.setCell (p := ⟨w.heap.size, 0, none⟩) (Nat.le_refl _) _).setCell (p := ⟨w.heap.size, 1, none⟩) (Nat.le_refl _) _).alloc (by have := HB3.out.size; simpa using this) _⟩
noncomputable def chB (L : List LkI) : Bool := (vAll L).isSome
set_option maxRecDepth 100000 in
theorem chain_any (v : Value) (L : List LkI) (bs : List Nat) (w : World) (hl : LkLe L) (h : Hd w (lksD L) v bs) :
    Calls Try.prog 16 #[v] w fun e w' => e = .returned (.bool (chB L)) ∧ Below w.heap.size w w' := by
  obtain ⟨a, n, c, rfl, _⟩ := h.rd.slice
  have HVS : Hid (Calls Try.prog 40 #[.slice a n c] w fun e w2 => VsPost w (vAll L) e w2) := vs_any _ L bs w hl h
  clear h
  go_enter Try.func16, Try.ntmps16
  go_wp2_with fail
  refine HVS.out.mono ?_
  rintro e w3 ⟨hpost, hb3⟩
  have HB3 := dhid hb3
  clear hb3
  cases hA : vAll L with
  | none =>
    rw [hA] at hpost
    obtain rfl := hpost
    have HCB : Hid (chB L = false) := by unfold chB; rw [hA]; exact rfl
    clear hA HVS
    go_wp2_with fail
    go_ret
    exact ⟨by rw [HCB.out]; rfl, HB3.out⟩
  | some V =>
    rw [hA] at hpost
    obtain ⟨rfl, hm⟩ := hpost
    have HCB : Hid (chB L = true) := by unfold chB; rw [hA]; exact rfl
    clear hA hm HVS
    go_wp2_with fail
    go_ret
    exact ⟨by rw [HCB.out]; rfl, HB3.out⟩
set_option maxRecDepth 100000 in
theorem verAt_any (v : Value) (L : List LkI) (bs : List Nat) (k : Int) (w : World) (hk : (Lit.int .i64 k).wf = true) (hl : LkLe L) (h : Hd w (lksD L) v bs) :
    Calls Try.prog 19 #[v, .int .i64 k] w fun e w' => e = .returned (.tuple #[.string ((verOf L k).getD ver0).t, .bool (verOf L k).isSome]) ∧ Below w.heap.size w w' := by
  obtain ⟨a, n, c, rfl, _⟩ := h.rd.slice
  have HVS : Hid (Calls Try.prog 43 #[.slice a n c, .int .i64 k] w fun e w' => e = .returned (.tuple #[verV ((verOf L k).getD ver0), .bool (verOf L k).isSome]) ∧ Below w.heap.size w w') := verOf_any _ L bs k w hk hl h
  unfold verV at HVS
  generalize (verOf L k).getD ver0 = x at HVS ⊢
  generalize (verOf L k).isSome = ok at HVS ⊢
  obtain ⟨t, d⟩ := x
  simp only at HVS ⊢
  clear h
  go_enter Try.func19, Try.ntmps19
  go_wp2_with fail
  refine HVS.out.mono ?_
  rintro e w3 ⟨rfl, hb3⟩
  have HB3 := dhid hb3
  clear hb3 HVS
  go_wp2_with fail
  go_ret2
  exact ⟨rfl, HB3.out.alloc HB3.out.size _⟩
noncomputable def depI (L : List LkI) (k : Int) : Int := if (verOf L k).isSome then ((verOf L k).getD ver0).d else -1
set_option maxRecDepth 100000 in
theorem depAt_any (v : Value) (L : List LkI) (bs : List Nat) (k : Int) (w : World) (hk : (Lit.int .i64 k).wf = true) (hl : LkLe L) (h : Hd w (lksD L) v bs) :
    Calls Try.prog 21 #[v, .int .i64 k] w fun e w' => e = .returned (.int .i64 (depI L k)) ∧ Below w.heap.size w w' := by
  obtain ⟨a, n, c, rfl, _⟩ := h.rd.slice
  have HVS : Hid (Calls Try.prog 43 #[.slice a n c, .int .i64 k] w fun e w' => e = .returned (.tuple #[verV ((verOf L k).getD ver0), .bool (verOf L k).isSome]) ∧ Below w.heap.size w w') := verOf_any _ L bs k w hk hl h
  unfold verV at HVS
  unfold depI
  generalize (verOf L k).getD ver0 = x at HVS ⊢
  generalize (verOf L k).isSome = ok at HVS ⊢
  obtain ⟨t, d⟩ := x
  simp only at HVS ⊢
  clear h
  go_enter Try.func21, Try.ntmps21
  go_wp2_with fail
  refine HVS.out.mono ?_
  rintro e w3 ⟨rfl, hb3⟩
  have HB3 := dhid hb3
  clear hb3 HVS
  cases ok with
  | true =>
    go_wp2_with fail
    go_ret
    exact ⟨rfl, HB3.out.alloc HB3.out.size _⟩
  | false =>
    go_wp2_with fail
    go_ret
    exact ⟨rfl, HB3.out.alloc HB3.out.size _⟩
end Go.Proofs.Ytpeddaljgmkomaa
