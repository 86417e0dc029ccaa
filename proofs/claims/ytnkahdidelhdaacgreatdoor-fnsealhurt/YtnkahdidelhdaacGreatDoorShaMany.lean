/-
  What digestBlocks answers.
-/
import Derived.Test.YtnkahdidelhdaacGreatDoorShaFold
import Derived.Test.YtnkahdidelhdaacGreatDoorShaDig
import Derived.BigQuiet
import Derived.Laws.Tables
import Derived.RegionTactic
namespace Go.Proofs.YtnkahdidelhdaacGreatDoor
open Go.RowKit
structure MW (w wr : World) (cur : Array Value) : Prop where
  below : Below w.heap.size w wr
  now : wr.heap[w.heap.size]? = some (.cells cur 68 (0, 0))
  res : ∃ Z : Array Value, Z.size = 8 ∧ wr.heap[w.heap.size + 1]? = some (.cells Z 68 (0, 0))
theorem MW.drew {w wr : World} {cur : Array Value} (h : MW w wr cur) : MW w wr.drew cur := ⟨h.below.drew, h.now, h.res⟩
theorem MW.setRow {w wr : World} {cur : Array Value} (h : MW w wr cur) (c : Array Value) : MW w (wr.setRow w.heap.size c) c := by
  obtain ⟨h1, h4, ⟨Z, hZ, h3⟩⟩ := h
  exact ⟨h1.trans ⟨rfl, rfl, rfl, by simp, fun k hk => setRow_other _ _ _ _ (by omega)⟩, setRow_heap wr _ cur c _ (0, 0) h4, ⟨Z, hZ, (setRow_other _ _ _ _ (by omega)).trans h3⟩⟩
theorem MW.call {w wr w' : World} {cur : Array Value} (h : MW w wr cur) (hs : w.heap.size + 2 ≤ wr.heap.size) (hb : Below wr.heap.size wr w') : MW w w' cur := by
  obtain ⟨h1, h4, ⟨Z, hZ, h3⟩⟩ := h
  exact ⟨h1.trans ⟨hb.os, hb.tape, hb.output, hb.size, fun k hk => hb.block k (by omega)⟩, (hb.block _ (by omega)).trans h4, ⟨Z, hZ, (hb.block _ (by omega)).trans h3⟩⟩
structure MS (w : World) (v : Nat → Int) (wr : World) : Prop where
  mw : MW w wr (stTab v)
  size : w.heap.size + 2 ≤ wr.heap.size
theorem MS.call {w wr w' : World} {v : Nat → Int} (h : MS w v wr) (hb : Below wr.heap.size wr w') : MS w v w' := ⟨h.mw.call h.size hb, Nat.le_trans h.size hb.size⟩
theorem MS.drew {w wr : World} {v : Nat → Int} (h : MS w v wr) : MS w v wr.drew := ⟨h.mw.drew, h.size⟩
theorem MS.set {w wr : World} {v : Nat → Int} (h : MS w v wr) (x : Nat → Int) : MS w x (wr.setRow w.heap.size (stTab x)) := ⟨h.mw.setRow _, by simpa using h.size⟩
theorem keepK {w wr : World} {v K : Nat → Int} (h : MS w v wr) (h0 : 1 < w.heap.size) (hK : ∀ j, j < 64 → w.cell? ⟨1, j, none⟩ = some (.int .u32 (K j))) : ∀ j, j < 64 → wr.cell? ⟨1, j, none⟩ = some (.int .u32 (K j)) :=
  fun j hj => (h.mw.below.cell (p := ⟨1, j, none⟩) h0).trans (hK j hj)
theorem keep0 {w wr : World} {v : Nat → Int} (h : MS w v wr) (h0 : 1 < w.heap.size) : 1 < wr.heap.size := by have := h.size; omega
set_option linter.unusedSimpArgs false in
set_option maxRecDepth 100000 in
set_option maxHeartbeats 4000000 in
theorem dig_many (hv0 K0 : Nat → Int) (s : ByteArray) (n : Nat) (hn : s.size = 64 * n) (hl : s.size < 4611686018427387904) (w : World) (hK : ∀ j, j < 64 → w.cell? ⟨1, j, none⟩ = some (.int .u32 (K0 j))) (h0 : 1 < w.heap.size) :
    Calls Tryz.prog 42 #[.agg (stTab hv0), .string s] w fun e w' => e = .returned (.agg (stTab (foldV hv0 K0 (bsOf s) n))) ∧ Below w.heap.size w w' := by
  have HK : Hid (∀ j, j < 64 → w.cell? ⟨1, j, none⟩ = some (.int .u32 (K0 j))) := hK
  clear hK
  go_enter Tryz.func42, Tryz.ntmps42
  go_wp2_with fail
  go_loopw [5] (fun c wr => ∃ i : Nat, i ≤ n ∧ c = .int .i64 ((64 * i : Nat) : Int) ∧ w.heap.size + 2 ≤ wr.heap.size ∧ Hid (MW w wr (stTab (foldV hv0 K0 (bsOf s) i))))
    (fun c _ => 64 * n - (shaIntOf c).toNat)
  case atStart =>
    refine ⟨0, by omega, rfl, by simp, ⟨((Below.refl _ w).alloc (Nat.le_refl _) _).alloc (by simp) _, ?_, ⟨_, ?_, heap_alloc2_new w _ _⟩⟩⟩
    · exact heap_alloc2_old w _ _
    · rfl
  case round =>
    obtain ⟨i, hi, rfl, hsz, HM⟩ := hrel
    by_cases hlt : i < n
    · have h1 : ((64 * i : Nat) : Int) < (s.size : Int) := by omega
      have h2 : ((64 * i : Nat) : Int) + 64 ≤ (s.size : Int) := by omega
      have h3 : (0 : Int) ≤ ((64 * i : Nat) : Int) := by omega
      have h4 : IntKind.i64.wrap (((64 * i : Nat) : Int) + 64) = ((64 * i : Nat) : Int) + 64 := by rw [IntKind.wrap_i64]; omega
      have h5 : (0 : Int) ≤ ((64 * i : Nat) : Int) + 64 := by omega
      have h6 : ((64 * i : Nat) : Int) ≤ ((64 * i : Nat) : Int) + 64 := by omega
      have hex : (s.extract (64 * i) (64 * i + 64)).size = 64 := by rw [ByteArray.size_extract]; omega
      have HNEXT : Hid (blockV (foldV hv0 K0 (bsOf s) i) K0 (bsOf (s.extract (64 * i) (64 * i + 64))) = foldV hv0 K0 (bsOf s) (i + 1)) := by
        show _ = _
        refine blockV_congr _ _ (fun j hj => ?_)
        exact bsOf_extract s _ _ _ (by omega) (by omega)
      have HP : Hid (64 * i + 64 = 64 * (i + 1)) := by show _ = _; omega
      generalize 64 * i = p at h1 h2 h3 h4 h5 h6 hex HNEXT HP ⊢
      go_wp2_with fail
      have hMS : MS w (foldV hv0 K0 (bsOf s) i) wr.drew := MS.drew ⟨HM.out, hsz⟩
      generalize foldV hv0 K0 (bsOf s) i = v at hMS HNEXT
      clear HM
      have HI8 : Hid ((Tryz.prog.info? 68).map (·.size) = some 8) := by show _ = _; kernel_rfl
      refine wp_region_any (by kernel_rfl) ?_
      change wpAny _ _ _ _ _ _ _ (World.drew _)
      refine wpAny_take (i := 1) (v := .string s) rfl (by kernel_rfl) (by kernel_rfl) (by kernel_rfl) (fun _ _ _ h => h) (Or.inl ⟨by rfl, by intro w; go_simp⟩) ?_
      (try simp only [List.getElem_toArray, List.getElem_cons_succ, List.getElem_cons_zero, Act.put, List.setIfInBounds_toArray, List.set_cons_zero, List.set_cons_succ])
      refine wpAny_take (i := 2) (v := .int .i64 (p : Int)) rfl (by kernel_rfl) (by kernel_rfl) (by kernel_rfl) (fun _ _ _ h => h) (Or.inl ⟨by rfl, by intro w; go_simp⟩) ?_
      (try simp only [List.getElem_toArray, List.getElem_cons_succ, List.getElem_cons_zero, Act.put, List.setIfInBounds_toArray, List.set_cons_zero, List.set_cons_succ])
      refine wpAny_take (i := 3) (v := .int .i64 (p : Int)) rfl (by kernel_rfl) (by kernel_rfl) (by kernel_rfl) (fun _ _ _ h => h) (Or.inl ⟨by rfl, by intro w; go_simp⟩) ?_
      (try simp only [List.getElem_toArray, List.getElem_cons_succ, List.getElem_cons_zero, Act.put, List.setIfInBounds_toArray, List.set_cons_zero, List.set_cons_succ])
      refine wpAny_take (i := 4) (v := .int .i64 ((p : Int) + 64)) rfl (by kernel_rfl) (by kernel_rfl) (by kernel_rfl) (fun _ _ _ h => h) (Or.inl ⟨by rfl, by intro w; go_simp⟩) ?_
      (try simp only [List.getElem_toArray, List.getElem_cons_succ, List.getElem_cons_zero, Act.put, List.setIfInBounds_toArray, List.set_cons_zero, List.set_cons_succ])
      refine wpAny_take (i := 5) (v := .string (s.extract p (p + 64))) rfl (by kernel_rfl) (by kernel_rfl) (by kernel_rfl) (fun _ _ _ h => h) (Or.inl ⟨by rfl, by intro w; go_simp; rw [if_pos (by omega), show ((p : Int) + 64).toNat = p + 64 by omega]⟩) ?_
      (try simp only [List.getElem_toArray, List.getElem_cons_succ, List.getElem_cons_zero, Act.put, List.setIfInBounds_toArray, List.set_cons_zero, List.set_cons_succ])
      refine wpAny_ready (rs := [0, 6]) (by kernel_rfl) (by simp) ?_
      refine AllReady.cons rfl (fun K hK => ?_) (AllReady.cons rfl (fun K hK => ?_) AllReady.nil)
      · rw [if_pos (by rfl)]
        refine wp_load_row 68 (.tmp 2) rfl w.heap.size rfl 68 (stTab v) (0, 0) _ hMS.mw.now Tryz.underlying68 rfl HI8.out ?_
        refine hK _ _ ?_
        clear hK K
        (try simp only [List.getElem_toArray, List.getElem_cons_succ, List.getElem_cons_zero, Act.put, List.setIfInBounds_toArray, List.set_cons_zero, List.set_cons_succ])
        refine wpAny_ready (rs := [6]) (by kernel_rfl) (by simp) ?_
        refine AllReady.cons rfl (fun K hK => ?_) AllReady.nil
        rw [if_pos (by rfl)]
        go_simp
        refine (sched_any _ _ hex).mono ?_
        rintro e w1 ⟨rfl, hb⟩
        have hM1 := hMS.call hb
        refine hK _ _ ?_
        clear hK K
        (try simp only [List.getElem_toArray, List.getElem_cons_succ, List.getElem_cons_zero, Act.put, List.setIfInBounds_toArray, List.set_cons_zero, List.set_cons_succ])
        refine wpAny_ready (rs := [7]) (by kernel_rfl) (by simp) ?_
        refine AllReady.cons rfl (fun K hK => ?_) AllReady.nil
        rw [if_pos (by rfl)]
        go_simp
        refine (dig_block v K0 _ _ (keepK hM1 h0 HK.out) (keep0 hM1 h0)).mono ?_
        rintro e w2 ⟨rfl, hb2⟩
        have hM2 := hM1.call hb2
        refine hK _ _ ?_
        clear hK K
        (try simp only [List.getElem_toArray, List.getElem_cons_succ, List.getElem_cons_zero, Act.put, List.setIfInBounds_toArray, List.set_cons_zero, List.set_cons_succ])
        refine wpAny_ready (rs := [8]) (by kernel_rfl) (by simp) ?_
        refine AllReady.cons rfl (fun K hK => ?_) AllReady.nil
        rw [if_pos (by rfl)]
        refine wp_store_row 68 (.tmp 2) (.tmp 19) rfl w.heap.size (stTab (blockV v K0 (bsOf (s.extract p (p + 64))))) rfl rfl 68 (stTab v) hM2.mw.now HI8.out rfl (stTab_one _) ?_
        have hM3 := hM2.set (blockV v K0 (bsOf (s.extract p (p + 64))))
        rw [HNEXT.out] at hM3
        rw [HNEXT.out]
        refine hK _ _ ?_
        clear hK K hM1 hM2 hb hb2
        (try simp only [List.getElem_toArray, List.getElem_cons_succ, List.getElem_cons_zero, Act.put, List.setIfInBounds_toArray, List.set_cons_zero, List.set_cons_succ])
        refine wpAny_done (by kernel_rfl) ?_ _
        have hM3s := hM3.size
        have HM3 : Hid (MW w _ (stTab (foldV hv0 K0 (bsOf s) (i + 1)))) := hM3.mw
        clear hM3 hMS HNEXT
        go_wp2_with fail
        go_roundw
        case rel => exact ⟨i + 1, by omega, by rw [← HP.out]; go_num, hM3s, HM3⟩
        case measure => simp [shaIntOf]; omega
      · rw [if_pos (by rfl)]
        go_simp
        refine (sched_any _ _ hex).mono ?_
        rintro e w1 ⟨rfl, hb⟩
        have hM1 := hMS.call hb
        refine hK _ _ ?_
        clear hK K
        (try simp only [List.getElem_toArray, List.getElem_cons_succ, List.getElem_cons_zero, Act.put, List.setIfInBounds_toArray, List.set_cons_zero, List.set_cons_succ])
        refine wpAny_ready (rs := [0]) (by kernel_rfl) (by simp) ?_
        refine AllReady.cons rfl (fun K hK => ?_) AllReady.nil
        rw [if_pos (by rfl)]
        refine wp_load_row 68 (.tmp 2) rfl w.heap.size rfl 68 (stTab v) (0, 0) _ hM1.mw.now Tryz.underlying68 rfl HI8.out ?_
        refine hK _ _ ?_
        clear hK K
        (try simp only [List.getElem_toArray, List.getElem_cons_succ, List.getElem_cons_zero, Act.put, List.setIfInBounds_toArray, List.set_cons_zero, List.set_cons_succ])
        refine wpAny_ready (rs := [7]) (by kernel_rfl) (by simp) ?_
        refine AllReady.cons rfl (fun K hK => ?_) AllReady.nil
        rw [if_pos (by rfl)]
        go_simp
        refine (dig_block v K0 _ _ (keepK hM1 h0 HK.out) (keep0 hM1 h0)).mono ?_
        rintro e w2 ⟨rfl, hb2⟩
        have hM2 := hM1.call hb2
        refine hK _ _ ?_
        clear hK K
        (try simp only [List.getElem_toArray, List.getElem_cons_succ, List.getElem_cons_zero, Act.put, List.setIfInBounds_toArray, List.set_cons_zero, List.set_cons_succ])
        refine wpAny_ready (rs := [8]) (by kernel_rfl) (by simp) ?_
        refine AllReady.cons rfl (fun K hK => ?_) AllReady.nil
        rw [if_pos (by rfl)]
        refine wp_store_row 68 (.tmp 2) (.tmp 19) rfl w.heap.size (stTab (blockV v K0 (bsOf (s.extract p (p + 64))))) rfl rfl 68 (stTab v) hM2.mw.now HI8.out rfl (stTab_one _) ?_
        have hM3 := hM2.set (blockV v K0 (bsOf (s.extract p (p + 64))))
        rw [HNEXT.out] at hM3
        rw [HNEXT.out]
        refine hK _ _ ?_
        clear hK K hM1 hM2 hb hb2
        (try simp only [List.getElem_toArray, List.getElem_cons_succ, List.getElem_cons_zero, Act.put, List.setIfInBounds_toArray, List.set_cons_zero, List.set_cons_succ])
        refine wpAny_done (by kernel_rfl) ?_ _
        have hM3s := hM3.size
        have HM3 : Hid (MW w _ (stTab (foldV hv0 K0 (bsOf s) (i + 1)))) := hM3.mw
        clear hM3 hMS HNEXT
        go_wp2_with fail
        go_roundw
        case rel => exact ⟨i + 1, by omega, by rw [← HP.out]; go_num, hM3s, HM3⟩
        case measure => simp [shaIntOf]; omega
    · obtain rfl : i = n := by omega
      obtain ⟨hb, hnow, ⟨Z, hZ, hres⟩⟩ := HM.out
      have HI8 : Hid ((Tryz.prog.info? 68).map (·.size) = some 8) := by show _ = _; kernel_rfl
      have H1 : Hid _ := hnow
      have H2 : Hid _ := hres
      have H5 : Hid (Z.size = (stTab (foldV hv0 K0 (bsOf s) i)).size) := hZ
      have H3 : Hid _ := setRow_heap wr (w.heap.size + 1) Z (stTab (foldV hv0 K0 (bsOf s) i)) 68 (0, 0) hres
      have H6 : Hid (Below w.heap.size w (wr.setRow (w.heap.size + 1) (stTab (foldV hv0 K0 (bsOf s) i)))) := hb.trans ⟨rfl, rfl, rfl, by simp, fun k hk => setRow_other _ _ _ _ (by omega)⟩
      clear hb hZ hres hnow HM
      go_wp2_with (first
        | (refine wpList_load_row ?_ 68 (.tmp 2) ?_ w.heap.size ?_ 68 (stTab (foldV hv0 K0 (bsOf s) i)) (0, 0) _ ?_ Tryz.underlying68 ?_ HI8.out ?_; rfl; rfl; rfl; exact H1.out; rfl)
        | (refine wpList_store_row ?_ 68 (.tmp 4) (.tmp 20) ?_ (w.heap.size + 1) (stTab (foldV hv0 K0 (bsOf s) i)) ?_ ?_ 68 Z ?_ HI8.out H5.out (stTab_one _) ?_; rfl; rfl; rfl; rfl; exact H2.out))
      (try simp only [Exit.inBlock, Exit.then])
      exact bodyPost_ret (results_cell_row rfl _ _ (w.heap.size + 1) 68 (stTab (foldV hv0 K0 (bsOf s) i)) (0, 0) _ rfl H3.out Tryz.underlying68 rfl HI8.out) rfl ⟨rfl, H6.out⟩
end Go.Proofs.YtnkahdidelhdaacGreatDoor
