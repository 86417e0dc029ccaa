/-
  What digestBlock answers.
-/
import Derived.Test.YtnkahdidelhdaacGreatDoorShaSched
import Derived.BigQuiet
namespace Go.Proofs.YtnkahdidelhdaacGreatDoor
open Go.RowKit

theorem index_word (cs : Array Value) (j : Nat) (x : Int) (w : World) (hj : j < 64) (hc : cs[j]? = some (.int .u32 x)) :
    (Instr.index 98 (.agg cs) (.int .i64 (j : Int))).run Tryz.prog w = .ok (.int .u32 x) w := by
  have hs : (sizeOf 67).run Tryz.prog w = .ok 1 w := by kernel_rfl
  have ha : (isAgg 67).run Tryz.prog w = .ok false w := by kernel_rfl
  simp [Instr.index, asIntOf, run_underlying Tryz.underlying98, part, hs, ha, hc, Result.andThen]
  intro h; omega
theorem index_state (cs : Array Value) (j : Nat) (x : Int) (w : World) (hj : j < 8) (hc : cs[j]? = some (.int .u32 x)) :
    (Instr.index 68 (.agg cs) (.int .i64 (j : Int))).run Tryz.prog w = .ok (.int .u32 x) w := by
  have hs : (sizeOf 67).run Tryz.prog w = .ok 1 w := by kernel_rfl
  have ha : (isAgg 67).run Tryz.prog w = .ok false w := by kernel_rfl
  simp [Instr.index, asIntOf, run_underlying Tryz.underlying68, part, hs, ha, hc, Result.andThen]
  intro h; omega
/-- the state's cells -/
def stTab (v : Nat → Int) : Array Value := #[.int .u32 (v 0), .int .u32 (v 1), .int .u32 (v 2), .int .u32 (v 3), .int .u32 (v 4), .int .u32 (v 5), .int .u32 (v 6), .int .u32 (v 7)]
theorem stTab_at (v : Nat → Int) (j : Nat) (h : j < 8) : (stTab v)[j]? = some (.int .u32 (v j)) := by
  match j, h with
  | 0, _ => rfl
  | 1, _ => rfl
  | 2, _ => rfl
  | 3, _ => rfl
  | 4, _ => rfl
  | 5, _ => rfl
  | 6, _ => rfl
  | 7, _ => rfl

theorem stTab_one (v : Nat → Int) : (stTab v).all (·.oneCell') = true := by
  rw [Array.all_eq_true]
  intro i hi
  have h := stTab_at v i hi
  rw [Array.getElem?_eq_getElem hi] at h
  injection h with h
  rw [h]; rfl
theorem load_w {w : World} {c : Array Value} {t : TypeId} (B : Nat) (hB : B = w.heap.size) : (w.alloc (.cells c t)).heap[B]? = some (.cells c t (0, 0)) := by subst hB; exact heap_alloc_new w _
theorem lit_one {a b c d e f g h : Int} : (#[Value.int .u32 a, .int .u32 b, .int .u32 c, .int .u32 d, .int .u32 e, .int .u32 f, .int .u32 g, .int .u32 h] : Array Value).all (·.oneCell') = true := by
  simp [Value.oneCell']
theorem stTab_eq {v : Nat → Int} {cur : Array Value} (hs : cur.size = 8) (h : ∀ j, j < 8 → cur[j]? = some (.int .u32 (v j))) : cur = stTab v := by
  apply Array.ext_getElem?
  intro i
  by_cases hi : i < 8
  · rw [h i hi, stTab_at v i hi]
  · rw [Array.getElem?_eq_none (by omega), Array.getElem?_eq_none (by show 8 ≤ i; omega)]
structure DW (w wr : World) (hv0 : Nat → Int) (cur : Array Value) : Prop where
  below : Below w.heap.size w wr
  st : wr.heap[w.heap.size]? = some (.cells (stTab hv0) 68 (0, 0))
  res : ∃ Z : Array Value, Z.size = 8 ∧ wr.heap[w.heap.size + 2]? = some (.cells Z 68 (0, 0))
  now : wr.heap[w.heap.size + 3]? = some (.cells cur 68 (0, 0))
  size : cur.size = 8
theorem DW.drew {w wr : World} {hv0 : Nat → Int} {cur : Array Value} (h : DW w wr hv0 cur) : DW w wr.drew hv0 cur := ⟨h.below.drew, h.st, h.res, h.now, h.size⟩
theorem DW.set {w wr : World} {hv0 : Nat → Int} {cur : Array Value} (h : DW w wr hv0 cur) (t : Nat) (v : Value) : DW w (wr.setCell ⟨w.heap.size + 3, t, none⟩ v) hv0 (cur.setIfInBounds t v) := by
  obtain ⟨h1, h2, ⟨Z, hZ, h3⟩, h4, h5⟩ := h
  exact ⟨h1.setCell (p := ⟨w.heap.size + 3, t, none⟩) (by show _ ≤ w.heap.size + 3; omega) v,
    by rw [heap_setCell_other wr ⟨w.heap.size + 3, t, none⟩ _ v (by show _ ≠ w.heap.size + 3; omega)]; exact h2,
    ⟨Z, hZ, by rw [heap_setCell_other wr ⟨w.heap.size + 3, t, none⟩ _ v (by show _ ≠ w.heap.size + 3; omega)]; exact h3⟩, heap_setCell_same wr _ t _ _ _ h4, by simpa using h5⟩
theorem DW.setRow {w wr : World} {hv0 : Nat → Int} {cur : Array Value} (h : DW w wr hv0 cur) (c : Array Value) (hc : c.size = 8) : DW w (wr.setRow (w.heap.size + 3) c) hv0 c := by
  obtain ⟨h1, h2, ⟨Z, hZ, h3⟩, h4, h5⟩ := h
  exact ⟨h1.trans ⟨rfl, rfl, rfl, by simp, fun k hk => setRow_other _ _ _ _ (by omega)⟩, (setRow_other _ _ _ _ (by omega)).trans h2, ⟨Z, hZ, (setRow_other _ _ _ _ (by omega)).trans h3⟩, setRow_heap wr _ cur c _ (0, 0) h4, hc⟩
theorem DW.cell {w wr : World} {hv0 : Nat → Int} {cur : Array Value} (h : DW w wr hv0 cur) (t : Nat) : wr.cell? ⟨w.heap.size + 3, t, none⟩ = cur[t]? := cell_of_row wr _ t _ _ _ h.now
theorem DW.scell {w wr : World} {hv0 : Nat → Int} {cur : Array Value} (h : DW w wr hv0 cur) (t : Nat) (ht : t < 8) : wr.cell? ⟨w.heap.size, t, none⟩ = some (.int .u32 (hv0 t)) :=
  (cell_of_row wr _ t _ _ _ h.st).trans (stTab_at hv0 t ht)
theorem DW.fz {w wr : World} {hv0 : Nat → Int} {cur : Array Value} (h : DW w wr hv0 cur) (t : Nat) : wr.frozen? ⟨w.heap.size + 3, t, none⟩ = false := frozen_of_row wr _ t _ _ h.now
theorem set_get8 {cur : Array Value} {t k : Nat} {v : Value} (hs : cur.size = 8) (ht : t < 8) : (cur.setIfInBounds t v)[k]? = if t = k then some v else cur[k]? := by
  by_cases e : t = k
  · subst e; rw [if_pos rfl, Array.getElem?_setIfInBounds_self_of_lt (by omega)]
  · rw [if_neg e, Array.getElem?_setIfInBounds_ne e]
theorem dw_start (w : World) (hv0 : Nat → Int) (B : Obj) (Z Y : Array Value) (hZ : Z.size = 8) (hY : Y.size = 8) :
    DW w ((((w.alloc (.cells (stTab hv0) 68)).alloc B).alloc (.cells Z 68)).alloc (.cells Y 68)) hv0 Y := by
  refine ⟨((((Below.refl _ w).alloc (Nat.le_refl _) _).alloc (by simp) _).alloc (by simp; omega) _).alloc (by simp; omega) _, ?_, ⟨Z, hZ, ?_⟩, ?_, hY⟩
  · rw [Below.heap_alloc _ _ _ (by simp; omega), Below.heap_alloc _ _ _ (by simp; omega), Below.heap_alloc _ _ _ (by simp)]; exact heap_alloc_new w _
  · rw [Below.heap_alloc _ _ _ (by simp)]
    have := heap_alloc_new ((w.alloc (.cells (stTab hv0) 68)).alloc B) (.cells Z 68)
    simpa using this
  · have := heap_alloc_new (((w.alloc (.cells (stTab hv0) 68)).alloc B).alloc (.cells Z 68)) (.cells Y 68)
    simpa using this

/-- the cells that a round builds -/
def rawTab (v : Nat → Int) (kt x : Int) : Array Value :=
  #[Value.int .u32 ((v 7 + bits .xor .u32 (bits .xor .u32 (rot (v 4) 6) (rot (v 4) 11)) (rot (v 4) 25) + bits .xor .u32 (bits .and .u32 (v 4) (v 5)) (bits .and .u32 (bits .xor .u32 IntKind.u32.max (v 4)) (v 6)) + kt + x +
        (bits .xor .u32 (bits .xor .u32 (rot (v 0) 2) (rot (v 0) 13)) (rot (v 0) 22) + bits .xor .u32 (bits .xor .u32 (bits .and .u32 (v 0) (v 1)) (bits .and .u32 (v 0) (v 2))) (bits .and .u32 (v 1) (v 2)))) % 4294967296),
      .int .u32 (v 0), .int .u32 (v 1), .int .u32 (v 2),
      .int .u32 ((v 3 + (v 7 + bits .xor .u32 (bits .xor .u32 (rot (v 4) 6) (rot (v 4) 11)) (rot (v 4) 25) + bits .xor .u32 (bits .and .u32 (v 4) (v 5)) (bits .and .u32 (bits .xor .u32 IntKind.u32.max (v 4)) (v 6)) + kt + x)) % 4294967296),
      .int .u32 (v 4), .int .u32 (v 5), .int .u32 (v 6)]
theorem raw_one (v : Nat → Int) (kt x : Int) : (rawTab v kt x).all (·.oneCell') = true := lit_one
theorem raw_next (v : Nat → Int) (kt x : Int) : rawTab v kt x = stTab (nextV v kt x) := stTab_eq rfl (next_cells v kt x)

set_option maxRecDepth 100000 in
set_option maxHeartbeats 4000000 in
theorem dig_block (hv0 K : Nat → Int) (bs : Nat → Nat) (w : World) (hK : ∀ j, j < 64 → w.cell? ⟨1, j, none⟩ = some (.int .u32 (K j))) (h0 : 1 < w.heap.size) :
    Calls Tryz.prog 56 #[.agg (stTab hv0), .agg (wdTab bs)] w fun e w' => e = .returned (.agg (stTab (blockV hv0 K bs))) ∧ Below w.heap.size w w' := by
  have hi8 : (Tryz.prog.info? 68).map (·.size) = some 8 := by kernel_rfl
  have hi64 : (Tryz.prog.info? 98).map (·.size) = some (wdTab bs).size := by rw [wdTab_size]; kernel_rfl
  have HI8 : Hid _ := hi8
  have HI64 : Hid _ := hi64
  have HK : Hid (∀ j, j < 64 → w.cell? ⟨1, j, none⟩ = some (.int .u32 (K j))) := hK
  have HA : ∀ C, Hid ((((w.alloc (.cells (stTab hv0) 68)).alloc (.cells (wdTab bs) 98)).alloc C).heap[w.heap.size]? = some (.cells (stTab hv0) 68 (0, 0))) := fun C => by
    show _ = _
    rw [Below.heap_alloc _ _ _ (by simp; omega), Below.heap_alloc _ _ _ (by simp)]; exact heap_alloc_new w _
  have HN3 : ∀ C D, Hid (((((w.alloc (.cells (stTab hv0) 68)).alloc (.cells (wdTab bs) 98)).alloc C).alloc (.cells D 68)).heap[w.heap.size + 3]? = some (.cells D 68 (0, 0))) := fun C D => by
    show _ = _
    exact load_w _ (by simp)
  have HB1 : ∀ C D c, Hid ((((((w.alloc (.cells (stTab hv0) 68)).alloc (.cells (wdTab bs) 98)).alloc C).alloc (.cells D 68)).setRow (w.heap.size + 3) c).heap[w.heap.size + 1]? = some (.cells (wdTab bs) 98 (0, 0))) := fun C D c => by
    show _ = _
    rw [setRow_other _ _ _ _ (by omega), Below.heap_alloc _ _ _ (by simp), Below.heap_alloc _ _ _ (by simp)]
    exact load_w _ (by simp)
  clear hK hi8 hi64
  go_enter Tryz.func56, Tryz.ntmps56
  go_wp2_with (first
    | (refine wpList_load_row ?_ 68 (.tmp 2) ?_ w.heap.size ?_ 68 (stTab hv0) (0, 0) _ ?_ Tryz.underlying68 ?_ HI8.out ?_; rfl; rfl; rfl; exact (HA _).out; rfl)
    | (refine wpList_store_row ?_ 68 (.tmp 5) (.tmp 19) ?_ (w.heap.size + 3) (stTab hv0) ?_ ?_ 68 (#[.int .u32 0, .int .u32 0, .int .u32 0, .int .u32 0, .int .u32 0, .int .u32 0, .int .u32 0, .int .u32 0]) ?_ HI8.out rfl (stTab_one _) ?_; rfl; rfl; rfl; rfl; exact (HN3 _ _).out)
    | (refine wpList_load_row ?_ 98 (.tmp 3) ?_ (w.heap.size + 1) ?_ 98 (wdTab bs) (0, 0) _ ?_ Tryz.underlying98 ?_ HI64.out ?_; rfl; rfl; rfl; exact (HB1 _ _ _).out; rfl))
  have hstart : Hid (DW w _ hv0 (stTab hv0)) := (dw_start w hv0 (.cells (wdTab bs) 98) #[.int .u32 0, .int .u32 0, .int .u32 0, .int .u32 0, .int .u32 0, .int .u32 0, .int .u32 0, .int .u32 0] #[.int .u32 0, .int .u32 0, .int .u32 0, .int .u32 0, .int .u32 0, .int .u32 0, .int .u32 0, .int .u32 0] rfl rfl).setRow (stTab hv0) rfl
  clear HA HN3 HB1
  go_loopw [21] (fun c wr => ∃ t : Nat, t ≤ 64 ∧ c = .int .i64 (t : Int) ∧ Hid (DW w wr hv0 (stTab (vAt hv0 K (wd bs) t))))
    (fun c _ => 64 - (shaIntOf c).toNat)
  case atStart => exact ⟨0, by omega, rfl, hstart⟩
  case round =>
    obtain ⟨t, ht, rfl, HD⟩ := hrel
    clear hstart
    by_cases hlt : t < 64
    · have e3 : w.heap.size + 1 + 1 + 1 = w.heap.size + 3 := by omega
      have c0 : wr.cell? ⟨w.heap.size + 1 + 1 + 1, 0, none⟩ = _ := (HD.out.cell 0).trans (stTab_at _ 0 (by omega))
      have c1 : wr.cell? ⟨w.heap.size + 1 + 1 + 1, 1, none⟩ = _ := (HD.out.cell 1).trans (stTab_at _ 1 (by omega))
      have c2 : wr.cell? ⟨w.heap.size + 1 + 1 + 1, 2, none⟩ = _ := (HD.out.cell 2).trans (stTab_at _ 2 (by omega))
      have c3 : wr.cell? ⟨w.heap.size + 1 + 1 + 1, 3, none⟩ = _ := (HD.out.cell 3).trans (stTab_at _ 3 (by omega))
      have c4 : wr.cell? ⟨w.heap.size + 1 + 1 + 1, 4, none⟩ = _ := (HD.out.cell 4).trans (stTab_at _ 4 (by omega))
      have c5 : wr.cell? ⟨w.heap.size + 1 + 1 + 1, 5, none⟩ = _ := (HD.out.cell 5).trans (stTab_at _ 5 (by omega))
      have c6 : wr.cell? ⟨w.heap.size + 1 + 1 + 1, 6, none⟩ = _ := (HD.out.cell 6).trans (stTab_at _ 6 (by omega))
      have c7 : wr.cell? ⟨w.heap.size + 1 + 1 + 1, 7, none⟩ = _ := (HD.out.cell 7).trans (stTab_at _ 7 (by omega))
      have hk := (HD.out.below.cell (p := ⟨1, t, none⟩) h0).trans (HK.out t hlt)
      have hix := fun W => index_word (wdTab bs) t _ W hlt (wdTab_at bs t hlt)
      have HN : Hid (vAt hv0 K (wd bs) (t + 1) = nextV (vAt hv0 K (wd bs) t) (K t) (wd bs t)) := rfl
      clear e3
      generalize vAt hv0 K (wd bs) t = v at c0 c1 c2 c3 c4 c5 c6 c7 HN HD
      generalize wd bs t = x at hix HN
      generalize K t = kt at hk HN
      have HNEW : ∀ wr' : World, DW w wr' hv0 (rawTab v kt x) → Hid (DW w wr' hv0 (stTab (vAt hv0 K (wd bs) (t + 1)))) := fun wr' h => by
        show DW _ _ _ _
        rw [HN.out, ← raw_next]; exact h
      clear HN
      go_wp2_with fail
      go_region
      go_wp2_with (go_at_call 66; refine (turn_q _ _ _ (by omega) (by omega)).mono ?_; rintro e w' ⟨rfl, rfl⟩)
      go_region
      go_wp2_with (first
        | (refine wpList_store_row ?_ 68 (.tmp 5) (.tmp 98) ?_ (w.heap.size + 3) (rawTab v kt x) ?_ ?_ 68 (stTab v) ?_ HI8.out rfl (raw_one _ _ _) ?_; rfl; rfl; rfl; rfl; exact HD.out.now)
        | (go_at_call 66; refine (turn_q _ _ _ (by omega) (by omega)).mono ?_; rintro e w' ⟨rfl, rfl⟩))
      go_roundw
      case rel =>
        first
          | exact ⟨t + 1, by omega, by go_num, HNEW _ (HD.out.setRow (rawTab v kt x) rfl).drew⟩
          | exact ⟨t + 1, by omega, by go_num, HNEW _ (HD.out.setRow (rawTab v kt x) rfl).drew.drew⟩
          | ((repeat apply Exists.intro); exact ⟨⟨t + 1, by omega, by go_num, HNEW _ (HD.out.setRow (rawTab v kt x) rfl).drew⟩, rfl⟩)
          | ((repeat apply Exists.intro); exact ⟨⟨t + 1, by omega, by go_num, HNEW _ (HD.out.setRow (rawTab v kt x) rfl).drew.drew⟩, rfl⟩)
      case measure => simp [shaIntOf]; omega
    · obtain rfl : t = 64 := by omega
      go_wp2_with fail
      go_loopw [100] (fun c wr => ∃ (t : Nat) (cur : Array Value), t ≤ 8 ∧ c = .int .i64 (t : Int) ∧ Hid (DW w wr hv0 cur) ∧ Hid (∀ k, k < t → cur[k]? = some (.int .u32 (blockV hv0 K bs k))) ∧ Hid (∀ k, t ≤ k → k < 8 → cur[k]? = some (.int .u32 (vAt hv0 K (wd bs) 64 k))))
        (fun c _ => 8 - (shaIntOf c).toNat)
      case atStart => exact ⟨0, _, by omega, rfl, HD, fun k hk => absurd hk (by omega), fun k _ hk => stTab_at _ k hk⟩
      case round =>
        obtain ⟨t, cur, ht, rfl, HD, HB, HV⟩ := hrel
        by_cases hlt : t < 8
        · have hc : wr.cell? ⟨w.heap.size + 1 + 1 + 1, t, none⟩ = _ := (HD.out.cell t).trans (HV.out t (Nat.le_refl _) hlt)
          have hs := HD.out.scell t hlt
          have hf : wr.frozen? ⟨w.heap.size + 1 + 1 + 1, t, none⟩ = false := HD.out.fz t
          have HBV : Hid (blockV hv0 K bs t = (vAt hv0 K (wd bs) 64 t + hv0 t) % 4294967296) := congrArg (· % 4294967296) (Int.add_comm _ _)
          generalize vAt hv0 K (wd bs) 64 t = x at hc HBV
          generalize hv0 t = y at hs HBV
          go_wp2_with fail
          go_region
          go_wp2_with fail
          go_roundw
          case rel =>
            have h2 : ∀ k, k < t + 1 → (cur.setIfInBounds t (.int .u32 ((x + y) % 4294967296)))[k]? = some (.int .u32 (blockV hv0 K bs k)) := fun k hk => by
              rw [set_get8 HD.out.size hlt]
              by_cases e : t = k
              · subst e; rw [if_pos rfl, HBV.out]
              · rw [if_neg e]; exact HB.out k (by omega)
            have h3 : ∀ k, t + 1 ≤ k → k < 8 → (cur.setIfInBounds t (.int .u32 ((x + y) % 4294967296)))[k]? = some (.int .u32 (vAt hv0 K (wd bs) 64 k)) := fun k h1 h2 => by
              rw [set_get8 HD.out.size hlt, if_neg (by omega)]; exact HV.out k (by omega) h2
            first
              | exact ⟨t + 1, _, by omega, by go_num, (HD.out.set t _).drew, h2, h3⟩
              | exact ⟨t + 1, _, by omega, by go_num, (HD.out.set t _).drew.drew, h2, h3⟩
              | ((repeat apply Exists.intro); exact ⟨⟨t + 1, _, by omega, by go_num, (HD.out.set t _).drew, h2, h3⟩, rfl⟩)
          case measure => simp [shaIntOf]; omega
        · obtain rfl : t = 8 := by omega
          obtain rfl : cur = stTab (blockV hv0 K bs) := stTab_eq HD.out.size HB.out
          obtain ⟨hb, _, ⟨Z, hZ, hres⟩, hnow, _⟩ := HD.out
          have H1 : Hid _ := hnow
          have H2 : Hid _ := hres
          have H5 : Hid (Z.size = (stTab (blockV hv0 K bs)).size) := hZ
          have H3 : Hid _ := setRow_heap wr (w.heap.size + 2) Z (stTab (blockV hv0 K bs)) 68 (0, 0) hres
          have H6 : Hid (Below w.heap.size w (wr.setRow (w.heap.size + 2) (stTab (blockV hv0 K bs)))) := hb.trans ⟨rfl, rfl, rfl, by simp, fun k hk => setRow_other _ _ _ _ (by omega)⟩
          clear hb hZ hres hnow HD HB HV
          go_wp2_with (first
            | (refine wpList_load_row ?_ 68 (.tmp 5) ?_ (w.heap.size + 3) ?_ 68 (stTab (blockV hv0 K bs)) (0, 0) _ ?_ Tryz.underlying68 ?_ HI8.out ?_; rfl; rfl; rfl; exact H1.out; rfl)
            | (refine wpList_store_row ?_ 68 (.tmp 4) (.tmp 112) ?_ (w.heap.size + 2) (stTab (blockV hv0 K bs)) ?_ ?_ 68 Z ?_ HI8.out H5.out (stTab_one _) ?_; rfl; rfl; rfl; rfl; exact H2.out))
          (try simp only [Exit.inBlock, Exit.then])
          exact bodyPost_ret (results_cell_row rfl _ _ (w.heap.size + 2) 68 (stTab (blockV hv0 K bs)) (0, 0) _ rfl H3.out Tryz.underlying68 rfl HI8.out) rfl ⟨rfl, H6.out⟩
end Go.Proofs.YtnkahdidelhdaacGreatDoor
