/-
  What schedule answers: the words of a block.
-/
import Derived.Test.YtnkahdidelhdaacGreatDoorShaWord
import Derived.Laws.Rows
import Derived.Lib.Strings
import Derived.Deep.WholeRow
import Derived.WalkSmall
namespace Go.Proofs.YtnkahdidelhdaacGreatDoor
open Go.RowKit

theorem pt_four (bs : Nat → Nat) (i : Nat) (h : i < 16) : ((pt bs i 4 : Nat) : Int) = wd bs i := by
  rw [wd_low h]; simp only [pt, Nat.zero_mul, Nat.zero_add, Nat.add_zero]
/-- the words' cells -/
def wdTab (bs : Nat → Nat) : Array Value := Array.ofFn fun i : Fin 64 => Value.int .u32 (wd bs i.val)
theorem wdTab_size (bs : Nat → Nat) : (wdTab bs).size = 64 := by simp [wdTab]
theorem wdTab_at (bs : Nat → Nat) (j : Nat) (h : j < 64) : (wdTab bs)[j]? = some (.int .u32 (wd bs j)) := by simp [wdTab, h]
theorem wdTab_one (bs : Nat → Nat) : (wdTab bs).all (·.oneCell') = true := by
  rw [Array.all_eq_true]
  intro i hi
  simp only [wdTab, Array.getElem_ofFn]
  rfl
theorem wdTab_eq {bs : Nat → Nat} {cur : Array Value} (hs : cur.size = 64) (h : ∀ j, j < 64 → cur[j]? = some (.int .u32 (wd bs j))) : cur = wdTab bs := by
  apply Array.ext_getElem?
  intro i
  by_cases hi : i < 64
  · rw [h i hi, wdTab_at bs i hi]
  · rw [Array.getElem?_eq_none (by omega), Array.getElem?_eq_none (by rw [wdTab_size]; omega)]

structure SW (w wr : World) (cur : Array Value) : Prop where
  below : Below w.heap.size w wr
  res : ∃ Z : Array Value, Z.size = 64 ∧ wr.heap[w.heap.size]? = some (.cells Z 98 (0, 0))
  row : wr.heap[w.heap.size + 1]? = some (.cells cur 98 (0, 0))
  size : cur.size = 64
theorem SW.drew {w wr : World} {cur : Array Value} (h : SW w wr cur) : SW w wr.drew cur := ⟨h.below.drew, h.res, h.row, h.size⟩
theorem SW.set {w wr : World} {cur : Array Value} (h : SW w wr cur) (t : Nat) (v : Value) : SW w (wr.setCell ⟨w.heap.size + 1, t, none⟩ v) (cur.setIfInBounds t v) := by
  obtain ⟨h1, ⟨Z, hZ, h2⟩, h3, h4⟩ := h
  exact ⟨h1.setCell (p := ⟨w.heap.size + 1, t, none⟩) (by show _ ≤ w.heap.size + 1; omega) v, ⟨Z, hZ, by rw [heap_setCell_other wr ⟨w.heap.size + 1, t, none⟩ _ v (by show _ ≠ w.heap.size + 1; omega)]; exact h2⟩, heap_setCell_same wr _ t _ _ _ h3, by simpa using h4⟩
theorem SW.cell {w wr : World} {cur : Array Value} (h : SW w wr cur) (t : Nat) : wr.cell? ⟨w.heap.size + 1, t, none⟩ = cur[t]? := cell_of_row wr _ t _ _ _ h.row
theorem SW.fz {w wr : World} {cur : Array Value} (h : SW w wr cur) (t : Nat) : wr.frozen? ⟨w.heap.size + 1, t, none⟩ = false := frozen_of_row wr _ t _ _ h.row
theorem set_get {cur : Array Value} {t k : Nat} {v : Value} (hs : cur.size = 64) (ht : t < 64) : (cur.setIfInBounds t v)[k]? = if t = k then some v else cur[k]? := by
  by_cases e : t = k
  · subst e; rw [if_pos rfl, Array.getElem?_setIfInBounds_self_of_lt (by omega)]
  · rw [if_neg e, Array.getElem?_setIfInBounds_ne e]

set_option maxRecDepth 100000 in
set_option maxHeartbeats 4000000 in
theorem sched_any (s : ByteArray) (w : World) (hs : s.size = 64) :
    Calls Tryz.prog 57 #[.string s] w fun e w' => e = .returned (.agg (wdTab (bsOf s))) ∧ Below w.heap.size w w' := by
  have HS : Hid (s.size = 64) := hs
  have hs64 : (64 : Int) ≤ s.size := by omega
  clear hs
  go_enter Tryz.func57, Tryz.ntmps57
  go_wp2_with fail
  go_loopw [10] (fun c wr => ∃ (i : Nat) (cur : Array Value), i ≤ 16 ∧ c = .int .i64 (i : Int) ∧ Hid (SW w wr cur) ∧ Hid (∀ k, k < i → cur[k]? = some (.int .u32 (wd (bsOf s) k))) ∧ Hid (∀ k, i ≤ k → k < 64 → cur[k]? = some (.int .u32 0)))
    (fun c _ => 16 - (shaIntOf c).toNat)
  case atStart =>
    refine ⟨0, _, by omega, rfl, ⟨((Below.refl _ w).alloc (Nat.le_refl _) _).alloc (by simp) _, ⟨_, by decide, heap_alloc2_old w _ _⟩, heap_alloc2_new w _ _, by decide⟩, fun k hk => absurd hk (by omega), fun k _ hk => ?_⟩
    have hz : ∀ k : Fin 64, (Array.replicate 64 (Value.int .u32 0))[k.val]? = some (.int .u32 0) := fun k => by simp
    exact hz ⟨k, hk⟩
  case round =>
    obtain ⟨i, cur, hi, rfl, HSW, HW, HZ⟩ := hrel
    by_cases hlt : i < 16
    · obtain ⟨x, hx⟩ : ∃ x, cur[i]? = some x := ⟨_, Array.getElem?_eq_getElem (by have := HSW.out.size; omega)⟩
      have hcx := (HSW.out.cell i).trans hx
      have hfx := HSW.out.fz i
      have HPF : Hid (((pt (bsOf s) i 4 : Nat) : Int) = wd (bsOf s) i) := pt_four _ _ hlt
      clear hx
      go_wp2_with (go_at_call 67; refine (word_any s i _ (by have := HS.out; omega) (by omega)).mono ?_; rintro e w' ⟨rfl, rfl⟩)
      go_roundw
      case rel =>
        have h2 : ∀ k, k < i + 1 → (cur.setIfInBounds i (.int .u32 ((pt (bsOf s) i 4 : Nat) : Int)))[k]? = some (.int .u32 (wd (bsOf s) k)) := fun k hk => by
          rw [set_get HSW.out.size (by omega)]
          by_cases e : i = k
          · subst e; rw [if_pos rfl, HPF.out]
          · rw [if_neg e]; exact HW.out k (by omega)
        have h3 : ∀ k, i + 1 ≤ k → k < 64 → (cur.setIfInBounds i (.int .u32 ((pt (bsOf s) i 4 : Nat) : Int)))[k]? = some (.int .u32 0) := fun k h1 h2 => by
          rw [set_get HSW.out.size (by omega), if_neg (by omega)]; exact HZ.out k (by omega) h2
        first
          | exact ⟨i + 1, _, by omega, by go_num, (HSW.out.set i _).drew, h2, h3⟩
          | exact ⟨i + 1, _, by omega, by go_num, HSW.out.set i _, h2, h3⟩
          | ((repeat apply Exists.intro); exact ⟨⟨i + 1, _, by omega, by go_num, (HSW.out.set i _).drew, h2, h3⟩, rfl⟩)
      case measure => simp [shaIntOf]; omega
    · obtain rfl : i = 16 := by omega
      clear HZ
      go_wp2_with fail
      go_loopw [5] (fun c wr => ∃ (t : Nat) (cur : Array Value), 16 ≤ t ∧ t ≤ 64 ∧ c = .int .i64 (t : Int) ∧ Hid (SW w wr cur) ∧ Hid (∀ k, k < t → cur[k]? = some (.int .u32 (wd (bsOf s) k))))
        (fun c _ => 64 - (shaIntOf c).toNat)
      case atStart => exact ⟨16, cur, by omega, by omega, rfl, HSW, HW⟩
      case round =>
        obtain ⟨t, cur, ht0, ht, rfl, HSW, HW⟩ := hrel
        by_cases hlt : t < 64
        · have hc2 := (HSW.out.cell (t - 2)).trans (HW.out (t - 2) (by omega))
          have hc7 := (HSW.out.cell (t - 7)).trans (HW.out (t - 7) (by omega))
          have hc15 := (HSW.out.cell (t - 15)).trans (HW.out (t - 15) (by omega))
          have hc16 := (HSW.out.cell (t - 16)).trans (HW.out (t - 16) (by omega))
          obtain ⟨x, hx⟩ : ∃ x, cur[t]? = some x := ⟨_, Array.getElem?_eq_getElem (by have := HSW.out.size; omega)⟩
          have hcx := (HSW.out.cell t).trans hx
          have hfx := HSW.out.fz t
          have hv0 : wd (bsOf s) t = _ := wd_high ht0
          generalize wd (bsOf s) (t - 2) = x2 at hc2 hv0
          generalize wd (bsOf s) (t - 7) = x7 at hc7 hv0
          generalize wd (bsOf s) (t - 15) = x15 at hc15 hv0
          generalize wd (bsOf s) (t - 16) = x16 at hc16 hv0
          have HWn : Hid (∀ k, k < t + 1 → (cur.setIfInBounds t (.int .u32 ((x16 + bits .xor .u32 (bits .xor .u32 (rot x15 7) (rot x15 18)) (x15 / 8) + x7 + bits .xor .u32 (bits .xor .u32 (rot x2 17) (rot x2 19)) (x2 / 1024)) % 4294967296)))[k]? = some (.int .u32 (wd (bsOf s) k))) := by
            refine words_set HSW.out.size hlt HW.out ?_
            rw [hv0]
            unfold sg0 sg1
            congr 1; omega
          clear hv0 hx
          go_wp2_with fail
          go_region
          go_wp2_with (go_at_call 66; refine (turn_q _ _ _ (by omega) (by omega)).mono ?_; rintro e w' ⟨rfl, rfl⟩)
          go_region
          go_wp2_with fail
          go_roundw
          case rel =>
            first
              | exact ⟨t + 1, _, by omega, by omega, by go_num, (HSW.out.set t _).drew, HWn⟩
              | exact ⟨t + 1, _, by omega, by omega, by go_num, (HSW.out.set t _).drew.drew, HWn⟩
              | ((repeat apply Exists.intro); exact ⟨⟨t + 1, _, by omega, by omega, by go_num, (HSW.out.set t _).drew, HWn⟩, rfl⟩)
              | ((repeat apply Exists.intro); exact ⟨⟨t + 1, _, by omega, by omega, by go_num, (HSW.out.set t _).drew.drew, HWn⟩, rfl⟩)
          case measure => simp [shaIntOf]; omega
        · obtain rfl : t = 64 := by omega
          obtain rfl : cur = wdTab (bsOf s) := wdTab_eq HSW.out.size HW.out
          obtain ⟨hb, ⟨Z, hZ, hres⟩, hrow, _⟩ := HSW.out
          have hi52 : (Tryz.prog.info? 98).map (·.size) = some (wdTab (bsOf s)).size := by rw [wdTab_size]; kernel_rfl
          have H1 : Hid _ := hrow
          have H2 : Hid _ := hres
          have H4 : Hid _ := hi52
          have H5 : Hid (Z.size = (wdTab (bsOf s)).size) := by show _ = _; rw [wdTab_size]; exact hZ
          have H3 : Hid _ := setRow_heap wr w.heap.size Z (wdTab (bsOf s)) 98 (0, 0) hres
          have H6 : Hid (Below w.heap.size w (wr.setRow w.heap.size (wdTab (bsOf s)))) := hb.trans ⟨rfl, rfl, rfl, by simp, fun k hk => setRow_other _ _ _ _ (by omega)⟩
          clear hb hZ hres hrow hi52 HSW HW
          go_wp2_with (first
            | (refine wpList_load_row rfl 98 _ rfl (w.heap.size + 1) rfl 98 (wdTab (bsOf s)) (0, 0) _ H1.out Tryz.underlying98 rfl H4.out ?_)
            | (refine wpList_store_row rfl 98 _ _ rfl w.heap.size (wdTab (bsOf s)) rfl rfl 98 Z H2.out H4.out H5.out (wdTab_one _) ?_))
          (try simp only [Exit.inBlock, Exit.then])
          exact bodyPost_ret (results_cell_row rfl _ _ w.heap.size 98 (wdTab (bsOf s)) (0, 0) _ rfl H3.out Tryz.underlying98 rfl H4.out) rfl ⟨rfl, H6.out⟩
end Go.Proofs.YtnkahdidelhdaacGreatDoor
