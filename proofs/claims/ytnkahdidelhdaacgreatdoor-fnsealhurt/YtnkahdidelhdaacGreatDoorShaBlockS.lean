/-
  What the specification's l2Block answers.
-/
import Derived.Test.YtnkahdidelhdaacGreatDoorShaMath
import Derived.Test.YtnkahdidelhdaacGreatDoorConv
import Derived.Laws.MakeOwn
import Derived.Laws.Rows
import Derived.Deep.QuietTactic
import Derived.BigQuiet
import Derived.WalkSmall
namespace Go.Proofs.YtnkahdidelhdaacGreatDoor
open Go.RowKit

theorem one_one {x : Int} {k : IntKind} : ∀ u ∈ [Value.int k x], u.oneCell' = true := by
  intro u hu
  simp at hu
  subst hu
  rfl
theorem Tryz.infw : (Tryz.prog.info? 67).map (fun i => (i.zero, i.size, i.bytes)) = some (some (.int .u32 0), 1, 4) := by kernel_rfl

set_option maxRecDepth 100000 in
set_option maxHeartbeats 4000000 in
theorem sblock_any (hb kb bb off cb : Nat) (ch ck : Nat) (hv0 K : Nat → Int) (bs : Nat → Nat) (w : World)
    (hH : ∀ j, j < 8 → w.cell? ⟨hb, j, none⟩ = some (.int .u32 (hv0 j))) (hK : ∀ j, j < 64 → w.cell? ⟨kb, j, none⟩ = some (.int .u32 (K j)))
    (hB : ∀ j, j < 64 → w.cell? ⟨bb, off + j, none⟩ = some (.int .u8 (bs j : Int))) (hbs : ∀ j, bs j < 256) (h1 : hb < w.heap.size) (h2 : kb < w.heap.size) (h3 : bb < w.heap.size) (_h4 : 8 ≤ ch) (_h5 : 64 ≤ ck) (_h6 : 64 ≤ cb) :
    Calls Tryz.prog 48 #[.slice (some ⟨hb, 0, none⟩) 8 ch, .slice (some ⟨kb, 0, none⟩) 64 ck, .slice (some ⟨bb, off, none⟩) 64 cb] w fun e w' =>
      (∃ g cap : Nat, e = .returned (.slice (some ⟨g, 0, none⟩) 8 cap) ∧ 8 ≤ cap ∧ w.heap.size ≤ g ∧ ∀ j, j < 8 → w'.cell? ⟨g, j, none⟩ = some (.int .u32 (blockV hv0 K bs j))) ∧ Below w.heap.size w w' := by
  obtain ⟨i0, hi, hz0, hz1, hz2⟩ := info_parts Tryz.infw
  obtain ⟨M, hM⟩ : ∃ M, M = madeCells (Value.int .u32 0).cells ((64 : Int).toNat * i0.size) := ⟨_, rfl⟩
  have hMs : M.size = 64 := by rw [hM, size_madeCells, hz1]; rfl
  have hmk : ∀ W : World, (Instr.makeSlice 62 (.int .i64 64) (.int .i64 64)).run Tryz.prog W = .ok (.slice (some ⟨W.heap.size, 0, none⟩) 64 64) (W.alloc (.cells M 67)) := fun W => by
    have h := run_make (P := Tryz.prog) W 62 67 i0 (.int .u32 0) Tryz.underlying62 hi hz0 .i64 .i64 64 64 (by omega) (by omega) (by rw [hz2]; decide) (by omega)
    rw [← hM] at h
    simpa using h
  clear hM
  go_enter Tryz.func48, Tryz.ntmps48
  go_wp2_with fail
  clear hmk
  go_loopw [8] (fun i wr => ∃ (t : Nat) (cur : Array Value), t ≤ 64 ∧ i = .int .i64 (t : Int) ∧ Below w.heap.size w wr ∧ wr.heap.size = w.heap.size + 1 ∧ wr.heap[w.heap.size]? = some (.cells cur 67 (0, 0)) ∧ cur.size = 64 ∧ Hid (∀ j, j < t → cur[j]? = some (.int .u32 (wd bs j))))
    (fun i _ => 64 - (shaIntOf i).toNat)
  case atStart => exact ⟨0, M, by omega, rfl, (Below.refl _ _).alloc (Nat.le_refl _) _, by simp, heap_alloc_new w _, hMs, fun j hj => absurd hj (by omega)⟩
  case round =>
    obtain ⟨t, cur, ht, rfl, hbl, hsz, hhp, hcs, HW⟩ := hrel
    by_cases hlt : t < 64
    · by_cases h16 : t < 16
      · have hb0 := (hbl.cell (p := ⟨bb, off + (4 * t), none⟩) h3).trans (hB (4 * t) (by omega))
        have hb1 := (hbl.cell (p := ⟨bb, off + (4 * t + 1), none⟩) h3).trans (hB (4 * t + 1) (by omega))
        have hb2 := (hbl.cell (p := ⟨bb, off + (4 * t + 2), none⟩) h3).trans (hB (4 * t + 2) (by omega))
        have hb3 := (hbl.cell (p := ⟨bb, off + (4 * t + 3), none⟩) h3).trans (hB (4 * t + 3) (by omega))
        have hc0 := hbs (4 * t)
        have hc1 := hbs (4 * t + 1)
        have hc2 := hbs (4 * t + 2)
        have hc3 := hbs (4 * t + 3)
        obtain ⟨x, hx⟩ : ∃ x, cur[t]? = some x := ⟨_, Array.getElem?_eq_getElem (by omega)⟩
        have hcx : wr.cell? ⟨w.heap.size, t, none⟩ = some x := by rw [cell_of_row wr w.heap.size t _ _ _ hhp]; exact hx
        have hfx := frozen_of_row wr w.heap.size t _ _ hhp
        have hv0 : wd bs t = _ := wd_low h16
        generalize bs (4 * t) = b0 at hb0 hc0 hv0
        generalize bs (4 * t + 1) = b1 at hb1 hc1 hv0
        generalize bs (4 * t + 2) = b2 at hb2 hc2 hv0
        generalize bs (4 * t + 3) = b3 at hb3 hc3 hv0
        have HV : Hid _ := (or_word b0 b1 b2 b3 hc0 hc1 hc2 hc3).trans hv0.symm
        have HB : Hid _ := hbl
        have HP : Hid _ := hhp
        clear hH hK hB hbs hx hv0 hbl hhp
        go_wp2_with fail
        go_region
        go_wp2_with fail
        go_roundw
        case rel => exact ⟨t + 1, _, by omega, by go_num, (HB.out.setCell (p := ⟨w.heap.size, t, none⟩) (Nat.le_refl _) _).drew, by simpa [World.setCell] using hsz, heap_setCell_same wr w.heap.size t _ _ _ HP.out, by simpa using hcs, words_set hcs hlt HW.out HV.out⟩
        case measure => simp [shaIntOf]; omega
      · have hw2 := HW.out (t - 2) (by omega)
        have hw7 := HW.out (t - 7) (by omega)
        have hw15 := HW.out (t - 15) (by omega)
        have hw16 := HW.out (t - 16) (by omega)
        obtain ⟨x, hx⟩ : ∃ x, cur[t]? = some x := ⟨_, Array.getElem?_eq_getElem (by omega)⟩
        have hcx : wr.cell? ⟨w.heap.size, t, none⟩ = some x := by rw [cell_of_row wr w.heap.size t _ _ _ hhp]; exact hx
        have hfx := frozen_of_row wr w.heap.size t _ _ hhp
        have hv0 : wd bs t = _ := wd_high (by omega)
        have hc2 := (cell_of_row wr w.heap.size (t - 2) _ _ _ hhp).trans hw2
        have hc7 := (cell_of_row wr w.heap.size (t - 7) _ _ _ hhp).trans hw7
        have hc15 := (cell_of_row wr w.heap.size (t - 15) _ _ _ hhp).trans hw15
        have hc16 := (cell_of_row wr w.heap.size (t - 16) _ _ _ hhp).trans hw16
        generalize wd bs (t - 2) = x2 at hc2 hv0
        generalize wd bs (t - 7) = x7 at hc7 hv0
        generalize wd bs (t - 15) = x15 at hc15 hv0
        generalize wd bs (t - 16) = x16 at hc16 hv0
        have HV : Hid (wd bs t = _) := hv0
        have HB : Hid _ := hbl
        have HP : Hid _ := hhp
        clear hH hK hB hbs hx hv0 hbl hhp hw2 hw7 hw15 hw16
        go_wp2_with (go_at_call 60; refine (sturn_q _ _ _ (by omega) (by omega)).mono ?_; rintro e w' ⟨rfl, rfl⟩)
        go_region
        go_wp2_with fail
        go_roundw
        case rel => exact ⟨t + 1, _, by omega, by go_num, (HB.out.setCell (p := ⟨w.heap.size, t, none⟩) (Nat.le_refl _) _).drew, by simpa [World.setCell] using hsz, heap_setCell_same w' w.heap.size t _ _ _ HP.out, by simpa using hcs, words_set hcs hlt HW.out HV.out.symm⟩
        case measure => simp [shaIntOf]; omega
    · obtain rfl : t = 64 := by omega
      clear hB hbs
      have HH0 : Hid (∀ j, j < 8 → w.cell? ⟨hb, j, none⟩ = some (.int .u32 (hv0 j))) := hH
      have hbase : w.heap.size ≤ wr.heap.size := by omega
      have hown0 := World.ownsRow_made (e := 67) (size := 1) (base := w.heap.size) wr #[] 0 hbase (by unfold maxLen; omega) rfl
      have hnews : ∀ j u, ((List.range 8).map (fun j => Value.int .u32 (hv0 j)))[j]? = some u → (wr.alloc (.cells #[] 67)).cell? ((⟨hb, 0, none⟩ : Addr).add j) = some u := by
        intro j u hj
        have hj8 : j < 8 := by
          have := (List.getElem?_eq_some_iff.1 hj).1
          simpa using this
        have ea : (⟨hb, 0, none⟩ : Addr).add j = ⟨hb, j, none⟩ := by
          unfold Addr.add
          by_cases h0 : j = 0
          · subst h0; simp
          · simp [h0]
        rw [ea, World.cell?_alloc_lt (h := by have := hbl.size; simp; omega), hbl.cell (p := ⟨hb, j, none⟩) h1, hH j hj8]
        simpa [hj8] using hj
      have hone : ∀ u ∈ (List.range 8).map (fun j => Value.int .u32 (hv0 j)), u.oneCell' = true := by
        intro u hu
        obtain ⟨j, _, rfl⟩ := List.mem_map.1 hu
        rfl
      go_wp2_with (at_builtin; (refine wpList_append_own _ rfl (.tmp 108) (.tmp 109) 62 rfl w.heap.size 67 i0 (.int .u32 0) 1 4 Tryz.underlying62 hi hz0 hz1 hz2 rfl (by decide) (.slice (some ⟨wr.heap.size, 0, none⟩) 0 0) 0 [] (by simp [Act.eval]) hown0 ⟨hb, 0, none⟩ 8 ch ((List.range 8).map (fun j => Value.int .u32 (hv0 j))) (by simp [Act.eval]) (by simp) hnews hone ?c3 ?c4 ?c5 ?_))
      case c3 => unfold maxLen; omega
      case c4 => omega
      case c5 => simp; omega
      intro v' w1 hown' hgrow _
      obtain ⟨_, ⟨_, h0⟩ | ⟨g, cap, cur2, rfl, hbg, hgh, hn, hcc, hs2, ht2⟩⟩ := hown'
      · omega
      have hbl1 : Below w.heap.size w w1 := (hbl.alloc hbase _).grown hgrow (by simp; omega) (fun k hk => by simp [Value.ownBlock] at hk; omega)
      have hhp1 : w1.heap[w.heap.size]? = some (.cells cur 67 (0, 0)) := by
        rw [hgrow.block _ (by simp; omega) (by simp only [Value.ownBlock, ne_eq, Option.some.injEq]; omega), Below.heap_alloc _ _ _ (by omega)]; exact hhp
      have hv8 : ∀ j, j < 8 → w1.cell? ⟨g, j, none⟩ = some (.int .u32 (hv0 j)) := by
        intro j hj
        rw [cell_of_row w1 g j _ _ _ hgh]
        have h3 : ((List.range 8).map (fun j => Value.int .u32 (hv0 j)))[j]? = some (.int .u32 (hv0 j)) := by rw [List.getElem?_map, List.getElem?_range hj]; rfl
        have h4' : (List.range 8).map (fun j => Value.int .u32 (hv0 j)) = cur2.toList.take (8 * 1) := ht2.symm
        rw [h4', List.getElem?_take, if_pos (by omega)] at h3
        simpa using h3
      have HH : Hid (∀ j, j < 8 → w1.cell? ⟨g, j, none⟩ = some (.int .u32 (hv0 j))) := hv8
      have HB1 : Hid _ := hbl1
      have HP1 : Hid _ := hhp1
      clear hown0 hnews hone hH hbl hhp hgh hs2 ht2 hgrow hbl1 hhp1 hv8 hn hcc hbg
      go_wp2_with fail
      go_loopw [13, 14] (fun v i wq => ∃ (t g cap : Nat), t ≤ 64 ∧ i = .int .i64 (t : Int) ∧ v = .slice (some ⟨g, 0, none⟩) 8 cap ∧ Hid (Below w.heap.size w wq) ∧ Hid (wq.heap[w.heap.size]? = some (.cells cur 67 (0, 0))) ∧ Hid (∀ j, j < 8 → wq.cell? ⟨g, j, none⟩ = some (.int .u32 (vAt hv0 K (wd bs) t j))))
        (fun _ i _ => 64 - (shaIntOf i).toNat)
      case atStart => exact ⟨0, g, cap, by omega, rfl, rfl, HB1, HP1, HH⟩
      case round =>
        obtain ⟨t, g, cap, ht, rfl, rfl, HB2, HP2, HC⟩ := hrel
        clear HH HB1 HP1
        by_cases hlt : t < 64
        · have hk := (HB2.out.cell (p := ⟨kb, t, none⟩) h2).trans (hK t hlt)
          have hw := (cell_of_row wr w.heap.size t _ _ _ HP2.out).trans (HW.out t hlt)
          have c0 := HC.out 0 (by omega)
          have c1 := HC.out 1 (by omega)
          have c2 := HC.out 2 (by omega)
          have c3 := HC.out 3 (by omega)
          have c4 := HC.out 4 (by omega)
          have c5 := HC.out 5 (by omega)
          have c6 := HC.out 6 (by omega)
          have c7 := HC.out 7 (by omega)
          have HN : Hid (vAt hv0 K (wd bs) (t + 1) = nextV (vAt hv0 K (wd bs) t) (K t) (wd bs t)) := rfl
          generalize vAt hv0 K (wd bs) t = v at c0 c1 c2 c3 c4 c5 c6 c7 HN
          generalize wd bs t = x at hw HN
          generalize K t = kt at hk HN
          clear hK
          go_wp2_with fail
          go_quiet ((go_at_call 60; exact Calls.quiet_of_same (sturn_q _ _ _ (by omega) (by omega))))
          have d0 : (wr.drewN nq).cell? ⟨g, 0, none⟩ = _ := c0
          have d1 : (wr.drewN nq).cell? ⟨g, 1, none⟩ = _ := c1
          have d2 : (wr.drewN nq).cell? ⟨g, 2, none⟩ = _ := c2
          have d3 : (wr.drewN nq).cell? ⟨g, 3, none⟩ = _ := c3
          have d5 : (wr.drewN nq).cell? ⟨g, 5, none⟩ = _ := c5
          have d6 : (wr.drewN nq).cell? ⟨g, 6, none⟩ = _ := c6
          have HB3 : Hid (Below w.heap.size w (wr.drewN nq)) := below_drewN HB2.out nq
          have HP3 : Hid ((wr.drewN nq).heap[w.heap.size]? = some (.cells cur 67 (0, 0))) := HP2.out
          generalize wr.drewN nq = wy at d0 d1 d2 d3 d5 d6 HB3 HP3 ⊢
          clear c0 c1 c2 c3 c4 c5 c6 c7 hk hw HB2 HP2 HC
          go_wp2_with fail
          go_quiet ((go_at_call 60; exact Calls.quiet_of_same (sturn_q _ _ _ (by omega) (by omega))))
          have e1 : (wy.drewN nq).cell? ⟨g, 1, none⟩ = _ := d1
          have e2 : (wy.drewN nq).cell? ⟨g, 2, none⟩ = _ := d2
          have e3 : (wy.drewN nq).cell? ⟨g, 3, none⟩ = _ := d3
          have e5 : (wy.drewN nq).cell? ⟨g, 5, none⟩ = _ := d5
          have e6 : (wy.drewN nq).cell? ⟨g, 6, none⟩ = _ := d6
          have HB4 : Hid (Below w.heap.size w (wy.drewN nq)) := below_drewN HB3.out nq
          have HP4 : Hid ((wy.drewN nq).heap[w.heap.size]? = some (.cells cur 67 (0, 0))) := HP3.out
          generalize wy.drewN nq = wz at e1 e2 e3 e5 e6 HB4 HP4 ⊢
          clear d0 d1 d2 d3 d5 d6 HB3 HP3
          go_wp2_with fail
          go_region
          go_wp2_with fail
          go_roundw
          case rel =>
            have hlz : w.heap.size < wz.heap.size := by
              rcases Nat.lt_or_ge w.heap.size wz.heap.size with h' | h'
              · exact h'
              · have := HP4.out; rw [Array.getElem?_eq_none h'] at this; cases this
            exact ⟨t + 1, wz.heap.size, 8, by omega, by go_num, rfl, (HB4.out.alloc HB4.out.size _).drew, (Below.heap_alloc wz _ _ hlz).trans HP4.out, fun j hj => (World.cell?_alloc_mark wz _ _ _ j).trans (by rw [HN.out]; exact next_cells v kt x j hj)⟩
          case measure => simp [shaIntOf]; omega
        · obtain rfl : t = 64 := by omega
          have hbw := HB2.out
          have hvc := HC.out
          have hgl : g < wr.heap.size := block_lt_of_cell (hvc 0 (by omega))
          clear HP2 hK HC HB2
          go_wp2_with fail
          go_loopw [19, 20] (fun v i wp => ∃ (n : Nat), n ≤ 8 ∧ i = .int .i64 (n : Int) ∧ wp.ownsRow wr.heap.size 67 1 v ((List.range n).map (fun j => Value.int .u32 (blockV hv0 K bs j))).length ((List.range n).map (fun j => Value.int .u32 (blockV hv0 K bs j))) ∧ wr.grownBy wp none)
            (fun _ i _ => 8 - (shaIntOf i).toNat)
          case atStart => exact ⟨0, by omega, rfl, World.ownsRow_made wr #[] 0 (Nat.le_refl _) (by unfold maxLen; omega) rfl, World.grownBy_alloc wr _ none⟩
          case round =>
            obtain ⟨n, hn8, rfl, hown, hg⟩ := hrel
            by_cases hlt : n < 8
            · have hh := hg.cell ((hbw.cell (p := ⟨hb, n, none⟩) h1).trans (HH0.out n hlt)) (by simp)
              have hv := hg.cell (hvc n hlt) (by simp)
              have hgs := hg.size
              have hsn : Hid ((List.range (n + 1)).map (fun j => Value.int .u32 (blockV hv0 K bs j)) = (List.range n).map (fun j => Value.int .u32 (blockV hv0 K bs j)) ++ [Value.int .u32 (blockV hv0 K bs n)]) := by
                show _ = _
                rw [List.range_succ, List.map_append]; rfl
              have hbv : Hid (blockV hv0 K bs n = (hv0 n + vAt hv0 K (wd bs) 64 n) % 4294967296) := rfl
              have HBW : Hid _ := hbw
              clear hbw hvc HH0
              generalize hv0 n = x at hh hbv
              generalize vAt hv0 K (wd bs) 64 n = y at hv hbv
              go_wp2_with fail
              go_region_law (refine step_append_mine rfl _ _ 62 rfl _ 67 i0 (.int .u32 0) 1 4 Tryz.underlying62 hi hz0 hz1 hz2 rfl (by decide) _ _ _ rfl ((owns_drew hown).alloc _) ⟨wr.heap.size, 0, none⟩ 1 1 [_] rfl rfl (cell_one_new _ _ _) one_one (by simp [maxLen]; omega) (by simp; omega) (by simp; omega) ?_; intro v' w1 hown' hgrow _)
              all_goals
                rw [IntKind.wrap_u32, ← hbv.out, ← hsn.out] at hown'
                have hgr := (hg.trans (World.grownBy_alloc wr (.cells #[Value.int .u32 (IntKind.u32.wrap (x + y))] 67) none)).andThen (c := w1) ⟨hgrow.os, hgrow.tape, hgrow.output, hgrow.size, hgrow.block⟩ (fun j hj => Or.inl (hown.lt j hj).1)
                have H1 : Hid (World.ownsRow _ _ _ _ _ _ _ ∧ World.grownBy _ _ _) := ⟨hown', hgr⟩
                clear hown' hgr hgrow hown hg
                go_wp2_with fail
                go_roundw
                case rel => first | exact ⟨n + 1, by omega, by go_num, by simpa using H1.out.1, H1.out.2⟩ | ((repeat apply Exists.intro); exact ⟨⟨n + 1, by omega, by go_num, by simpa using H1.out.1, H1.out.2⟩, rfl⟩)
                case measure => simp [shaIntOf]; omega
            · obtain rfl : n = 8 := by omega
              obtain ⟨_, ⟨_, h0⟩ | ⟨g3, cap3, cur3, rfl, hbg3, hgh3, hn3, hcc3, hs3, ht3⟩⟩ := hown
              · simp at h0
              have hcs3 : ∀ j, j < 8 → wr.cell? ⟨g3, j, none⟩ = some (.int .u32 (blockV hv0 K bs j)) := by
                intro j hj
                rw [cell_of_row wr g3 j _ _ _ hgh3]
                have h3 : ((List.range 8).map (fun j => Value.int .u32 (blockV hv0 K bs j)))[j]? = some (.int .u32 (blockV hv0 K bs j)) := by rw [List.getElem?_map, List.getElem?_range hj]; rfl
                rw [← ht3, List.getElem?_take, if_pos (by simp; omega)] at h3
                simpa using h3
              have HF : Hid ((∀ j, j < 8 → wr.cell? ⟨g3, j, none⟩ = some (.int .u32 (blockV hv0 K bs j))) ∧ Below w.heap.size w wr) := ⟨hcs3, hbw.grown hg hbw.size (fun k hk => by cases hk)⟩
              have hn8' : 8 ≤ cap3 := by simpa using hn3
              have hge : w.heap.size ≤ g3 := by have := hbw.size; omega
              clear hcs3 hgh3 ht3 hg hvc hbw
              go_wp2_with fail
              go_ret
              exact ⟨⟨g3, cap3, rfl, hn8', hge, HF.out.1⟩, HF.out.2⟩
end Go.Proofs.YtnkahdidelhdaacGreatDoor
