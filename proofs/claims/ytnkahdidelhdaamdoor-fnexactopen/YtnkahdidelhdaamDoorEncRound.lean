/-
  A round, and all rounds.
-/
import Derived.Test.YtnkahdidelhdaamDoorEncShift
namespace Go.Proofs.YtnkahdidelhdaamDoor
open Go.RowKit
set_option linter.unusedVariables false

/-- two rows that the call has made: the state and the answer -/
structure RW (w : World) (cur Z : Array Value) (wr : World) : Prop where
  below : Below w.heap.size w wr
  ra : wr.heap[w.heap.size]? = some (.cells cur 77 (0, 0))
  rr : wr.heap[w.heap.size + 1]? = some (.cells Z 77 (0, 0))
theorem RW.set {w wr : World} {Z cur : Array Value} (h : RW w cur Z wr) (t : Nat) (v : Value) : RW w (cur.setIfInBounds t v) Z (wr.setCell ⟨w.heap.size, t, none⟩ v) :=
  ⟨h.below.setCell (p := ⟨w.heap.size, t, none⟩) (Nat.le_refl _) v, heap_setCell_same wr _ t _ _ _ h.ra,
    by rw [heap_setCell_other wr ⟨w.heap.size, t, none⟩ _ v (by show _ ≠ w.heap.size; omega)]; exact h.rr⟩
theorem RW.drew {w wr : World} {Z cur : Array Value} (h : RW w cur Z wr) : RW w cur Z wr.drew := ⟨h.below.drew, h.ra, h.rr⟩
theorem RW.lt {w wr : World} {Z cur : Array Value} (h : RW w cur Z wr) : w.heap.size + 1 < wr.heap.size := (Array.getElem?_eq_some_iff.1 h.rr).1
theorem below_trans {B C : Nat} {a b c : World} (h : Below B a b) (k : Below C b c) (hBC : B ≤ C) : Below B a c :=
  ⟨k.os.trans h.os, k.tape.trans h.tape, k.output.trans h.output, Nat.le_trans h.size k.size, fun i hi => (k.block i (Nat.lt_of_lt_of_le hi hBC)).trans (h.block i hi)⟩
theorem RW.call {w wr w' : World} {Z cur : Array Value} (h : RW w cur Z wr) (hb : Below wr.heap.size wr w') : RW w cur Z w' :=
  ⟨below_trans h.below hb h.below.size, (hb.block _ (by have := h.lt; omega)).trans h.ra, (hb.block _ h.lt).trans h.rr⟩
theorem RW.row {w wr : World} {Z cur : Array Value} (h : RW w cur Z wr) (new : Array Value) : RW w new Z (wr.setRow w.heap.size new) :=
  ⟨h.below.trans ⟨rfl, rfl, rfl, by simp, fun k hk => setRow_other _ _ _ _ (by omega)⟩, setRow_heap wr w.heap.size cur new 77 (0, 0) h.ra, by rw [setRow_other _ _ _ _ (by omega)]; exact h.rr⟩
theorem RW.start (w : World) (S Z : Array Value) : RW w S Z ((w.alloc (.cells S 77)).alloc (.cells Z 77)) := by
  refine ⟨((Below.refl _ _).alloc (Nat.le_refl _) _).alloc (by simp) _, ?_, ?_⟩
  · rw [(heap_al _ _).2 _ (by simp), (heap_al _ _).1]
  · rw [show w.heap.size + 1 = (w.alloc (.cells S 77)).heap.size by simp, (heap_al _ _).1]
theorem index_col (f : Nat → Nat) (j : Nat) (w : World) (hj : j < 4) :
    (Instr.index 77 (.agg (cols f)) (.int .i64 (j : Int))).run Tryd.prog w = .ok (.int .u32 (f j : Nat)) w := by
  have hs : (sizeOf 54).run Tryd.prog w = .ok 1 w := by kernel_rfl
  have ha : (isAgg 54).run Tryd.prog w = .ok false w := by kernel_rfl
  have hc := cols_at f hj
  simp [Instr.index, asIntOf, run_underlying Tryd.underlying77, part, hs, ha, hc, Result.andThen]
  intro h; omega
/-- the block behind a round -/
def rdB (s W : Nat → Nat) (r : Nat) : Nat → Nat := addB (if r = 0 then s else midB s r) W r

set_option maxRecDepth 100000 in
set_option maxHeartbeats 2000000 in
theorem round_any (b : Nat) (W s : Nat → Nat) (r : Nat) (w : World) (hs : ∀ i, s i < 256) (hk : KC b W w) (hr : r ≤ 14) (hW : ∀ j, j < 60 → W j < 4294967296) :
    Calls Tryd.prog 49 #[.pointer (some ⟨b, 0, none⟩), .agg (cols (cl s)), .int .i64 (r : Int)] w fun e w' => e = .returned (.agg (cols (cl (rdB s W r)))) ∧ Below w.heap.size w w' := by
  have HK : Hid (∀ wr, Below w.heap.size w wr → KC b W wr) := fun wr h => hk.below h hk.lt
  have HF : Hid (∀ i, s i < 256) := hs
  have HWL : Hid (∀ j, j < 60 → W j < 4294967296) := hW
  have hbl : b < w.heap.size := hk.lt
  clear hk hs hW
  obtain ⟨Z, hZ⟩ : ∃ Z : Array Value, Z = cols fun _ => 0 := ⟨_, rfl⟩
  have hz := col_zero
  rw [← hZ] at hz
  have hZs : Z.size = 4 := by rw [hZ]; rfl
  have hZc : (Value.agg Z).cells = Z := by rw [hZ]; kernel_rfl
  have hSc : (Value.agg (cols (cl s))).cells = cols (cl s) := by kernel_rfl
  have hSs : (cols (cl s)).size = 4 := rfl
  clear hZ
  have HI : Hid _ := col_info
  obtain ⟨S, hS⟩ : ∃ S : Array Value, S = cols (cl s) := ⟨_, rfl⟩
  rw [← hS] at hSc hSs
  rw [← hS]
  have HS0 : Hid (S = cols (cl s)) := hS
  clear hS
  have HSs : Hid (S.size = 4) := hSs
  clear hSs
  go_enter Tryd.func49, Tryd.ntmps49
  rcases (by omega : r = 0 ∨ (0 < r ∧ r < 14) ∨ r = 14) with hr0 | hrm | hr14
  · have h0 : ¬ (0 : Int) < (r : Int) := by omega
    have HR0 : Hid (r = 0) := hr0
    clear hr0
    go_wp2_with fail
    have HR : Hid (RW w S Z ((w.alloc (.cells S 77)).alloc (.cells Z 77))) := RW.start w S Z
    clear hz hZc hSc
    generalize (w.alloc (.cells S 77)).alloc (.cells Z 77) = W2 at HR ⊢
    obtain ⟨y, hy⟩ : ∃ y, y = (s) := ⟨_, rfl⟩
    have HY : Hid (∀ i, y i < 256) := by rw [hy]; exact HF.out
    have HP0 : Hid (rdB s W r = addB y W r) := by rw [hy]; exact (by show _ = _; unfold rdB; rw [if_pos HR0.out])
    obtain ⟨C, hC⟩ : ∃ C : Nat → Array Value, C = fun n => cols (upTo (cl (addB y W r)) (cl y) n) := ⟨_, rfl⟩
    have HRC : Hid (RW w (C 0) Z W2) := by
      rw [hC]; show RW w (cols (cl y)) Z _
      rw [hy]; exact by rw [← HS0.out]; exact HR.out
    have HCS : Hid (∀ n, n < 4 → (C n).setIfInBounds n (.int .u32 ((cl y n ^^^ W (4 * r + n) : Nat) : Int)) = C (n + 1)) := fun n hn => by
      have := cols_set (cl (addB y W r)) (cl y) hn
      rw [cl_add HY.out (HWL.out _ (by omega))] at this
      rw [hC]; exact this
    have HCA : Hid (∀ n, n < 4 → (C n)[n]? = some (.int .u32 (cl y n : Nat))) := fun n hn => by
      rw [hC]; show (cols _)[n]? = _
      rw [cols_at _ hn, upTo_new _ _ _ (by omega)]
    have HC4 : Hid ((C 4).size = 4 ∧ (C 4).all (·.oneCell') = true ∧ cols (cl (rdB s W r)) = C 4) := by
      rw [HP0.out, hC]; exact ⟨rfl, cols_one _, rfl⟩
    clear HP0 hC hy
    go_loopw [32] (fun c wr => ∃ n : Nat, n ≤ 4 ∧ c = .int .i64 (n : Int) ∧ Hid (RW w (C n) Z wr)) (fun c _ => 4 - (cipIntOf c).toNat)
    case atStart => exact ⟨0, by omega, rfl, HRC⟩
    case round =>
      obtain ⟨n, hn, rfl, HQ⟩ := hrel
      clear HRC
      by_cases hlt : n < 4
      · have c0 := (cell_of_row wr _ n _ _ _ HQ.out.ra).trans (HCA.out n hlt)
        have c1 := (HK.out wr HQ.out.below).word (4 * r + n) (by omega)
        have l0 := cl_lt HY.out n
        have l1 := HWL.out (4 * r + n) (by omega)
        have hfz := frozen_of_row wr _ n _ _ HQ.out.ra
        have hxo : bits .xor .u32 (cl y n : Nat) (W (4 * r + n) : Nat) = ((cl y n ^^^ W (4 * r + n) : Nat) : Int) := u32_xor_nat _ _ l0 l1
        have HN : Hid (RW w (C (n + 1)) Z (wr.drew.setCell ⟨w.heap.size, n, none⟩ (.int .u32 ((cl y n ^^^ W (4 * r + n) : Nat) : Int)))) := by
          have := HQ.out.drew.set n (.int .u32 ((cl y n ^^^ W (4 * r + n) : Nat) : Int))
          rwa [HCS.out n hlt] at this
        generalize cl y n ^^^ W (4 * r + n) = v at hxo HN
        generalize cl y n = x0 at c0 l0 hxo
        generalize W (4 * r + n) = x1 at c1 l1 hxo
        have e1 : 4 * (r : Int) + (n : Int) = ((4 * r + n : Nat) : Int) := by omega
        have e1l : 4 * r + n < 60 := by omega
        generalize 4 * r + n = q at c1 e1 e1l
        go_wp2_with fail
        go_region
        go_wp2_with fail
        go_roundw
        case rel => exact ⟨n + 1, by omega, by go_num, HN⟩
        case measure => simp [cipIntOf]; omega
      · obtain rfl : n = 4 := by omega
        have H1 : Hid _ := HQ.out.ra
        have H2 : Hid _ := HQ.out.rr
        have H4 : Hid (Option.map (·.size) (Tryd.prog.info? 77) = some (C 4).size) := by show _ = _; rw [HC4.out.1]; exact HI.out
        have H5 : Hid (Z.size = (C 4).size) := by show _ = _; rw [HC4.out.1]; exact hZs
        have H3 : Hid _ := setRow_heap wr (w.heap.size + 1) Z (C 4) 77 (0, 0) HQ.out.rr
        have H6 : Hid (Below w.heap.size w (wr.setRow (w.heap.size + 1) (C 4))) := HQ.out.below.trans ⟨rfl, rfl, rfl, by simp, fun k hk => setRow_other _ _ _ _ (by omega)⟩
        have H7 : Hid _ := HC4.out.2.1
        have H8 : Hid _ := HC4.out.2.2
        clear HQ HCS HCA HC4 hZs
        generalize C 4 = D at H1 H2 H3 H4 H5 H6 H7 H8
        go_wp2_with (first
          | (refine wpList_load_row rfl 77 _ rfl (w.heap.size) rfl 77 D (0, 0) _ H1.out Tryd.underlying77 rfl H4.out ?_)
          | (refine wpList_store_row rfl 77 _ (.tmp 50) rfl (w.heap.size + 1) D rfl rfl 77 Z H2.out H4.out H5.out H7.out ?_))
        (try simp only [Exit.inBlock, Exit.then])
        exact bodyPost_ret (results_cell_row rfl _ _ (w.heap.size + 1) 77 D (0, 0) _ rfl H3.out Tryd.underlying77 rfl H4.out) rfl ⟨by rw [H8.out], H6.out⟩
  · obtain ⟨hrp, hrl⟩ := hrm
    have h0 : (0 : Int) < (r : Int) := by omega
    have h14 : (r : Int) < 14 := by omega
    have HR : Hid (RW w S Z ((w.alloc (.cells S 77)).alloc (.cells Z 77))) := RW.start w S Z
    have hld : ((w.alloc (.cells S 77)).alloc (.cells Z 77)).heap[w.heap.size]? = some (.cells S 77 (0, 0)) := HR.out.ra
    have HLD : Hid _ := hld
    clear hld
    have hi4 : (Tryd.prog.info? 77).map (·.size) = some S.size := by rw [HSs.out]; exact HI.out
    have HI4 : Hid _ := hi4
    clear hi4
    have HSH : Hid (Calls Tryd.prog 56 #[.pointer (some ⟨b, 0, none⟩), .agg S] ((w.alloc (.cells S 77)).alloc (.cells Z 77)) fun e w' => e = .returned (.agg (cols (cl (subsB s)))) ∧ Below ((w.alloc (.cells S 77)).alloc (.cells Z 77)).heap.size ((w.alloc (.cells S 77)).alloc (.cells Z 77)) w') := by
      have t := shifted_any b W s ((w.alloc (.cells S 77)).alloc (.cells Z 77)) HF.out (HK.out ((w.alloc (.cells S 77)).alloc (.cells Z 77)) HR.out.below)
      rw [← HS0.out] at t
      exact t
    obtain ⟨X, hX⟩ : ∃ X : Array Value, X = cols (cl (subsB s)) := ⟨_, rfl⟩
    rw [← hX] at HSH
    have hXs : X.size = S.size := by rw [hX, HSs.out]; rfl
    have HXI : Hid (Option.map (·.size) (Tryd.prog.info? 77) = some X.size ∧ S.size = X.size ∧ X.all (·.oneCell') = true) := ⟨by rw [hXs]; exact HI4.out, hXs.symm, by rw [hX]; exact cols_one _⟩
    have HX : Hid _ := hX
    clear hX hXs
    go_wp2_with (refine wpList_load_row rfl 77 _ rfl (w.heap.size) rfl 77 S (0, 0) _ HLD.out Tryd.underlying77 rfl HI4.out ?_)
    refine HSH.out.mono ?_
    rintro e w3 ⟨rfl, hb3⟩
    have HR3 : Hid (RW w S Z w3) := HR.out.call hb3
    have HR4 : Hid (RW w X Z (w3.setRow w.heap.size X)) := HR3.out.row X
    have HLD3 : Hid (w3.heap[w.heap.size]? = some (.cells S 77 (0, 0))) := HR3.out.ra
    clear hb3 HSH HR HLD
    have HLD4 : Hid ((w3.setRow w.heap.size X).heap[w.heap.size]? = some (.cells X 77 (0, 0))) := HR4.out.ra
    go_wp2_with (first
      | (refine wpList_store_row rfl 77 _ (.tmp 14) rfl (w.heap.size) X rfl rfl 77 S HLD3.out HXI.out.1 HXI.out.2.1 HXI.out.2.2 ?_)
      | (refine wpList_load_row rfl 77 _ rfl (w.heap.size) rfl 77 X (0, 0) _ HLD4.out Tryd.underlying77 rfl HXI.out.1 ?_))
    clear HLD3 HR3 HLD4
    generalize w3.setRow w.heap.size X = W4 at HR4 ⊢
    have HMX : Hid (RW w X Z W4) := HR4.out
    clear HR4
    obtain ⟨y1, hy1⟩ : ∃ y1, y1 = subsB s := ⟨_, rfl⟩
    have HY1 : Hid (∀ i, y1 i < 256) := by rw [hy1]; exact subsB_lt HF.out
    have HYE : Hid (y1 = subsB s) := hy1
    have HX1 : Hid (X = cols (cl y1)) := by rw [hy1]; exact HX.out
    clear hy1
    obtain ⟨C, hC⟩ : ∃ C : Nat → Array Value, C = fun n => cols (upTo (cl (mixB y1)) (cl y1) n) := ⟨_, rfl⟩
    have HRC : Hid (RW w (C 0) Z W4) := by
      rw [hC]; show RW w (cols (cl y1)) Z _
      rw [← HX1.out]; exact HMX.out
    have HCS : Hid (∀ n, n < 4 → (C n).setIfInBounds n (.int .u32 (cl (mixB y1) n : Nat)) = C (n + 1)) := fun n hn => by
      rw [hC]; exact cols_set (cl (mixB y1)) (cl y1) hn
    have HCA : Hid (∀ n, n < 4 → (C n)[n]? = some (.int .u32 (cl y1 n : Nat))) := fun n hn => by
      rw [hC]; show (cols _)[n]? = _
      rw [cols_at _ hn, upTo_new _ _ _ (by omega)]
    have HC4 : Hid (C 4 = cols (cl (mixB y1))) := by rw [hC]; rfl
    clear hC
    have HIX : Hid (∀ (n : Nat) (w' : World), n < 4 → (Instr.index 77 (.agg X) (.int .i64 (n : Int))).run Tryd.prog w' = .ok (.int .u32 (cl y1 n : Nat)) w') := fun n w' hn => by rw [HX1.out]; exact index_col _ n w' hn
    clear HMX HX HI4
    go_loopw [23] (fun c wr => ∃ n : Nat, n ≤ 4 ∧ c = .int .i64 (n : Int) ∧ Hid (RW w (C n) Z wr)) (fun c _ => 4 - (cipIntOf c).toNat)
    case atStart => exact ⟨0, by omega, rfl, HRC⟩
    case round =>
      obtain ⟨n, hn, rfl, HQ⟩ := hrel
      clear HRC
      by_cases hlt : n < 4
      · have hix : ∀ w', (Instr.index 77 (.agg X) (.int .i64 (n : Int))).run Tryd.prog w' = .ok (.int .u32 (cl y1 n : Nat)) w' := fun w' => HIX.out n w' hlt
        have c0 := (cell_of_row wr _ n _ _ _ HQ.out.ra).trans (HCA.out n hlt)
        have hfz := frozen_of_row wr _ n _ _ HQ.out.ra
        have HM : Hid (∀ w', Calls Tryd.prog 57 #[.int .u32 (cl y1 n : Nat)] w' fun e w'' => e = .returned (.int .u32 (cl (mixB y1) n : Nat)) ∧ w'' = w') := fun w' => by
          rw [cl_mix]; exact mixed_any _ _ _ _ w' (HY1.out _) (HY1.out _) (HY1.out _) (HY1.out _)
        have HN : Hid (RW w (C (n + 1)) Z (wr.setCell ⟨w.heap.size, n, none⟩ (.int .u32 (cl (mixB y1) n : Nat)))) := by
          have := HQ.out.set n (.int .u32 (cl (mixB y1) n : Nat))
          rwa [HCS.out n hlt] at this
        generalize cl (mixB y1) n = v at HM HN
        generalize cl y1 n = x0 at c0 hix HM
        go_wp2_with fail
        refine (HM.out _).mono ?_
        rintro e w' ⟨rfl, hw⟩
        subst w'
        go_wp2_with fail
        go_roundw
        case rel => exact ⟨n + 1, by omega, by go_num, HN⟩
        case measure => simp [cipIntOf]; omega
      · obtain rfl : n = 4 := by omega
        have HR4 : Hid (RW w (cols (cl (mixB y1))) Z wr) := by rw [← HC4.out]; exact HQ.out
        clear HCS HCA HQ HIX HC4
        go_wp2_with fail
        obtain ⟨y, hy⟩ : ∃ y, y = (mixB y1) := ⟨_, rfl⟩
        have HY : Hid (∀ i, y i < 256) := by rw [hy]; exact mixB_lt HY1.out
        have HP0 : Hid (rdB s W r = addB y W r) := by rw [hy]; exact (by show _ = _; rw [HYE.out]; unfold rdB midB; rw [if_neg (by omega), if_pos hrl])
        obtain ⟨C, hC⟩ : ∃ C : Nat → Array Value, C = fun n => cols (upTo (cl (addB y W r)) (cl y) n) := ⟨_, rfl⟩
        have HRC : Hid (RW w (C 0) Z wr) := by
          rw [hC]; show RW w (cols (cl y)) Z _
          rw [hy]; exact HR4.out
        have HCS : Hid (∀ n, n < 4 → (C n).setIfInBounds n (.int .u32 ((cl y n ^^^ W (4 * r + n) : Nat) : Int)) = C (n + 1)) := fun n hn => by
          have := cols_set (cl (addB y W r)) (cl y) hn
          rw [cl_add HY.out (HWL.out _ (by omega))] at this
          rw [hC]; exact this
        have HCA : Hid (∀ n, n < 4 → (C n)[n]? = some (.int .u32 (cl y n : Nat))) := fun n hn => by
          rw [hC]; show (cols _)[n]? = _
          rw [cols_at _ hn, upTo_new _ _ _ (by omega)]
        have HC4 : Hid ((C 4).size = 4 ∧ (C 4).all (·.oneCell') = true ∧ cols (cl (rdB s W r)) = C 4) := by
          rw [HP0.out, hC]; exact ⟨rfl, cols_one _, rfl⟩
        clear HP0 hC hy
        go_loopw [32] (fun c wr => ∃ n : Nat, n ≤ 4 ∧ c = .int .i64 (n : Int) ∧ Hid (RW w (C n) Z wr)) (fun c _ => 4 - (cipIntOf c).toNat)
        case atStart => exact ⟨0, by omega, rfl, HRC⟩
        case round =>
          obtain ⟨n, hn, rfl, HQ⟩ := hrel
          clear HRC
          by_cases hlt : n < 4
          · have c0 := (cell_of_row wr _ n _ _ _ HQ.out.ra).trans (HCA.out n hlt)
            have c1 := (HK.out wr HQ.out.below).word (4 * r + n) (by omega)
            have l0 := cl_lt HY.out n
            have l1 := HWL.out (4 * r + n) (by omega)
            have hfz := frozen_of_row wr _ n _ _ HQ.out.ra
            have hxo : bits .xor .u32 (cl y n : Nat) (W (4 * r + n) : Nat) = ((cl y n ^^^ W (4 * r + n) : Nat) : Int) := u32_xor_nat _ _ l0 l1
            have HN : Hid (RW w (C (n + 1)) Z (wr.drew.setCell ⟨w.heap.size, n, none⟩ (.int .u32 ((cl y n ^^^ W (4 * r + n) : Nat) : Int)))) := by
              have := HQ.out.drew.set n (.int .u32 ((cl y n ^^^ W (4 * r + n) : Nat) : Int))
              rwa [HCS.out n hlt] at this
            generalize cl y n ^^^ W (4 * r + n) = v at hxo HN
            generalize cl y n = x0 at c0 l0 hxo
            generalize W (4 * r + n) = x1 at c1 l1 hxo
            have e1 : 4 * (r : Int) + (n : Int) = ((4 * r + n : Nat) : Int) := by omega
            have e1l : 4 * r + n < 60 := by omega
            generalize 4 * r + n = q at c1 e1 e1l
            go_wp2_with fail
            go_region
            go_wp2_with fail
            go_roundw
            case rel => exact ⟨n + 1, by omega, by go_num, HN⟩
            case measure => simp [cipIntOf]; omega
          · obtain rfl : n = 4 := by omega
            have H1 : Hid _ := HQ.out.ra
            have H2 : Hid _ := HQ.out.rr
            have H4 : Hid (Option.map (·.size) (Tryd.prog.info? 77) = some (C 4).size) := by show _ = _; rw [HC4.out.1]; exact HI.out
            have H5 : Hid (Z.size = (C 4).size) := by show _ = _; rw [HC4.out.1]; exact hZs
            have H3 : Hid _ := setRow_heap wr (w.heap.size + 1) Z (C 4) 77 (0, 0) HQ.out.rr
            have H6 : Hid (Below w.heap.size w (wr.setRow (w.heap.size + 1) (C 4))) := HQ.out.below.trans ⟨rfl, rfl, rfl, by simp, fun k hk => setRow_other _ _ _ _ (by omega)⟩
            have H7 : Hid _ := HC4.out.2.1
            have H8 : Hid _ := HC4.out.2.2
            clear HQ HCS HCA HC4 hZs
            generalize C 4 = D at H1 H2 H3 H4 H5 H6 H7 H8
            go_wp2_with (first
              | (refine wpList_load_row rfl 77 _ rfl (w.heap.size) rfl 77 D (0, 0) _ H1.out Tryd.underlying77 rfl H4.out ?_)
              | (refine wpList_store_row rfl 77 _ (.tmp 50) rfl (w.heap.size + 1) D rfl rfl 77 Z H2.out H4.out H5.out H7.out ?_))
            (try simp only [Exit.inBlock, Exit.then])
            exact bodyPost_ret (results_cell_row rfl _ _ (w.heap.size + 1) 77 D (0, 0) _ rfl H3.out Tryd.underlying77 rfl H4.out) rfl ⟨by rw [H8.out], H6.out⟩
  · have h0 : (0 : Int) < (r : Int) := by omega
    have h14 : ¬ (r : Int) < 14 := by omega
    have HR0 : Hid (r = 14) := hr14
    clear hr14
    have HR : Hid (RW w S Z ((w.alloc (.cells S 77)).alloc (.cells Z 77))) := RW.start w S Z
    have hld : ((w.alloc (.cells S 77)).alloc (.cells Z 77)).heap[w.heap.size]? = some (.cells S 77 (0, 0)) := HR.out.ra
    have HLD : Hid _ := hld
    clear hld
    have hi4 : (Tryd.prog.info? 77).map (·.size) = some S.size := by rw [HSs.out]; exact HI.out
    have HI4 : Hid _ := hi4
    clear hi4
    have HSH : Hid (Calls Tryd.prog 56 #[.pointer (some ⟨b, 0, none⟩), .agg S] ((w.alloc (.cells S 77)).alloc (.cells Z 77)) fun e w' => e = .returned (.agg (cols (cl (subsB s)))) ∧ Below ((w.alloc (.cells S 77)).alloc (.cells Z 77)).heap.size ((w.alloc (.cells S 77)).alloc (.cells Z 77)) w') := by
      have t := shifted_any b W s ((w.alloc (.cells S 77)).alloc (.cells Z 77)) HF.out (HK.out ((w.alloc (.cells S 77)).alloc (.cells Z 77)) HR.out.below)
      rw [← HS0.out] at t
      exact t
    obtain ⟨X, hX⟩ : ∃ X : Array Value, X = cols (cl (subsB s)) := ⟨_, rfl⟩
    rw [← hX] at HSH
    have hXs : X.size = S.size := by rw [hX, HSs.out]; rfl
    have HXI : Hid (Option.map (·.size) (Tryd.prog.info? 77) = some X.size ∧ S.size = X.size ∧ X.all (·.oneCell') = true) := ⟨by rw [hXs]; exact HI4.out, hXs.symm, by rw [hX]; exact cols_one _⟩
    have HX : Hid _ := hX
    clear hX hXs
    go_wp2_with (refine wpList_load_row rfl 77 _ rfl (w.heap.size) rfl 77 S (0, 0) _ HLD.out Tryd.underlying77 rfl HI4.out ?_)
    refine HSH.out.mono ?_
    rintro e w3 ⟨rfl, hb3⟩
    have HR3 : Hid (RW w S Z w3) := HR.out.call hb3
    have HR4 : Hid (RW w X Z (w3.setRow w.heap.size X)) := HR3.out.row X
    have HLD3 : Hid (w3.heap[w.heap.size]? = some (.cells S 77 (0, 0))) := HR3.out.ra
    clear hb3 HSH HR HLD
    have HLD4 : Hid ((w3.setRow w.heap.size X).heap[w.heap.size]? = some (.cells X 77 (0, 0))) := HR4.out.ra
    go_wp2_with (first
      | (refine wpList_store_row rfl 77 _ (.tmp 14) rfl (w.heap.size) X rfl rfl 77 S HLD3.out HXI.out.1 HXI.out.2.1 HXI.out.2.2 ?_)
      | (refine wpList_load_row rfl 77 _ rfl (w.heap.size) rfl 77 X (0, 0) _ HLD4.out Tryd.underlying77 rfl HXI.out.1 ?_))
    clear HLD3 HR3 HLD4
    generalize w3.setRow w.heap.size X = W4 at HR4 ⊢
    obtain ⟨y, hy⟩ : ∃ y, y = (subsB s) := ⟨_, rfl⟩
    have HY : Hid (∀ i, y i < 256) := by rw [hy]; exact subsB_lt HF.out
    have HP0 : Hid (rdB s W r = addB y W r) := by rw [hy]; exact (by show _ = _; unfold rdB midB; rw [if_neg (by have := HR0.out; omega), if_neg (by have := HR0.out; omega)])
    obtain ⟨C, hC⟩ : ∃ C : Nat → Array Value, C = fun n => cols (upTo (cl (addB y W r)) (cl y) n) := ⟨_, rfl⟩
    have HRC : Hid (RW w (C 0) Z W4) := by
      rw [hC]; show RW w (cols (cl y)) Z _
      rw [hy]; exact by rw [← HX.out]; exact HR4.out
    have HCS : Hid (∀ n, n < 4 → (C n).setIfInBounds n (.int .u32 ((cl y n ^^^ W (4 * r + n) : Nat) : Int)) = C (n + 1)) := fun n hn => by
      have := cols_set (cl (addB y W r)) (cl y) hn
      rw [cl_add HY.out (HWL.out _ (by omega))] at this
      rw [hC]; exact this
    have HCA : Hid (∀ n, n < 4 → (C n)[n]? = some (.int .u32 (cl y n : Nat))) := fun n hn => by
      rw [hC]; show (cols _)[n]? = _
      rw [cols_at _ hn, upTo_new _ _ _ (by omega)]
    have HC4 : Hid ((C 4).size = 4 ∧ (C 4).all (·.oneCell') = true ∧ cols (cl (rdB s W r)) = C 4) := by
      rw [HP0.out, hC]; exact ⟨rfl, cols_one _, rfl⟩
    clear HP0 hC hy
    go_loopw [32] (fun c wr => ∃ n : Nat, n ≤ 4 ∧ c = .int .i64 (n : Int) ∧ Hid (RW w (C n) Z wr)) (fun c _ => 4 - (cipIntOf c).toNat)
    case atStart => exact ⟨0, by omega, rfl, HRC⟩
    case round =>
      obtain ⟨n, hn, rfl, HQ⟩ := hrel
      clear HRC
      by_cases hlt : n < 4
      · have c0 := (cell_of_row wr _ n _ _ _ HQ.out.ra).trans (HCA.out n hlt)
        have c1 := (HK.out wr HQ.out.below).word (4 * r + n) (by omega)
        have l0 := cl_lt HY.out n
        have l1 := HWL.out (4 * r + n) (by omega)
        have hfz := frozen_of_row wr _ n _ _ HQ.out.ra
        have hxo : bits .xor .u32 (cl y n : Nat) (W (4 * r + n) : Nat) = ((cl y n ^^^ W (4 * r + n) : Nat) : Int) := u32_xor_nat _ _ l0 l1
        have HN : Hid (RW w (C (n + 1)) Z (wr.drew.setCell ⟨w.heap.size, n, none⟩ (.int .u32 ((cl y n ^^^ W (4 * r + n) : Nat) : Int)))) := by
          have := HQ.out.drew.set n (.int .u32 ((cl y n ^^^ W (4 * r + n) : Nat) : Int))
          rwa [HCS.out n hlt] at this
        generalize cl y n ^^^ W (4 * r + n) = v at hxo HN
        generalize cl y n = x0 at c0 l0 hxo
        generalize W (4 * r + n) = x1 at c1 l1 hxo
        have e1 : 4 * (r : Int) + (n : Int) = ((4 * r + n : Nat) : Int) := by omega
        have e1l : 4 * r + n < 60 := by omega
        generalize 4 * r + n = q at c1 e1 e1l
        go_wp2_with fail
        go_region
        go_wp2_with fail
        go_roundw
        case rel => exact ⟨n + 1, by omega, by go_num, HN⟩
        case measure => simp [cipIntOf]; omega
      · obtain rfl : n = 4 := by omega
        have H1 : Hid _ := HQ.out.ra
        have H2 : Hid _ := HQ.out.rr
        have H4 : Hid (Option.map (·.size) (Tryd.prog.info? 77) = some (C 4).size) := by show _ = _; rw [HC4.out.1]; exact HI.out
        have H5 : Hid (Z.size = (C 4).size) := by show _ = _; rw [HC4.out.1]; exact hZs
        have H3 : Hid _ := setRow_heap wr (w.heap.size + 1) Z (C 4) 77 (0, 0) HQ.out.rr
        have H6 : Hid (Below w.heap.size w (wr.setRow (w.heap.size + 1) (C 4))) := HQ.out.below.trans ⟨rfl, rfl, rfl, by simp, fun k hk => setRow_other _ _ _ _ (by omega)⟩
        have H7 : Hid _ := HC4.out.2.1
        have H8 : Hid _ := HC4.out.2.2
        clear HQ HCS HCA HC4 hZs
        generalize C 4 = D at H1 H2 H3 H4 H5 H6 H7 H8
        go_wp2_with (first
          | (refine wpList_load_row rfl 77 _ rfl (w.heap.size) rfl 77 D (0, 0) _ H1.out Tryd.underlying77 rfl H4.out ?_)
          | (refine wpList_store_row rfl 77 _ (.tmp 50) rfl (w.heap.size + 1) D rfl rfl 77 Z H2.out H4.out H5.out H7.out ?_))
        (try simp only [Exit.inBlock, Exit.then])
        exact bodyPost_ret (results_cell_row rfl _ _ (w.heap.size + 1) 77 D (0, 0) _ rfl H3.out Tryd.underlying77 rfl H4.out) rfl ⟨by rw [H8.out], H6.out⟩
end Go.Proofs.YtnkahdidelhdaamDoor
