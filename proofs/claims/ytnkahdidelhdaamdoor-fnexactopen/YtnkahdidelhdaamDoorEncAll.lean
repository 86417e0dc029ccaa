/-
  All rounds; a block as columns, and a byte of it.
-/
import Derived.Test.YtnkahdidelhdaamDoorEncRound
namespace Go.Proofs.YtnkahdidelhdaamDoor
open Go.RowKit
set_option linter.unusedVariables false

/-- the block ahead of round n -/
def ahead (s W : Nat → Nat) : Nat → Nat → Nat
  | 0 => s
  | n + 1 => rdB (ahead s W n) W n
theorem ahead_st (s W : Nat → Nat) : ∀ r, ahead s W (r + 1) = stB s W r
  | 0 => by show rdB s W 0 = _; unfold rdB; rw [if_pos rfl]; rfl
  | r + 1 => by
    show rdB (ahead s W (r + 1)) W (r + 1) = _
    rw [ahead_st s W r]; unfold rdB; rw [if_neg (by omega)]; rfl
theorem ahead_lt {s W : Nat → Nat} (hs : ∀ i, s i < 256) (n i : Nat) : ahead s W n i < 256 := by
  cases n with
  | zero => exact hs i
  | succ r => rw [ahead_st]; exact stB_lt hs r i

set_option maxRecDepth 100000 in
set_option maxHeartbeats 2000000 in
theorem enc_any (b : Nat) (W s : Nat → Nat) (w : World) (hs : ∀ i, s i < 256) (hk : KC b W w) (hW : ∀ j, j < 60 → W j < 4294967296) :
    Calls Tryd.prog 39 #[.pointer (some ⟨b, 0, none⟩), .agg (cols (cl s))] w fun e w' => e = .returned (.agg (cols (cl (stB s W 14)))) ∧ Below w.heap.size w w' := by
  have HK : Hid (∀ wr, Below w.heap.size w wr → KC b W wr) := fun wr h => hk.below h hk.lt
  have HF : Hid (∀ i, s i < 256) := hs
  have HWL : Hid (∀ j, j < 60 → W j < 4294967296) := hW
  clear hk hs hW
  obtain ⟨Z, hZ⟩ : ∃ Z : Array Value, Z = cols fun _ => 0 := ⟨_, rfl⟩
  have hz := col_zero
  rw [← hZ] at hz
  have hZs : Z.size = 4 := by rw [hZ]; rfl
  have hZc : (Value.agg Z).cells = Z := by rw [hZ]; kernel_rfl
  have HZS : Hid _ := hZs
  clear hZ
  have HI : Hid _ := col_info
  obtain ⟨C, hC⟩ : ∃ C : Nat → Array Value, C = fun n => cols (cl (ahead s W n)) := ⟨_, rfl⟩
  have hSc : (Value.agg (C 0)).cells = C 0 := by rw [hC]; kernel_rfl
  have HCI : Hid (∀ n, Option.map (·.size) (Tryd.prog.info? 77) = some (C n).size ∧ (∀ m, (C m).size = (C n).size) ∧ (C n).all (·.oneCell') = true ∧ Z.size = (C n).size) := fun n => by
    rw [hC, HZS.out]; exact ⟨HI.out, fun _ => rfl, cols_one _, rfl⟩
  have HRD : Hid (∀ n w', n ≤ 14 → Below w.heap.size w w' → Calls Tryd.prog 49 #[.pointer (some ⟨b, 0, none⟩), .agg (C n), .int .i64 (n : Int)] w' fun e w'' => e = .returned (.agg (C (n + 1))) ∧ Below w'.heap.size w' w'') := fun n w' hn hb => by
    rw [hC]; exact round_any b W (ahead s W n) n w' (ahead_lt HF.out n) (HK.out w' hb) hn HWL.out
  have HE : Hid (cols (cl (stB s W 14)) = C 15) := by rw [hC, ← ahead_st]; exact rfl
  rw [show cols (cl s) = C 0 by rw [hC]; rfl]
  clear hC hZs
  have HR : Hid (RW w (C 0) Z ((w.alloc (.cells (C 0) 77)).alloc (.cells Z 77))) := RW.start w (C 0) Z
  go_enter Tryd.func39, Tryd.ntmps39
  go_wp2_with fail
  clear hz hZc hSc
  generalize (w.alloc (.cells (C 0) 77)).alloc (.cells Z 77) = W2 at HR ⊢
  go_loopw [6] (fun c wr => ∃ n : Nat, n ≤ 15 ∧ c = .int .i64 (n : Int) ∧ Hid (RW w (C n) Z wr)) (fun c _ => 15 - (cipIntOf c).toNat)
  case atStart => exact ⟨0, by omega, rfl, HR⟩
  case round =>
    obtain ⟨n, hn, rfl, HQ⟩ := hrel
    clear HR
    by_cases hlt : n < 15
    · have HC1 : Hid (Calls Tryd.prog 49 #[.pointer (some ⟨b, 0, none⟩), .agg (C n), .int .i64 (n : Int)] wr fun e w'' => e = .returned (.agg (C (n + 1))) ∧ Below wr.heap.size wr w'') := HRD.out n wr (by omega) HQ.out.below
      have HL : Hid (wr.heap[w.heap.size]? = some (.cells (C n) 77 (0, 0))) := HQ.out.ra
      have HC2 : Hid _ := HCI.out n
      have HC3 : Hid (Option.map (·.size) (Tryd.prog.info? 77) = some (C (n + 1)).size ∧ (C n).size = (C (n + 1)).size ∧ (C (n + 1)).all (·.oneCell') = true) := ⟨(HCI.out (n + 1)).1, (HCI.out (n + 1)).2.1 n, (HCI.out (n + 1)).2.2.1⟩
      have HQ2 : Hid (∀ w'', Below wr.heap.size wr w'' → w''.heap[w.heap.size]? = some (.cells (C n) 77 (0, 0)) ∧ RW w (C (n + 1)) Z (w''.setRow w.heap.size (C (n + 1)))) := fun w'' hb => ⟨(HQ.out.call hb).ra, (HQ.out.call hb).row _⟩
      clear HQ HRD
      generalize C n = D at HC1 HL HC2 HC3 HQ2
      generalize hE : C (n + 1) = E at HC1 HC3 HQ2
      have HEE : Hid (C (n + 1) = E) := hE
      clear hE
      go_wp2_with (refine wpList_load_row rfl 77 _ rfl (w.heap.size) rfl 77 D (0, 0) _ HL.out Tryd.underlying77 rfl HC2.out.1 ?_)
      refine HC1.out.mono ?_
      rintro e w3 ⟨rfl, hb3⟩
      have HL3 : Hid (w3.heap[w.heap.size]? = some (.cells D 77 (0, 0))) := (HQ2.out w3 hb3).1
      have HN : Hid (RW w E Z (w3.setRow w.heap.size E)) := (HQ2.out w3 hb3).2
      clear hb3
      go_wp2_with (refine wpList_store_row rfl 77 _ (.tmp 12) rfl (w.heap.size) E rfl rfl 77 D HL3.out HC3.out.1 HC3.out.2.1 HC3.out.2.2 ?_)
      go_roundw
      case rel => exact ⟨n + 1, by omega, by go_num, by rw [HEE.out]; exact HN⟩
      case measure => simp [cipIntOf]; omega
    · obtain rfl : n = 15 := by omega
      have H1 : Hid _ := HQ.out.ra
      have H2 : Hid _ := HQ.out.rr
      have HC2 : Hid _ := HCI.out 15
      have H3 : Hid _ := setRow_heap wr (w.heap.size + 1) Z (C 15) 77 (0, 0) HQ.out.rr
      have H6 : Hid (Below w.heap.size w (wr.setRow (w.heap.size + 1) (C 15))) := HQ.out.below.trans ⟨rfl, rfl, rfl, by simp, fun k hk => setRow_other _ _ _ _ (by omega)⟩
      clear HQ HRD HCI
      generalize C 15 = D at H1 H2 H3 H6 HC2 HE
      go_wp2_with (first
        | (refine wpList_load_row rfl 77 _ rfl (w.heap.size) rfl 77 D (0, 0) _ H1.out Tryd.underlying77 rfl HC2.out.1 ?_)
        | (refine wpList_store_row rfl 77 _ (.tmp 14) rfl (w.heap.size + 1) D rfl rfl 77 Z H2.out HC2.out.1 HC2.out.2.2.2 HC2.out.2.2.1 ?_))
      (try simp only [Exit.inBlock, Exit.then])
      exact bodyPost_ret (results_cell_row rfl _ _ (w.heap.size + 1) 77 D (0, 0) _ rfl H3.out Tryd.underlying77 rfl HC2.out.1) rfl ⟨by rw [HE.out], H6.out⟩

/-- two rows that the call has made: the answer and what is made -/
structure QW (w : World) (cur Z : Array Value) (wr : World) : Prop where
  below : Below w.heap.size w wr
  rr : wr.heap[w.heap.size]? = some (.cells Z 77 (0, 0))
  ro : wr.heap[w.heap.size + 1]? = some (.cells cur 77 (0, 0))
theorem QW.set {w wr : World} {Z cur : Array Value} (h : QW w cur Z wr) (t : Nat) (v : Value) : QW w (cur.setIfInBounds t v) Z (wr.setCell ⟨w.heap.size + 1, t, none⟩ v) :=
  ⟨h.below.setCell (p := ⟨w.heap.size + 1, t, none⟩) (by show _ ≤ w.heap.size + 1; omega) v,
    by rw [heap_setCell_other wr ⟨w.heap.size + 1, t, none⟩ _ v (by show _ ≠ w.heap.size + 1; omega)]; exact h.rr, heap_setCell_same wr _ t _ _ _ h.ro⟩
set_option maxRecDepth 100000 in
set_option maxHeartbeats 2000000 in
theorem columns_any (k : ByteArray) (w : World) (hk : 16 ≤ k.size) :
    Calls Tryd.prog 38 #[.string k] w fun e w' => e = .returned (.agg (cols (cl (bsOf k)))) ∧ Below w.heap.size w w' := by
  have HK : Hid (16 ≤ k.size) := hk
  obtain ⟨C, hC⟩ : ∃ C : Nat → Array Value, C = fun n => cols (upTo (cl (bsOf k)) (fun _ => 0) n) := ⟨_, rfl⟩
  have HST : Hid (∀ n, n < 4 → (C n).setIfInBounds n (.int .u32 (cl (bsOf k) n : Nat)) = C (n + 1)) := fun n hn => by
    rw [hC]; exact cols_set _ _ hn
  have HCS : Hid (∀ n, n < 4 → (C n)[n]? = some (.int .u32 0)) := fun n hn => by
    rw [hC]; show (cols _)[n]? = _
    rw [cols_at _ hn, upTo_new _ _ _ (by omega)]; rfl
  have HI : Hid _ := col_info
  have HEN : Hid (cols (cl (bsOf k)) = C 4) := by rw [hC]; rfl
  have HON : Hid (Option.map (·.size) (Tryd.prog.info? 77) = some (C 4).size ∧ (C 0).size = (C 4).size ∧ (C 4).all (·.oneCell') = true) := by rw [hC]; exact ⟨HI.out, rfl, cols_one _⟩
  have hz := col_zero
  rw [show (cols fun _ => 0) = C 0 by rw [hC]; rfl] at hz
  have hZc : (Value.agg (C 0)).cells = C 0 := by rw [hC]; kernel_rfl
  clear hk hC
  have HR : Hid (QW w (C 0) (C 0) ((w.alloc (.cells (C 0) 77)).alloc (.cells (C 0) 77))) := ⟨(RW.start w (C 0) (C 0)).below, (RW.start w (C 0) (C 0)).ra, (RW.start w (C 0) (C 0)).rr⟩
  go_enter Tryd.func38, Tryd.ntmps38
  go_wp2_with fail
  clear hz hZc
  generalize (w.alloc (.cells (C 0) 77)).alloc (.cells (C 0) 77) = W2 at HR ⊢
  go_loopw [5] (fun c wr => ∃ n : Nat, n ≤ 4 ∧ c = .int .i64 (n : Int) ∧ Hid (QW w (C n) (C 0) wr)) (fun c _ => 4 - (cipIntOf c).toNat)
  case atStart => exact ⟨0, by omega, rfl, HR⟩
  case round =>
    obtain ⟨n, hn, rfl, HQ⟩ := hrel
    clear HR
    by_cases hlt : n < 4
    · have c0 := (cell_of_row wr _ n _ _ _ HQ.out.ro).trans (HCS.out n hlt)
      have hfz := frozen_of_row wr _ n _ _ HQ.out.ro
      have HW : Hid (∀ w', Calls Tryd.prog 46 #[.string k, .int .i64 (n : Int)] w' fun e w'' => e = .returned (.int .u32 (cl (bsOf k) n : Nat)) ∧ w'' = w') := fun w' => by
        have := word_any k n w' (by have := HK.out; omega) (by omega)
        rwa [cl_pt] at this
      have HN : Hid (QW w (C (n + 1)) (C 0) (wr.setCell ⟨w.heap.size + 1, n, none⟩ (.int .u32 (cl (bsOf k) n : Nat)))) := by
        have := HQ.out.set n (.int .u32 (cl (bsOf k) n : Nat))
        rwa [HST.out n hlt] at this
      generalize cl (bsOf k) n = v at HW HN
      go_wp2_with fail
      refine (HW.out _).mono ?_
      rintro e w' ⟨rfl, hw⟩
      subst w'
      go_wp2_with fail
      go_roundw
      case rel => exact ⟨n + 1, by omega, by go_num, HN⟩
      case measure => simp [cipIntOf]; omega
    · obtain rfl : n = 4 := by omega
      have H1 : Hid _ := HQ.out.ro
      have H2 : Hid _ := HQ.out.rr
      have H3 : Hid _ := setRow_heap wr w.heap.size (C 0) (C 4) 77 (0, 0) HQ.out.rr
      have H6 : Hid (Below w.heap.size w (wr.setRow w.heap.size (C 4))) := HQ.out.below.trans ⟨rfl, rfl, rfl, by simp, fun k hk => setRow_other _ _ _ _ (by omega)⟩
      clear HQ HST HCS
      generalize C 4 = D at H1 H2 H3 H6 HEN HON
      generalize C 0 = Z at H2 HON
      go_wp2_with (first
        | (refine wpList_load_row rfl 77 _ rfl (w.heap.size + 1) rfl 77 D (0, 0) _ H1.out Tryd.underlying77 rfl HON.out.1 ?_)
        | (refine wpList_store_row rfl 77 _ (.tmp 14) rfl w.heap.size D rfl rfl 77 Z H2.out HON.out.1 HON.out.2.1 HON.out.2.2 ?_))
      (try simp only [Exit.inBlock, Exit.then])
      exact bodyPost_ret (results_cell_row rfl _ _ w.heap.size 77 D (0, 0) _ rfl H3.out Tryd.underlying77 rfl HON.out.1) rfl ⟨by rw [HEN.out], H6.out⟩
set_option maxRecDepth 100000 in
set_option maxHeartbeats 1000000 in
theorem byte_any (g : Nat) (s : Nat → Nat) (i : Nat) (w : World) (hs : ∀ i, s i < 256) (hi : i < 16) (hc : w.cell? ⟨g, i / 4, none⟩ = some (.int .u32 (cl s (i / 4) : Nat))) :
    Calls Tryd.prog 40 #[.pointer (some ⟨g, 0, none⟩), .int .i64 (i : Int)] w fun e w' => e = .returned (.int .u8 (s i : Nat)) ∧ w' = w := by
  have hb := cl_byte hs i
  have hl := cl_lt hs (i / 4)
  have hsi := hs i
  have e1 : (i : Int) / 4 = ((i / 4 : Nat) : Int) := by omega
  have l1 : i / 4 < 4 := by omega
  have hk : i % 4 = 0 ∨ i % 4 = 1 ∨ i % 4 = 2 ∨ i % 4 = 3 := by omega
  generalize cl s (i / 4) = x at hb hc hl
  generalize s i = y at hb hsi
  generalize i / 4 = q at e1 hc l1
  clear hs
  rcases hk with hk | hk | hk | hk <;> rw [hk] at hb
  · have e2 : (i : Int) % 4 = 0 := by omega
    have hv : (x : Int) / 16777216 = (y : Int) := by rw [← hb]; omega
    clear hb hk
    go_enter Tryd.func40, Tryd.ntmps40
    go_wp2_with fail
    go_ret
    first
      | exact ⟨rfl, rfl⟩
      | exact ⟨congrArg (fun z => Ending.returned (Value.int .u8 z)) hv, rfl⟩
  · have e2 : (i : Int) % 4 = 1 := by omega
    have hv : ((x : Int) / 65536) % 256 = (y : Int) := by rw [← hb]; omega
    clear hb hk
    go_enter Tryd.func40, Tryd.ntmps40
    go_wp2_with fail
    go_ret
    first
      | exact ⟨rfl, rfl⟩
      | exact ⟨congrArg (fun z => Ending.returned (Value.int .u8 z)) hv, rfl⟩
  · have e2 : (i : Int) % 4 = 2 := by omega
    have hv : ((x : Int) / 256) % 256 = (y : Int) := by rw [← hb]; omega
    clear hb hk
    go_enter Tryd.func40, Tryd.ntmps40
    go_wp2_with fail
    go_ret
    first
      | exact ⟨rfl, rfl⟩
      | exact ⟨congrArg (fun z => Ending.returned (Value.int .u8 z)) hv, rfl⟩
  · have e2 : (i : Int) % 4 = 3 := by omega
    have hv : (x : Int) % 256 = (y : Int) := by rw [← hb]; omega
    clear hb hk
    go_enter Tryd.func40, Tryd.ntmps40
    go_wp2_with fail
    go_ret
    first
      | exact ⟨rfl, rfl⟩
      | exact ⟨congrArg (fun z => Ending.returned (Value.int .u8 z)) hv, rfl⟩
end Go.Proofs.YtnkahdidelhdaamDoor
