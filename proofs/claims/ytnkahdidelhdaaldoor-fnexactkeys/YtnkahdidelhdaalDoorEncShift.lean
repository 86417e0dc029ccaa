/-
  The rows moved, the substitutes put in.
-/
import Derived.Test.YtnkahdidelhdaalDoorEncMix
import Derived.BigQuiet
namespace Go.Proofs.YtnkahdidelhdaalDoor
open Go.RowKit
set_option linter.unusedVariables false

/-- three rows that the call has made: the state, the answer, and what is made -/
structure ShfW (w : World) (S Z cur : Array Value) (wr : World) : Prop where
  below : Below w.heap.size w wr
  ra : wr.heap[w.heap.size]? = some (.cells S 88 (0, 0))
  rr : wr.heap[w.heap.size + 1]? = some (.cells Z 88 (0, 0))
  ro : wr.heap[w.heap.size + 2]? = some (.cells cur 88 (0, 0))
theorem ShfW.set {w wr : World} {S Z cur : Array Value} (h : ShfW w S Z cur wr) (t : Nat) (v : Value) : ShfW w S Z (cur.setIfInBounds t v) (wr.setCell ⟨w.heap.size + 2, t, none⟩ v) :=
  ⟨h.below.setCell (p := ⟨w.heap.size + 2, t, none⟩) (by show _ ≤ w.heap.size + 2; omega) v,
    by rw [heap_setCell_other wr ⟨w.heap.size + 2, t, none⟩ _ v (by show _ ≠ w.heap.size + 2; omega)]; exact h.ra,
    by rw [heap_setCell_other wr ⟨w.heap.size + 2, t, none⟩ _ v (by show _ ≠ w.heap.size + 2; omega)]; exact h.rr,
    heap_setCell_same wr _ t _ _ _ h.ro⟩
theorem ShfW.drew {w wr : World} {S Z cur : Array Value} (h : ShfW w S Z cur wr) : ShfW w S Z cur wr.drew := ⟨h.below.drew, h.ra, h.rr, h.ro⟩

theorem heap_al (w : World) (o : Obj) : (w.alloc o).heap[w.heap.size]? = some o ∧ ∀ r', r' < w.heap.size → (w.alloc o).heap[r']? = w.heap[r']? := by
  have e : (w.alloc o).heap = w.heap.push o := rfl
  rw [e]
  exact ⟨by simp, fun r' h => by simp [Array.getElem?_push, Nat.ne_of_lt h]⟩
theorem ShfW.start (w : World) (S Z : Array Value) : ShfW w S Z Z (((w.alloc (.cells S 88)).alloc (.cells Z 88)).alloc (.cells Z 88)) := by
  refine ⟨(((Below.refl _ _).alloc (Nat.le_refl _) _).alloc (by simp) _).alloc (by simp; omega) _, ?_, ?_, ?_⟩
  · rw [(heap_al _ _).2 _ (by simp; omega), (heap_al _ _).2 _ (by simp), (heap_al _ _).1]
  · rw [(heap_al _ _).2 _ (by simp), show w.heap.size + 1 = (w.alloc (.cells S 88)).heap.size by simp, (heap_al _ _).1]
  · rw [show w.heap.size + 2 = ((w.alloc (.cells S 88)).alloc (.cells Z 88)).heap.size by simp, (heap_al _ _).1]
set_option maxRecDepth 100000 in
set_option maxHeartbeats 2000000 in
theorem shifted_any (b : Nat) (W s : Nat → Nat) (w : World) (hs : ∀ i, s i < 256) (hk : KC b W w) :
    Calls Tryd.prog 64 #[.pointer (some ⟨b, 0, none⟩), .agg (cols (cl s))] w fun e w' => e = .returned (.agg (cols (cl (subsB s)))) ∧ Below w.heap.size w w' := by
  have HF : Hid (∀ i, s i < 256) := hs
  have HK : Hid (∀ wr, Below w.heap.size w wr → KC b W wr) := fun wr h => hk.below h hk.lt
  obtain ⟨C, hC⟩ : ∃ C : Nat → Array Value, C = fun n => cols (upTo (cl (subsB s)) (fun _ => 0) n) := ⟨_, rfl⟩
  have HST : Hid (∀ n, n < 4 → (C n).setIfInBounds n (.int .u32 (subW (shW s n) : Nat)) = C (n + 1)) := fun n hn => by
    have := cols_set (cl (subsB s)) (fun _ => 0) hn
    rw [cl_subs hs hn] at this
    rw [hC]; exact this
  have HCS : Hid (∀ n, n < 4 → (C n)[n]? = some (.int .u32 0)) := fun n hn => by
    rw [hC]; show (cols _)[n]? = _
    rw [cols_at _ hn, upTo_new _ _ _ (by omega)]; rfl
  have hEN : cols (cl (subsB s)) = C 4 := by rw [hC]; rfl
  have HON : Hid ((C 4).size = 4 ∧ (C 4).all (·.oneCell') = true) := by rw [← hEN]; exact ⟨rfl, cols_one _⟩
  have hS0 : (cols fun _ => 0) = C 0 := by rw [hC]; rfl
  have hz := col_zero
  rw [hS0] at hz
  rw [hEN]
  have hZs : (C 0).size = 4 := by rw [← hS0]; rfl
  have hZc : (Value.agg (C 0)).cells = C 0 := by rw [← hS0]; kernel_rfl
  obtain ⟨S, hS⟩ : ∃ S : Array Value, S = cols (cl s) := ⟨_, rfl⟩
  have hSc : (Value.agg S).cells = S := by rw [hS]; kernel_rfl
  have hSs : S.size = 4 := by rw [hS]; rfl
  have HC : Hid (∀ j, j < 4 → S[j]? = some (.int .u32 (cl s j : Nat))) := fun j hj => by rw [hS]; exact cols_at _ hj
  rw [← hS]
  clear hS hEN hS0 hC hs hk
  have HI : Hid _ := col_info
  go_enter Tryd.func64, Tryd.ntmps64
  go_wp2_with fail
  have HW0 : Hid (ShfW w S (C 0) (C 0) (((w.alloc (.cells S 88)).alloc (.cells (C 0) 88)).alloc (.cells (C 0) 88))) := ShfW.start w S (C 0)
  have e2 : w.heap.size + 1 + 1 = w.heap.size + 2 := rfl
  rw [e2]
  clear e2 hz hZc hSc
  generalize ((w.alloc (.cells S 88)).alloc (.cells (C 0) 88)).alloc (.cells (C 0) 88) = W3 at HW0 ⊢
  go_loopw [8] (fun c wr => ∃ n : Nat, n ≤ 4 ∧ c = .int .i64 (n : Int) ∧ Hid (ShfW w S (C 0) (C n) wr)) (fun c _ => 4 - (cipIntOf c).toNat)
  case atStart => exact ⟨0, by omega, rfl, HW0⟩
  case round =>
    obtain ⟨n, hn, rfl, HS⟩ := hrel
    clear HW0
    by_cases hlt : n < 4
    · have c0 := (cell_of_row wr _ n _ _ _ HS.out.ra).trans (HC.out n hlt)
      have c1 := (cell_of_row wr _ ((n + 1) % 4) _ _ _ HS.out.ra).trans (HC.out ((n + 1) % 4) (by omega))
      have c2 := (cell_of_row wr _ ((n + 2) % 4) _ _ _ HS.out.ra).trans (HC.out ((n + 2) % 4) (by omega))
      have c3 := (cell_of_row wr _ ((n + 3) % 4) _ _ _ HS.out.ra).trans (HC.out ((n + 3) % 4) (by omega))
      have ho := sh_or s HF.out n
      have hv0 := (cell_of_row wr _ n _ _ _ HS.out.ro).trans (HCS.out n hlt)
      have hfz := frozen_of_row wr _ n _ _ HS.out.ro
      have HX : Hid (∀ W', Below w.heap.size w W' → Calls Tryd.prog 54 #[.pointer (some ⟨b, 0, none⟩), .int .u32 (shW s n : Nat)] W' fun e w' => e = .returned (.int .u32 (subW (shW s n) : Nat)) ∧ w' = W'.drew) := fun W' hW => subst_any b _ W' (shW_lt HF.out n) (HK.out W' hW).box
      have HN : Hid (ShfW w S (C 0) (C (n + 1)) (wr.drew.drew.setCell ⟨w.heap.size + 2, n, none⟩ (.int .u32 (subW (shW s n) : Nat)))) := by
        have := HS.out.drew.drew.set n (.int .u32 (subW (shW s n) : Nat))
        rwa [HST.out n hlt] at this
      generalize subW (shW s n) = r at HX HN
      generalize shW s n = x at ho HX
      generalize cl s n = x0 at c0 ho
      generalize cl s ((n + 1) % 4) = x1 at c1 ho
      generalize cl s ((n + 2) % 4) = x2 at c2 ho
      generalize cl s ((n + 3) % 4) = x3 at c3 ho
      have e1 : ((n : Int) + 1) % 4 = (((n + 1) % 4 : Nat) : Int) := by omega
      have e2 : ((n : Int) + 2) % 4 = (((n + 2) % 4 : Nat) : Int) := by omega
      have e3 : ((n : Int) + 3) % 4 = (((n + 3) % 4 : Nat) : Int) := by omega
      have i1 : (n + 1) % 4 < 4 := by omega
      have i2 : (n + 2) % 4 < 4 := by omega
      have i3 : (n + 3) % 4 < 4 := by omega
      generalize (n + 1) % 4 = j1 at c1 e1 i1
      generalize (n + 2) % 4 = j2 at c2 e2 i2
      generalize (n + 3) % 4 = j3 at c3 e3 i3
      have HB : Hid _ := HS.out.below
      go_wp2_with fail
      go_region
      go_wp2_with fail
      refine (HX.out _ HB.out.drew).mono ?_
      rintro e w' ⟨rfl, hw⟩
      subst w'
      go_wp2_with fail
      go_roundw
      case rel => exact ⟨n + 1, by omega, by go_num, HN⟩
      case measure => simp [cipIntOf]; omega
    · obtain rfl : n = 4 := by omega
      have H1 : Hid _ := HS.out.ro
      have H2 : Hid _ := HS.out.rr
      have hi52 : (Tryd.prog.info? 88).map (·.size) = some (C 4).size := by rw [HON.out.1]; exact HI.out
      have H4 : Hid _ := hi52
      have H5 : Hid ((C 0).size = (C 4).size) := by show _ = _; rw [HON.out.1]; exact hZs
      have H3 : Hid _ := setRow_heap wr (w.heap.size + 1) (C 0) (C 4) 88 (0, 0) HS.out.rr
      have H6 : Hid (Below w.heap.size w (wr.setRow (w.heap.size + 1) (C 4))) := HS.out.below.trans ⟨rfl, rfl, rfl, by simp, fun k hk => setRow_other _ _ _ _ (by omega)⟩
      have H7 : Hid _ := HON.out.2
      clear hi52 HS HST HCS HON hZs hSs
      generalize hD : C 4 = D at H1 H2 H3 H4 H5 H6 H7
      have HDD : Hid (C 4 = D) := hD
      clear hD
      generalize C 0 = Z at H2 H5
      go_wp2_with (first
        | (refine wpList_load_row rfl 88 _ rfl (w.heap.size + 2) rfl 88 D (0, 0) _ H1.out Tryd.underlying88 rfl H4.out ?_)
        | (refine wpList_store_row rfl 88 _ (.tmp 42) rfl (w.heap.size + 1) D rfl rfl 88 Z H2.out H4.out H5.out H7.out ?_))
      (try simp only [Exit.inBlock, Exit.then])
      exact bodyPost_ret (results_cell_row rfl _ _ (w.heap.size + 1) 88 D (0, 0) _ rfl H3.out Tryd.underlying88 rfl H4.out) rfl ⟨by rw [HDD.out], H6.out⟩
end Go.Proofs.YtnkahdidelhdaalDoor
