/-
  The table of the bytes that take the bytes' places: what the code makes of it, and its Sub.
-/
import Derived.Test.YtnkahdidelhdaamDoorCipSub
namespace Go.Proofs.YtnkahdidelhdaamDoor
open Go.RowKit

/-- the powers of 3 and of f6, so many -/
def seqF : Nat → Nat → Nat → List (Nat × Nat)
  | 0, _, _ => []
  | n + 1, p, v => (p, v) :: seqF n (mulB p 3) (mulB v 246)
theorem seq_ok : ∀ x ∈ seqF 255 1 1, x.1 < 256 ∧ x.2 < 256 ∧ subB x.2 = sbox x.1 := by
  have k : (seqF 255 1 1).all (fun x => decide (x.1 < 256) && decide (x.2 < 256) && decide (subB x.2 = sbox x.1)) = true := by decide +kernel
  intro x hx
  have := List.all_eq_true.1 k x hx
  simp only [Bool.and_eq_true, decide_eq_true_eq] at this
  exact ⟨this.1.1, this.1.2, this.2⟩
theorem seq_all : ∀ j, j < 256 → j = 0 ∨ ∃ v, (j, v) ∈ seqF 255 1 1 := by
  have k : ∀ j : Fin 256, (decide (j.val = 0) || (seqF 255 1 1).any (fun x => decide (x.1 = j.val))) = true := by decide +kernel
  intro j hj
  have := k ⟨j, hj⟩
  simp only [Bool.or_eq_true, decide_eq_true_eq, List.any_eq_true] at this
  rcases this with h | ⟨x, hx, he⟩
  · exact Or.inl h
  · exact Or.inr ⟨x.2, by rw [← he]; exact hx⟩
theorem sub_zero : subB 0 = sbox 0 := by decide +kernel
/-- the table's cells -/
def sbTab : Array Value := Array.ofFn fun i : Fin 256 => Value.int .u32 (sbox i.val : Nat)
theorem sbTab_size : sbTab.size = 256 := by simp [sbTab]
theorem sbTab_at (j : Nat) (h : j < 256) : sbTab[j]? = some (.int .u32 (sbox j : Nat)) := by simp [sbTab, h]
theorem sbTab_one : sbTab.all (·.oneCell') = true := by
  rw [Array.all_eq_true]
  intro i hi
  simp only [sbTab, Array.getElem_ofFn]
  rfl
theorem sbTab_eq {cur : Array Value} (hs : cur.size = 256) (h : ∀ j, j < 256 → cur[j]? = some (.int .u32 (sbox j : Nat))) : cur = sbTab := by
  apply Array.ext_getElem?
  intro i
  by_cases hi : i < 256
  · rw [h i hi, sbTab_at i hi]
  · rw [Array.getElem?_eq_none (by omega), Array.getElem?_eq_none (by rw [sbTab_size]; omega)]
structure TW (w wr : World) (cur : Array Value) : Prop where
  below : Below w.heap.size w wr
  res : ∃ Z : Array Value, Z.size = 256 ∧ wr.heap[w.heap.size]? = some (.cells Z 91 (0, 0))
  row : wr.heap[w.heap.size + 1]? = some (.cells cur 91 (0, 0))
  size : cur.size = 256
theorem TW.set {w wr : World} {cur : Array Value} (h : TW w wr cur) (t : Nat) (v : Value) : TW w (wr.setCell ⟨w.heap.size + 1, t, none⟩ v) (cur.setIfInBounds t v) := by
  obtain ⟨h1, ⟨Z, hZ, h2⟩, h3, h4⟩ := h
  exact ⟨h1.setCell (p := ⟨w.heap.size + 1, t, none⟩) (by show _ ≤ w.heap.size + 1; omega) v, ⟨Z, hZ, by rw [heap_setCell_other wr ⟨w.heap.size + 1, t, none⟩ _ v (by show _ ≠ w.heap.size + 1; omega)]; exact h2⟩, heap_setCell_same wr _ t _ _ _ h3, by simpa using h4⟩
theorem TW.cell {w wr : World} {cur : Array Value} (h : TW w wr cur) (t : Nat) : wr.cell? ⟨w.heap.size + 1, t, none⟩ = cur[t]? := cell_of_row wr _ t _ _ _ h.row
theorem TW.fz {w wr : World} {cur : Array Value} (h : TW w wr cur) (t : Nat) : wr.frozen? ⟨w.heap.size + 1, t, none⟩ = false := frozen_of_row wr _ t _ _ h.row

set_option maxRecDepth 100000 in
set_option maxHeartbeats 4000000 in
theorem tab_any (w : World) :
    Calls Tryd.prog 45 #[] w fun e w' => e = .returned (.agg sbTab) ∧ Below w.heap.size w w' := by
  obtain ⟨Z, hZ⟩ : ∃ Z : Array Value, Z = Array.replicate 256 (Value.int .u32 0) := ⟨_, rfl⟩
  have hz : ∀ w, (zeroValue 91).run Tryd.prog w = .ok (.agg Z) w := by rw [hZ]; exact (zero_of_info (n := 256) (by kernel_rfl)).1
  have hi41 : (Tryd.prog.info? 91).map (·.size) = some 256 := (zero_of_info (v := .agg (Array.replicate 256 (Value.int .u32 0))) (by kernel_rfl)).2
  have hZs : Z.size = 256 := by rw [hZ]; simp
  have hZc : (Value.agg Z).cells = Z := by rw [hZ]; kernel_rfl
  have hZ0 : Z ≠ #[] := by rw [hZ]; intro h; have := congrArg Array.size h; simp at this
  obtain ⟨C0, hC0⟩ : ∃ C0, C0 = Z.setIfInBounds 0 (.int .u32 (sbox 0 : Nat)) := ⟨_, rfl⟩
  have HC0s : Hid (C0.size = 256) := by show _ = _; rw [hC0]; simpa using hZs
  have HONE : Hid (C0.all (·.oneCell') = true) := by
    show _ = _
    rw [hC0, Array.all_eq_true]
    intro i hi
    by_cases e : 0 = i
    · subst e; simp [Value.oneCell']
    · rw [Array.getElem_setIfInBounds_ne (by simpa using hi) e]
      simp [hZ, Value.oneCell']
  have HC00 : Hid (C0[0]? = some (.int .u32 (sbox 0 : Nat))) := by show _ = _; rw [hC0, Array.getElem?_setIfInBounds_self_of_lt (by omega)]
  have HIC : Hid ((Tryd.prog.info? 91).map (·.size) = some C0.size) := by show _ = _; rw [HC0s.out]; exact hi41
  have HZC : Hid (Z.size = C0.size) := by show _ = _; rw [HC0s.out]; exact hZs
  have HST : Hid (∀ o : Obj, ((w.alloc o).alloc (.cells Z 91)).heap[w.heap.size + 1]? = some (.cells Z 91 (0, 0))) := fun o => heap_alloc2_new w o _
  clear hZ
  have HI : Hid _ := hi41
  have HCE : Hid (C0 = Z.setIfInBounds 0 (.int .u32 (sbox 0 : Nat))) := hC0
  clear hC0
  clear hi41
  have HS0 : Hid (∀ w, Calls Tryd.prog 54 #[.int .u8 0] w fun e w' => e = .returned (.int .u32 (sbox 0 : Nat)) ∧ w' = w) := fun w => by
    have := subOf_any 0 w (by omega)
    rwa [sub_zero] at this
  go_enter Tryd.func45, Tryd.ntmps45
  go_wp2_with fail
  refine (HS0.out _).mono ?_
  rintro e w' ⟨rfl, hw⟩
  subst w'
  go_wp2_with (first
    | (refine wpList_store_row ?_ 91 (.tmp 1) (.tmp 5) ?_ (w.heap.size + 1) C0 ?_ ?_ 91 Z ?_ HIC.out HZC.out HONE.out ?_; rfl; rfl; rfl; (rw [HCE.out]; rfl); exact HST.out _))
  have HTW : Hid (TW w (((w.alloc (.cells Z 91)).alloc (.cells Z 91)).setRow (w.heap.size + 1) C0) C0) := by
    refine ⟨(((Below.refl _ w).alloc (Nat.le_refl _) _).alloc (by simp) _).trans ⟨rfl, rfl, rfl, by simp, fun k hk => setRow_other _ _ _ _ (by omega)⟩, ⟨Z, hZs, ?_⟩, setRow_heap _ _ Z C0 _ (0, 0) (HST.out _), HC0s.out⟩
    rw [setRow_other _ _ _ _ (by omega)]
    exact heap_alloc2_old w _ _
  clear hz hZc hZs hZ0 HCE HONE HIC HZC HST HS0
  go_loopw [2, 3, 6] (fun x y c wr => ∃ (n p v : Nat) (cur : Array Value) (done : List (Nat × Nat)), n ≤ 255 ∧ c = .int .i64 (n : Int) ∧ x = .int .u32 (p : Int) ∧ y = .int .u32 (v : Int) ∧ p < 256 ∧ v < 256 ∧ Hid (seqF 255 1 1 = done ++ seqF (255 - n) p v) ∧ Hid (TW w wr cur) ∧ Hid (cur[0]? = some (.int .u32 (sbox 0 : Nat))) ∧ Hid (∀ x ∈ done, cur[x.1]? = some (.int .u32 (sbox x.1 : Nat))))
    (fun _ _ c _ => 255 - (cipIntOf c).toNat)
  case atStart => exact ⟨0, 1, 1, C0, [], by omega, rfl, rfl, rfl, by omega, by omega, rfl, HTW, HC00, fun x hx => by cases hx⟩
  case round =>
    obtain ⟨n, p, v, cur, done, hn, rfl, rfl, rfl, hp, hv, HSEQ, HT, H0, HD⟩ := hrel
    clear HTW HC00 HC0s
    by_cases hlt : n < 255
    · have HSE : Hid (seqF (255 - n) p v = (p, v) :: seqF (255 - (n + 1)) (mulB p 3) (mulB v 246)) := by
        show _ = _
        rw [show 255 - n = (255 - (n + 1)) + 1 by omega, seqF]
      have hok := seq_ok (p, v) (by rw [HSEQ.out, HSE.out]; simp)
      have hsv : subB v = sbox p := hok.2.2
      have HSB : Hid (∀ w, Calls Tryd.prog 54 #[.int .u8 (v : Int)] w fun e w' => e = .returned (.int .u32 (sbox p : Nat)) ∧ w' = w) := fun w => by
        have := subOf_any v w hv
        rwa [hsv] at this
      have HM1 : Hid (∀ w, Calls Tryd.prog 55 #[.int .u32 (p : Int), .int .u32 3] w fun e w' => e = .returned (.int .u32 (mulB p 3 : Nat)) ∧ w' = w) := fun w => by
        have := times_any p 3 w (by omega) (by omega)
        rwa [Nat.mod_eq_of_lt hp] at this
      have HM2 : Hid (∀ w, Calls Tryd.prog 55 #[.int .u32 (v : Int), .int .u32 246] w fun e w' => e = .returned (.int .u32 (mulB v 246 : Nat)) ∧ w' = w) := fun w => by
        have := times_any v 246 w (by omega) (by omega)
        rwa [Nat.mod_eq_of_lt hv] at this
      have hp2 := mulB_lt p 3 hp
      have hv2 := mulB_lt v 246 hv
      have HSQ2 : Hid (seqF 255 1 1 = (done ++ [(p, v)]) ++ seqF (255 - (n + 1)) (mulB p 3) (mulB v 246)) := by
        show _ = _
        rw [HSEQ.out, HSE.out, List.append_assoc]; rfl
      obtain ⟨z, hx⟩ : ∃ z, cur[p]? = some z := ⟨_, Array.getElem?_eq_getElem (by have := HT.out.size; omega)⟩
      have hcx := (HT.out.cell p).trans hx
      have hfx := HT.out.fz p
      have HN : Hid (∀ j, (cur.setIfInBounds p (.int .u32 (sbox p : Nat)))[j]? = if p = j then some (.int .u32 (sbox p : Nat)) else cur[j]?) := fun j => by
        by_cases e : p = j
        · subst e; rw [if_pos rfl, Array.getElem?_setIfInBounds_self_of_lt (by have := HT.out.size; omega)]
        · rw [if_neg e, Array.getElem?_setIfInBounds_ne e]
      have HT2 : Hid (TW w (wr.setCell ⟨w.heap.size + 1, p, none⟩ (.int .u32 (sbox p : Nat))) (cur.setIfInBounds p (.int .u32 (sbox p : Nat)))) := HT.out.set p _
      have H02 : Hid ((cur.setIfInBounds p (.int .u32 (sbox p : Nat)))[0]? = some (.int .u32 (sbox 0 : Nat))) := by
        show _ = _
        rw [HN.out]
        by_cases e : p = 0
        · subst e; rw [if_pos rfl]
        · rw [if_neg e]; exact H0.out
      have HD2 : Hid (∀ x ∈ done ++ [(p, v)], (cur.setIfInBounds p (.int .u32 (sbox p : Nat)))[x.1]? = some (.int .u32 (sbox x.1 : Nat))) := fun x hx => by
        rw [HN.out]
        by_cases e : p = x.1
        · rw [if_pos e, e]
        · rw [if_neg e]
          rcases List.mem_append.1 hx with h | h
          · exact HD.out x h
          · simp at h; subst h; exact absurd rfl e
      clear hok hsv hx HSE HSEQ HD H0 HN
      generalize mulB p 3 = p2 at HM1 hp2 HSQ2
      generalize mulB v 246 = v2 at HM2 hv2 HSQ2
      generalize sbox p = sp at HSB HT2 H02 HD2
      go_wp2_with fail
      refine (HSB.out _).mono ?_
      rintro e w' ⟨rfl, hw⟩
      subst w'
      go_wp2_with fail
      refine (HM1.out _).mono ?_
      rintro e w' ⟨rfl, hw⟩
      subst w'
      go_wp2_with fail
      refine (HM2.out _).mono ?_
      rintro e w' ⟨rfl, hw⟩
      subst w'
      go_wp2_with fail
      go_roundw
      case rel => exact ⟨n + 1, p2, v2, _, _, by omega, by go_num, rfl, rfl, hp2, hv2, HSQ2, HT2, H02, HD2⟩
      case measure => simp [cipIntOf]; omega
    · obtain rfl : n = 255 := by omega
      have hall : ∀ j, j < 256 → cur[j]? = some (.int .u32 (sbox j : Nat)) := fun j hj => by
        rcases seq_all j hj with rfl | ⟨v, hm⟩
        · exact H0.out
        · have e := HSEQ.out
          rw [Nat.sub_self, seqF, List.append_nil] at e
          exact HD.out (j, v) (by rw [← e]; exact hm)
      obtain rfl : cur = sbTab := sbTab_eq HT.out.size hall
      obtain ⟨hb, ⟨Z, hZ, hres⟩, hrow, _⟩ := HT.out
      have hi52 : (Tryd.prog.info? 91).map (·.size) = some sbTab.size := by rw [sbTab_size]; exact HI.out
      have H1 : Hid _ := hrow
      have H2 : Hid _ := hres
      have H4 : Hid _ := hi52
      have H5 : Hid (Z.size = sbTab.size) := by show _ = _; rw [sbTab_size]; exact hZ
      have H3 : Hid _ := setRow_heap wr w.heap.size Z sbTab 91 (0, 0) hres
      have H6 : Hid (Below w.heap.size w (wr.setRow w.heap.size sbTab)) := hb.trans ⟨rfl, rfl, rfl, by simp, fun k hk => setRow_other _ _ _ _ (by omega)⟩
      clear hb hZ hres hrow hi52 HT hall HSEQ HD H0
      go_wp2_with (first
        | (refine wpList_load_row rfl 91 _ rfl (w.heap.size + 1) rfl 91 sbTab (0, 0) _ H1.out Tryd.underlying91 rfl H4.out ?_)
        | (refine wpList_store_row rfl 91 _ _ rfl w.heap.size sbTab rfl rfl 91 Z H2.out H4.out H5.out sbTab_one ?_))
      (try simp only [Exit.inBlock, Exit.then])
      exact bodyPost_ret (results_cell_row rfl _ _ w.heap.size 91 sbTab (0, 0) _ rfl H3.out Tryd.underlying91 rfl H4.out) rfl ⟨rfl, H6.out⟩

theorem index_tab (cs : Array Value) (j : Nat) (x : Int) (w : World) (hj : j < 256) (hc : cs[j]? = some (.int .u32 x)) :
    (Instr.index 91 (.agg cs) (.int .u32 (j : Int))).run Tryd.prog w = .ok (.int .u32 x) w := by
  have hs : (sizeOf 54).run Tryd.prog w = .ok 1 w := by kernel_rfl
  have ha : (isAgg 54).run Tryd.prog w = .ok false w := by kernel_rfl
  simp [Instr.index, asIntOf, run_underlying Tryd.underlying91, part, hs, ha, hc, Result.andThen]
  intro h; omega
end Go.Proofs.YtnkahdidelhdaamDoor
