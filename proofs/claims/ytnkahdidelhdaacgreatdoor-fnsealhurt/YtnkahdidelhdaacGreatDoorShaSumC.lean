/-
  What the code's Sum answers.
-/
import Derived.Test.YtnkahdidelhdaacGreatDoorShaMany
import Derived.Test.YtnkahdidelhdaacGreatDoorShaPad
namespace Go.Proofs.YtnkahdidelhdaacGreatDoor
open Go.RowKit

structure PS (w : World) (v : Nat → Int) (wr : World) : Prop where
  below : Below w.heap.size w wr
  now : wr.heap[w.heap.size]? = some (.cells (stTab v) 68 (0, 0))
  size : w.heap.size + 1 ≤ wr.heap.size
theorem PS.call {w wr w' : World} {v : Nat → Int} (h : PS w v wr) (hb : Below wr.heap.size wr w') : PS w v w' :=
  ⟨h.below.trans ⟨hb.os, hb.tape, hb.output, hb.size, fun k hk => hb.block k (by have := h.size; omega)⟩, (hb.block _ (by have := h.size; omega)).trans h.now, Nat.le_trans h.size hb.size⟩
theorem PS.drew {w wr : World} {v : Nat → Int} (h : PS w v wr) : PS w v wr.drew := ⟨h.below.drew, h.now, h.size⟩
theorem PS.set {w wr : World} {v : Nat → Int} (h : PS w v wr) (x : Nat → Int) : PS w x (wr.setRow w.heap.size (stTab x)) :=
  ⟨h.below.trans ⟨rfl, rfl, rfl, by simp, fun k hk => setRow_other _ _ _ _ (by omega)⟩, setRow_heap wr _ (stTab v) (stTab x) _ (0, 0) h.now, by simpa using h.size⟩
theorem PS.keepK {w wr : World} {v K : Nat → Int} (h : PS w v wr) (h0 : 1 < w.heap.size) (hK : ∀ j, j < 64 → w.cell? ⟨1, j, none⟩ = some (.int .u32 (K j))) : ∀ j, j < 64 → wr.cell? ⟨1, j, none⟩ = some (.int .u32 (K j)) :=
  fun j hj => (h.below.cell (p := ⟨1, j, none⟩) h0).trans (hK j hj)
theorem PS.keep0 {w wr : World} {v : Nat → Int} (h : PS w v wr) (h0 : 1 < w.heap.size) : 1 < wr.heap.size := by have := h.size; omega
theorem builder_call {T e : TypeId} {B b : Nat} {bs : List Value} {w w' : World} (h : Lib.IsBuilder T e B b bs w) (hb : Below w.heap.size w w') : Lib.IsBuilder T e B b bs w' := by
  have key : ∀ p, Lib.BuilderAt T e B b p bs w → Lib.BuilderAt T e B b p bs w' := fun p h => by
    have hlt := h.lt
    obtain ⟨h1, v, h2, h3, h4⟩ := h
    refine ⟨h1, v, (hb.block b hlt).trans h2, h3.kept (row := none) ⟨hb.os, hb.tape, hb.output, hb.size, fun k hk _ => hb.block k hk⟩ ?_, h4⟩
    cases hv : v.ownBlock with
    | none => exact Or.inl rfl
    | some g => exact Or.inr (by simp)
  rcases h with h | h
  · exact Or.inl (key _ h)
  · exact Or.inr (key _ h)
theorem builder_drew {T e : TypeId} {B b : Nat} {bs : List Value} {w : World} (h : Lib.IsBuilder T e B b bs w) : Lib.IsBuilder T e B b bs w.drew := h

set_option linter.unusedSimpArgs false in
set_option maxRecDepth 100000 in
set_option maxHeartbeats 4000000 in
theorem sum_any (s : ByteArray) (w : World) (hl : s.size ≤ 1099511627776) (hK : ∀ j, j < 64 → w.cell? ⟨1, j, none⟩ = some (.int .u32 (kF j))) (h0 : 1 < w.heap.size) :
    Calls Tryz.prog 25 #[.string s] w fun e w' => e = .returned (.string (sumB s)) ∧ Below w.heap.size w w' := by
  have HK : Hid (∀ j, j < 64 → w.cell? ⟨1, j, none⟩ = some (.int .u32 (kF j))) := hK
  clear hK
  have HI8 : Hid ((Tryz.prog.info? 68).map (·.size) = some 8) := by show _ = _; kernel_rfl
  obtain ⟨q, hq⟩ : ∃ q, q = s.size / 64 := ⟨_, rfl⟩
  obtain ⟨p, hp⟩ : ∃ p, p = 64 * q := ⟨_, rfl⟩
  have hps : p ≤ s.size := by omega
  have hw1 : (s.size : Int) - (s.size : Int) % 64 = (p : Int) := by omega
  have hsl1 : (s.extract 0 p).size = 64 * q := by rw [ByteArray.size_extract]; omega
  have hpd := padB_size s.size
  have hzm := zs_mod s.size
  have hex2 : (s.extract p s.size).size = s.size - p := by rw [ByteArray.size_extract]; omega
  have hsl2 : (s.extract p s.size ++ padB s.size).size = 64 * ((s.size - p + 9 + zs s.size) / 64) := by
    rw [ByteArray.size_append, hex2, hpd]; omega
  have HV : Hid _ := sumV_parts s q p hp hq
  have hpdl : (padB s.size).size ≤ 80 := by have := zs_lt s.size; omega
  have HSL1 : Hid _ := hsl1
  have HSL2 : Hid _ := hsl2
  have HPL : Hid (∀ w, Calls Tryz.prog 43 #[.int .i64 (s.size : Int)] w fun e w' => e = .returned (.string (padB s.size)) ∧ Below w.heap.size w w') := fun w => pad_any s.size w hl
  have HHL : Hid (s.size ≤ 1099511627776) := hl
  have HEX2 : Hid _ := hex2
  have hpi : (p : Int) ≤ (s.size : Int) := by omega
  clear hq hp hsl1 hsl2 hpd hzm
  generalize padB s.size = Y at *
  generalize (s.size - p + 9 + zs s.size) / 64 = q2 at *
  go_enter Tryz.func25, Tryz.ntmps25
  go_wp2_with (first
    | (refine wpList_store_row ?_ 68 (.tmp 3) (.tmp 8) ?_ w.heap.size (stTab ivF) ?_ ?_ 68 (#[.int .u32 0, .int .u32 0, .int .u32 0, .int .u32 0, .int .u32 0, .int .u32 0, .int .u32 0, .int .u32 0]) ?_ HI8.out rfl (stTab_one _) ?_; rfl; rfl; rfl; rfl; exact heap_alloc_new w _; rw [World.setRow_alloc_new]))
  have hPS : PS w ivF (w.alloc (.cells (stTab ivF) 68)).drew := PS.drew ⟨(Below.refl _ w).alloc (Nat.le_refl _) _, heap_alloc_new w _, by simp⟩
  refine wp_region_any (by kernel_rfl) ?_
  change wpAny _ _ _ _ _ _ _ (World.drew _)
  refine wpAny_take (i := 1) (v := .string s) rfl (by kernel_rfl) (by kernel_rfl) (by kernel_rfl) (fun _ _ _ h => h) (Or.inl ⟨by rfl, by intro w; go_simp⟩) ?_
  (try simp only [List.getElem_toArray, List.getElem_cons_succ, List.getElem_cons_zero, Act.put, List.setIfInBounds_toArray, List.set_cons_zero, List.set_cons_succ])
  refine wpAny_take (i := 2) (v := .int .i64 (p : Int)) rfl (by kernel_rfl) (by kernel_rfl) (by kernel_rfl) (fun _ _ _ h => h) (Or.inl ⟨by rfl, by intro w; go_simp⟩) ?_
  (try simp only [List.getElem_toArray, List.getElem_cons_succ, List.getElem_cons_zero, Act.put, List.setIfInBounds_toArray, List.set_cons_zero, List.set_cons_succ])
  refine wpAny_take (i := 3) (v := .string (s.extract 0 p)) rfl (by kernel_rfl) (by kernel_rfl) (by kernel_rfl) (fun _ _ _ h => h) (Or.inl ⟨by rfl, by intro w; go_simp⟩) ?_
  (try simp only [List.getElem_toArray, List.getElem_cons_succ, List.getElem_cons_zero, Act.put, List.setIfInBounds_toArray, List.set_cons_zero, List.set_cons_succ])
  refine wpAny_ready (rs := [0]) (by kernel_rfl) (by simp) ?_
  refine AllReady.cons rfl (fun K hK => ?_) AllReady.nil
  rw [if_pos (by rfl)]
  refine wp_load_row 68 (.tmp 3) rfl w.heap.size rfl 68 (stTab ivF) (0, 0) _ hPS.now Tryz.underlying68 rfl HI8.out ?_
  refine hK _ _ ?_
  clear hK K
  (try simp only [List.getElem_toArray, List.getElem_cons_succ, List.getElem_cons_zero, Act.put, List.setIfInBounds_toArray, List.set_cons_zero, List.set_cons_succ])
  refine wpAny_ready (rs := [4]) (by kernel_rfl) (by simp) ?_
  refine AllReady.cons rfl (fun K hK => ?_) AllReady.nil
  rw [if_pos (by rfl)]
  go_simp
  refine (dig_many ivF kF (s.extract 0 p) q HSL1.out (by have := HHL.out; rw [ByteArray.size_extract]; omega) _ (hPS.keepK h0 HK.out) (hPS.keep0 h0)).mono ?_
  rintro e w1 ⟨rfl, hb1⟩
  have hP1 := hPS.call hb1
  refine hK _ _ ?_
  clear hK K
  (try simp only [List.getElem_toArray, List.getElem_cons_succ, List.getElem_cons_zero, Act.put, List.setIfInBounds_toArray, List.set_cons_zero, List.set_cons_succ])
  refine wpAny_ready (rs := [5]) (by kernel_rfl) (by simp) ?_
  refine AllReady.cons rfl (fun K hK => ?_) AllReady.nil
  rw [if_pos (by rfl)]
  refine wp_store_row 68 (.tmp 3) (.tmp 19) rfl w.heap.size (stTab (foldV ivF kF (bsOf (s.extract 0 p)) q)) rfl rfl 68 (stTab ivF) hP1.now HI8.out rfl (stTab_one _) ?_
  have hP2 := hP1.set (foldV ivF kF (bsOf (s.extract 0 p)) q)
  refine hK _ _ ?_
  clear hK K
  (try simp only [List.getElem_toArray, List.getElem_cons_succ, List.getElem_cons_zero, Act.put, List.setIfInBounds_toArray, List.set_cons_zero, List.set_cons_succ])
  refine wpAny_done (by kernel_rfl) ?_ _
  generalize w1.setRow w.heap.size (stTab (foldV ivF kF (bsOf (s.extract 0 p)) q)) = W2 at hP2 ⊢
  clear hPS hP1 hb1
  generalize (foldV ivF kF (bsOf (s.extract 0 p)) q) = V1 at *
  go_wp2_with fail
  have hPS := hP2.drew
  refine wp_region_any (by kernel_rfl) ?_
  change wpAny _ _ _ _ _ _ _ (World.drew _)
  refine wpAny_take (i := 1) (v := .string s) rfl (by kernel_rfl) (by kernel_rfl) (by kernel_rfl) (fun _ _ _ h => h) (Or.inl ⟨by rfl, by intro w; go_simp⟩) ?_
  (try simp only [List.getElem_toArray, List.getElem_cons_succ, List.getElem_cons_zero, Act.put, List.setIfInBounds_toArray, List.set_cons_zero, List.set_cons_succ])
  refine wpAny_take (i := 2) (v := .int .i64 (p : Int)) rfl (by kernel_rfl) (by kernel_rfl) (by kernel_rfl) (fun _ _ _ h => h) (Or.inl ⟨by rfl, by intro w; go_simp⟩) ?_
  (try simp only [List.getElem_toArray, List.getElem_cons_succ, List.getElem_cons_zero, Act.put, List.setIfInBounds_toArray, List.set_cons_zero, List.set_cons_succ])
  refine wpAny_take (i := 3) (v := .string (s.extract p s.size)) rfl (by kernel_rfl) (by kernel_rfl) (by kernel_rfl) (fun _ _ _ h => h) (Or.inl ⟨by rfl, by intro w; go_simp⟩) ?_
  (try simp only [List.getElem_toArray, List.getElem_cons_succ, List.getElem_cons_zero, Act.put, List.setIfInBounds_toArray, List.set_cons_zero, List.set_cons_succ])
  refine wpAny_take (i := 4) (v := .string s) rfl (by kernel_rfl) (by kernel_rfl) (by kernel_rfl) (fun _ _ _ h => h) (Or.inl ⟨by rfl, by intro w; go_simp⟩) ?_
  (try simp only [List.getElem_toArray, List.getElem_cons_succ, List.getElem_cons_zero, Act.put, List.setIfInBounds_toArray, List.set_cons_zero, List.set_cons_succ])
  refine wpAny_take (i := 5) (v := .int .i64 (s.size : Int)) rfl (by kernel_rfl) (by kernel_rfl) (by kernel_rfl) (fun _ _ _ h => h) (Or.inl ⟨by rfl, by intro w; go_simp⟩) ?_
  (try simp only [List.getElem_toArray, List.getElem_cons_succ, List.getElem_cons_zero, Act.put, List.setIfInBounds_toArray, List.set_cons_zero, List.set_cons_succ])
  refine wpAny_ready (rs := [0, 6]) (by kernel_rfl) (by simp) ?_
  refine AllReady.cons rfl (fun K hK => ?_) (AllReady.cons rfl (fun K hK => ?_) AllReady.nil)
  · rw [if_pos (by rfl)]
    refine wp_load_row 68 (.tmp 3) rfl w.heap.size rfl 68 (stTab V1) (0, 0) _ hPS.now Tryz.underlying68 rfl HI8.out ?_
    refine hK _ _ ?_
    clear hK K
    (try simp only [List.getElem_toArray, List.getElem_cons_succ, List.getElem_cons_zero, Act.put, List.setIfInBounds_toArray, List.set_cons_zero, List.set_cons_succ])
    refine wpAny_ready (rs := [6]) (by kernel_rfl) (by simp) ?_
    refine AllReady.cons rfl (fun K hK => ?_) AllReady.nil
    rw [if_pos (by rfl)]
    go_simp
    refine (HPL.out _).mono ?_
    rintro e w3 ⟨rfl, hb3⟩
    have hP3 := hPS.call hb3
    refine hK _ _ ?_
    clear hK K
    (try simp only [List.getElem_toArray, List.getElem_cons_succ, List.getElem_cons_zero, Act.put, List.setIfInBounds_toArray, List.set_cons_zero, List.set_cons_succ])
    refine wpAny_take (i := 7) (v := .string (s.extract p s.size ++ Y)) rfl (by kernel_rfl) (by kernel_rfl) (by kernel_rfl) (fun _ _ _ h => h) (Or.inl ⟨by rfl, by intro w; go_simp; omega⟩) ?_
    (try simp only [List.getElem_toArray, List.getElem_cons_succ, List.getElem_cons_zero, Act.put, List.setIfInBounds_toArray, List.set_cons_zero, List.set_cons_succ])
    refine wpAny_ready (rs := [8]) (by kernel_rfl) (by simp) ?_
    refine AllReady.cons rfl (fun K hK => ?_) AllReady.nil
    rw [if_pos (by rfl)]
    go_simp
    refine (dig_many V1 kF (s.extract p s.size ++ Y) q2 HSL2.out (by rw [ByteArray.size_append, HEX2.out]; have := HHL.out; omega) _ (hP3.keepK h0 HK.out) (hP3.keep0 h0)).mono ?_
    rintro e w4 ⟨rfl, hb4⟩
    have hP4 := hP3.call hb4
    refine hK _ _ ?_
    clear hK K
    (try simp only [List.getElem_toArray, List.getElem_cons_succ, List.getElem_cons_zero, Act.put, List.setIfInBounds_toArray, List.set_cons_zero, List.set_cons_succ])
    refine wpAny_ready (rs := [9]) (by kernel_rfl) (by simp) ?_
    refine AllReady.cons rfl (fun K hK => ?_) AllReady.nil
    rw [if_pos (by rfl)]
    refine wp_store_row 68 (.tmp 3) (.tmp 28) rfl w.heap.size (stTab (foldV V1 kF (bsOf (s.extract p s.size ++ Y)) q2)) rfl rfl 68 (stTab V1) hP4.now HI8.out rfl (stTab_one _) ?_
    have hP5 := hP4.set (foldV V1 kF (bsOf (s.extract p s.size ++ Y)) q2)
    refine hK _ _ ?_
    clear hK K
    (try simp only [List.getElem_toArray, List.getElem_cons_succ, List.getElem_cons_zero, Act.put, List.setIfInBounds_toArray, List.set_cons_zero, List.set_cons_succ])
    refine wpAny_done (by kernel_rfl) ?_ _
    generalize w4.setRow w.heap.size (stTab (foldV V1 kF (bsOf (s.extract p s.size ++ Y)) q2)) = W5 at hP5 ⊢
    clear hPS hP2 hP3 hP4 hb3 hb4
    rw [HV.out] at hP5
    have hB0 : Lib.IsBuilder 72 5 W5.heap.size W5.heap.size (Lib.byteCells (wordsL (sumV s) 0)) (W5.alloc (.cells #[.pointer none, .slice none 0 0] 72)) := Lib.fresh_isBuilder 72 5 W5
    have hL0 : (W5.alloc (.cells #[.pointer none, .slice none 0 0] 72)).heap[w.heap.size]? = some (.cells (stTab (sumV s)) 68 (0, 0)) := by
      rw [Below.heap_alloc _ _ _ (by have := hP5.size; omega)]; exact hP5.now
    have HBL0 : Hid (Below w.heap.size w (W5.alloc (.cells #[.pointer none, .slice none 0 0] 72))) := hP5.below.alloc (by have := hP5.size; omega) _
    have hB5 : w.heap.size ≤ W5.heap.size := by have := hP5.size; omega
    have HB0 : Hid _ := hB0
    have HL0 : Hid _ := hL0
    clear hB0 hL0 hP5
    go_wp2_with (first
      | (refine wpList_load_row ?_ 68 (.tmp 3) ?_ w.heap.size ?_ 68 (stTab (sumV s)) (0, 0) _ ?_ Tryz.underlying68 ?_ HI8.out ?_; rfl; rfl; rfl; exact HL0.out; rfl))
    go_loopw [30] (fun c wr => ∃ k : Nat, k ≤ 8 ∧ c = .int .i64 (k : Int) ∧ W5.heap.size < wr.heap.size ∧ Hid (Lib.IsBuilder 72 5 W5.heap.size W5.heap.size (Lib.byteCells (wordsL (sumV s) k)) wr) ∧ Hid (Below w.heap.size w wr))
      (fun c _ => 8 - (shaIntOf c).toNat)
    case atStart => exact ⟨0, by omega, rfl, by simp, HB0, HBL0⟩
    case round =>
      obtain ⟨k, hk, rfl, hsz, HB, HBL⟩ := hrel
      by_cases hlt : k < 8
      · have hix := fun W => index_state (stTab (sumV s)) k _ W hlt (stTab_at (sumV s) k hlt)
        have hbd := sumV_bd s k
        have hlen := wordsL_len (sumV s) k
        have HW : Hid (wordsL (sumV s) (k + 1) = wordsL (sumV s) k ++ bigL (sumV s k).toNat 4) := rfl
        generalize wordsL (sumV s) k = acc at HB hlen HW
        generalize sumV s k = x at hix hbd HW
        have HHG : Hid (∀ w, Calls Tryz.prog 45 #[.int .u64 x, .int .i64 4] w fun e w' => e = .returned (.string ⟨(bigL x.toNat 4).toArray⟩) ∧ Below w.heap.size w w') := fun w => by
          have := high_any x.toNat 4 w (by omega) (by omega) (by omega)
          rwa [show ((x.toNat : Nat) : Int) = x by omega] at this
        have h41 : (⟨(bigL x.toNat 4).toArray⟩ : ByteArray).size = 4 := by show (bigL x.toNat 4).toArray.size = 4; rw [List.size_toArray, bigL_len]
        obtain ⟨hx0, hx1⟩ := hbd
        have HLEN : Hid (acc.length = 4 * k) := hlen
        have H41 : Hid _ := h41
        clear hlen h41
        go_wp2_with fail
        refine (HHG.out _).mono ?_
        rintro e w6 ⟨rfl, hb6⟩
        go_wp2_with fail
        refine (write_any W5.heap.size W5.heap.size _ _ _ (builder_call HB.out hb6) (by rw [Lib.byteCells, List.length_map, HLEN.out, H41.out]; omega) (by have := hb6.size; omega)).mono ?_
        rintro e w7 ⟨rfl, hb7, hb8⟩
        have HB7 : Hid (Lib.IsBuilder 72 5 W5.heap.size W5.heap.size (Lib.byteCells (wordsL (sumV s) (k + 1))) w7) := by
          show Lib.IsBuilder _ _ _ _ _ _
          rw [HW.out, Lib.byteCells_append]
          exact Or.inr hb7
        have HBL7 : Hid (Below w.heap.size w w7) := (HBL.out.trans (hb6.mono HBL.out.size)).trans (hb8.mono hB5)
        have hs7 : W5.heap.size < w7.heap.size := by have := hb6.size; have := hb8.size; omega
        clear hb6 hb7 hb8 HB HBL HW
        go_wp2_with fail
        go_roundw
        case rel => exact ⟨k + 1, by omega, by go_num, hs7, HB7, HBL7⟩
        case measure => simp [shaIntOf]; omega
      · obtain rfl : k = 8 := by omega
        go_wp2_with fail
        refine (bstring_any W5.heap.size W5.heap.size (wordsL (sumV s) 8) _ HB.out (by omega)).mono ?_
        rintro e w8 ⟨rfl, hb8⟩
        go_wp2_with fail
        go_ret
        exact ⟨rfl, HBL.out.trans (hb8.mono hB5)⟩
  · rw [if_pos (by rfl)]
    go_simp
    refine (HPL.out _).mono ?_
    rintro e w3 ⟨rfl, hb3⟩
    have hP3 := hPS.call hb3
    refine hK _ _ ?_
    clear hK K
    (try simp only [List.getElem_toArray, List.getElem_cons_succ, List.getElem_cons_zero, Act.put, List.setIfInBounds_toArray, List.set_cons_zero, List.set_cons_succ])
    refine wpAny_take (i := 7) (v := .string (s.extract p s.size ++ Y)) rfl (by kernel_rfl) (by kernel_rfl) (by kernel_rfl) (fun _ _ _ h => h) (Or.inl ⟨by rfl, by intro w; go_simp; omega⟩) ?_
    (try simp only [List.getElem_toArray, List.getElem_cons_succ, List.getElem_cons_zero, Act.put, List.setIfInBounds_toArray, List.set_cons_zero, List.set_cons_succ])
    refine wpAny_ready (rs := [0]) (by kernel_rfl) (by simp) ?_
    refine AllReady.cons rfl (fun K hK => ?_) AllReady.nil
    rw [if_pos (by rfl)]
    refine wp_load_row 68 (.tmp 3) rfl w.heap.size rfl 68 (stTab V1) (0, 0) _ hP3.now Tryz.underlying68 rfl HI8.out ?_
    refine hK _ _ ?_
    clear hK K
    (try simp only [List.getElem_toArray, List.getElem_cons_succ, List.getElem_cons_zero, Act.put, List.setIfInBounds_toArray, List.set_cons_zero, List.set_cons_succ])
    refine wpAny_ready (rs := [8]) (by kernel_rfl) (by simp) ?_
    refine AllReady.cons rfl (fun K hK => ?_) AllReady.nil
    rw [if_pos (by rfl)]
    go_simp
    refine (dig_many V1 kF (s.extract p s.size ++ Y) q2 HSL2.out (by rw [ByteArray.size_append, HEX2.out]; have := HHL.out; omega) _ (hP3.keepK h0 HK.out) (hP3.keep0 h0)).mono ?_
    rintro e w4 ⟨rfl, hb4⟩
    have hP4 := hP3.call hb4
    refine hK _ _ ?_
    clear hK K
    (try simp only [List.getElem_toArray, List.getElem_cons_succ, List.getElem_cons_zero, Act.put, List.setIfInBounds_toArray, List.set_cons_zero, List.set_cons_succ])
    refine wpAny_ready (rs := [9]) (by kernel_rfl) (by simp) ?_
    refine AllReady.cons rfl (fun K hK => ?_) AllReady.nil
    rw [if_pos (by rfl)]
    refine wp_store_row 68 (.tmp 3) (.tmp 28) rfl w.heap.size (stTab (foldV V1 kF (bsOf (s.extract p s.size ++ Y)) q2)) rfl rfl 68 (stTab V1) hP4.now HI8.out rfl (stTab_one _) ?_
    have hP5 := hP4.set (foldV V1 kF (bsOf (s.extract p s.size ++ Y)) q2)
    refine hK _ _ ?_
    clear hK K
    (try simp only [List.getElem_toArray, List.getElem_cons_succ, List.getElem_cons_zero, Act.put, List.setIfInBounds_toArray, List.set_cons_zero, List.set_cons_succ])
    refine wpAny_done (by kernel_rfl) ?_ _
    generalize w4.setRow w.heap.size (stTab (foldV V1 kF (bsOf (s.extract p s.size ++ Y)) q2)) = W5 at hP5 ⊢
    clear hPS hP2 hP3 hP4 hb3 hb4
    rw [HV.out] at hP5
    have hB0 : Lib.IsBuilder 72 5 W5.heap.size W5.heap.size (Lib.byteCells (wordsL (sumV s) 0)) (W5.alloc (.cells #[.pointer none, .slice none 0 0] 72)) := Lib.fresh_isBuilder 72 5 W5
    have hL0 : (W5.alloc (.cells #[.pointer none, .slice none 0 0] 72)).heap[w.heap.size]? = some (.cells (stTab (sumV s)) 68 (0, 0)) := by
      rw [Below.heap_alloc _ _ _ (by have := hP5.size; omega)]; exact hP5.now
    have HBL0 : Hid (Below w.heap.size w (W5.alloc (.cells #[.pointer none, .slice none 0 0] 72))) := hP5.below.alloc (by have := hP5.size; omega) _
    have hB5 : w.heap.size ≤ W5.heap.size := by have := hP5.size; omega
    have HB0 : Hid _ := hB0
    have HL0 : Hid _ := hL0
    clear hB0 hL0 hP5
    go_wp2_with (first
      | (refine wpList_load_row ?_ 68 (.tmp 3) ?_ w.heap.size ?_ 68 (stTab (sumV s)) (0, 0) _ ?_ Tryz.underlying68 ?_ HI8.out ?_; rfl; rfl; rfl; exact HL0.out; rfl))
    go_loopw [30] (fun c wr => ∃ k : Nat, k ≤ 8 ∧ c = .int .i64 (k : Int) ∧ W5.heap.size < wr.heap.size ∧ Hid (Lib.IsBuilder 72 5 W5.heap.size W5.heap.size (Lib.byteCells (wordsL (sumV s) k)) wr) ∧ Hid (Below w.heap.size w wr))
      (fun c _ => 8 - (shaIntOf c).toNat)
    case atStart => exact ⟨0, by omega, rfl, by simp, HB0, HBL0⟩
    case round =>
      obtain ⟨k, hk, rfl, hsz, HB, HBL⟩ := hrel
      by_cases hlt : k < 8
      · have hix := fun W => index_state (stTab (sumV s)) k _ W hlt (stTab_at (sumV s) k hlt)
        have hbd := sumV_bd s k
        have hlen := wordsL_len (sumV s) k
        have HW : Hid (wordsL (sumV s) (k + 1) = wordsL (sumV s) k ++ bigL (sumV s k).toNat 4) := rfl
        generalize wordsL (sumV s) k = acc at HB hlen HW
        generalize sumV s k = x at hix hbd HW
        have HHG : Hid (∀ w, Calls Tryz.prog 45 #[.int .u64 x, .int .i64 4] w fun e w' => e = .returned (.string ⟨(bigL x.toNat 4).toArray⟩) ∧ Below w.heap.size w w') := fun w => by
          have := high_any x.toNat 4 w (by omega) (by omega) (by omega)
          rwa [show ((x.toNat : Nat) : Int) = x by omega] at this
        have h41 : (⟨(bigL x.toNat 4).toArray⟩ : ByteArray).size = 4 := by show (bigL x.toNat 4).toArray.size = 4; rw [List.size_toArray, bigL_len]
        obtain ⟨hx0, hx1⟩ := hbd
        have HLEN : Hid (acc.length = 4 * k) := hlen
        have H41 : Hid _ := h41
        clear hlen h41
        go_wp2_with fail
        refine (HHG.out _).mono ?_
        rintro e w6 ⟨rfl, hb6⟩
        go_wp2_with fail
        refine (write_any W5.heap.size W5.heap.size _ _ _ (builder_call HB.out hb6) (by rw [Lib.byteCells, List.length_map, HLEN.out, H41.out]; omega) (by have := hb6.size; omega)).mono ?_
        rintro e w7 ⟨rfl, hb7, hb8⟩
        have HB7 : Hid (Lib.IsBuilder 72 5 W5.heap.size W5.heap.size (Lib.byteCells (wordsL (sumV s) (k + 1))) w7) := by
          show Lib.IsBuilder _ _ _ _ _ _
          rw [HW.out, Lib.byteCells_append]
          exact Or.inr hb7
        have HBL7 : Hid (Below w.heap.size w w7) := (HBL.out.trans (hb6.mono HBL.out.size)).trans (hb8.mono hB5)
        have hs7 : W5.heap.size < w7.heap.size := by have := hb6.size; have := hb8.size; omega
        clear hb6 hb7 hb8 HB HBL HW
        go_wp2_with fail
        go_roundw
        case rel => exact ⟨k + 1, by omega, by go_num, hs7, HB7, HBL7⟩
        case measure => simp [shaIntOf]; omega
      · obtain rfl : k = 8 := by omega
        go_wp2_with fail
        refine (bstring_any W5.heap.size W5.heap.size (wordsL (sumV s) 8) _ HB.out (by omega)).mono ?_
        rintro e w8 ⟨rfl, hb8⟩
        go_wp2_with fail
        go_ret
        exact ⟨rfl, HBL.out.trans (hb8.mono hB5)⟩
end Go.Proofs.YtnkahdidelhdaacGreatDoor
