/-
  The coder of ranges: the specification's put of a 1.
-/
import Derived.Test.YtibciflmalfbjaaRngSp
namespace Go.Proofs.Ytibciflmalfbjaa
open Go.RowKit
set_option linter.unusedVariables false
set_option linter.unusedSimpArgs false
set_option maxRecDepth 100000 in
set_option maxHeartbeats 6000000 in
theorem sput_one {w : World} {B x : Nat} {s : RS} {V vo vp : Value} (h : ESV w B s V vo vp) (hB : B ≤ w.heap.size) (hs : s.Fine) (hw16 : 16777216 ≤ s.width) (hN : s.os.length + s.many ≤ 800000) (hx : x < 512) :
    Calls Try.prog 72 #[V, .agg #[.int .i64 (x : Int), .int .i64 1]] w fun e w' => (∃ V' vo', e = .returned V' ∧ ESV w' B (s.put x 1) V' vo' vp) ∧ KeepI w w' ∧ Below B w w' := by
  obtain ⟨hv, ho, hp⟩ := h
  subst hv
  obtain ⟨oa, ol, oc, rfl⟩ := own_slice ho
  obtain ⟨gp, cp, curp, rfl, hgB, hgr, hcl⟩ := own_formP hp (by omega)
  have hxI : (x : Int) < 512 := by omega
  have hgl := (Array.getElem?_eq_some_iff.1 hgr).1
  obtain ⟨q, p, m, hq, hpp, hm, f1, f2, f3, f4⟩ := bound_words hs x
  obtain ⟨lo2, hlo2⟩ : ∃ lo2, lo2 = s.low + m := ⟨_, rfl⟩
  obtain ⟨wd2, hwd2⟩ : ∃ wd2, wd2 = s.width - m := ⟨_, rfl⟩
  have hbn := hs.bnd hw16 x
  rw [← hm] at hbn
  have hbd := hs.bd
  have hsw2 := hs.w2
  have f6 : IntKind.u64.wrap (m : Int) = (m : Int) := by rw [IntKind.wrap_u64]; omega
  have f7 : IntKind.u64.wrap ((s.low : Int) + (m : Int)) = (lo2 : Int) := by rw [IntKind.wrap_u64]; omega
  have f8 : IntKind.u32.wrap ((s.width : Int) - (m : Int)) = (wd2 : Int) := by rw [IntKind.wrap_u32]; omega
  have HLW : Hid (lo2 = s.low + m ∧ wd2 = s.width - m) := ⟨hlo2, hwd2⟩
  clear hlo2 hwd2 hbn hbd hsw2
  have hc0 : w.cell? ⟨gp, x, none⟩ = some (.int .i64 (p : Int)) := hcl x _ (by rw [List.getElem?_map, List.getElem?_range hx]; simp [hpp])
  have hc3 : (((w.alloc (.cells #[.int .u64 (s.low : Int), .int .u32 (s.width : Int), .int .u8 (s.held : Int), .int .i64 (s.many : Int), .slice oa ol oc, .slice (some ⟨gp, 0, none⟩) 512 cp] 124)).alloc (.cells #[.int .i64 (x : Int), .int .i64 1] 106)).alloc (.cells #[.int .u64 0, .int .u32 0, .int .u8 0, .int .i64 0, .slice none 0 0, .slice none 0 0] 124)).cell? ⟨gp, x, none⟩ = some (.int .i64 (p : Int)) := by
    refine (World.cell?_of_block (a := ⟨gp, x, none⟩) (Below.heap_alloc _ _ _ ?_)).trans ((World.cell?_of_block (a := ⟨gp, x, none⟩) (Below.heap_alloc _ _ _ ?_)).trans ((World.cell?_of_block (a := ⟨gp, x, none⟩) (Below.heap_alloc _ _ _ ?_)).trans hc0))
    all_goals (simp; try omega)
  have HO : Hid (ESV w B s _ (.slice oa ol oc) _) := ⟨rfl, ho, hp⟩
  have HS : Hid (s.Fine ∧ q = s.width / 2048 ∧ p = s.probs x ∧ m = s.bound x) := ⟨hs, hq, hpp, hm⟩
  have HW16 : Hid (16777216 ≤ s.width) := hw16
  clear hcl ho hp hq hpp hm hs hw16
  go_enter Try.func72, Try.ntmps72
  have HFP : Hid ((s.pre x 1).Fine ∧ (s.pre x 1).os.length + (s.pre x 1).many ≤ 800000) := ⟨HS.out.1.pre HW16.out x 1, hN⟩
  have HPW : Hid _ := PW.made (w := w) (B := B) (x := x) (b := 1) (s := s) lo2 wd2 HO.out.out HO.out.pr hB
  obtain ⟨W, hW⟩ : ∃ W, W = (((w.alloc (.cells #[.int .u64 (lo2 : Int), .int .u32 (wd2 : Int), .int .u8 (s.held : Int), .int .i64 (s.many : Int), .slice oa ol oc, .slice (some ⟨gp, 0, none⟩) 512 cp] 124)).alloc (.cells #[.int .i64 (x : Int), .int .i64 1] 106)).alloc (.cells #[.int .u64 0, .int .u32 0, .int .u8 0, .int .i64 0, .slice none 0 0, .slice none 0 0] 124)) := ⟨_, rfl⟩
  have HPW2 : Hid (PW w W B w.heap.size x 1 { s with low := lo2, width := wd2 } (.slice oa ol oc) (.slice (some ⟨gp, 0, none⟩) 512 cp)) := by rw [hW]; exact HPW
  clear HPW
  have HGR : Hid (W.heap[gp]? = some (.cells curp 2 (0, 0))) := by rw [hW, Below.heap_alloc _ _ _ (by simp; omega), Below.heap_alloc _ _ _ (by simp; omega), Below.heap_alloc _ _ _ hgl]; exact hgr
  have HGC : Hid (W.cell? ⟨gp, x, none⟩ = some (.int .i64 (p : Int))) := (cell_of_row W _ _ _ _ _ HGR.out).trans ((cell_of_row w _ _ _ _ _ hgr).symm.trans hc0)
  obtain ⟨n, hn⟩ : ∃ n, n = movP p 1 := ⟨_, rfl⟩
  have HNN : Hid (n = movP p 1) := hn
  have HMV : Hid (∀ w, Calls Try.prog 46 #[.int .i64 (p : Int), .int .i64 1] w fun e w' => e = .returned (.int .i64 (n : Int)) ∧ w' = w) := fun w => by have h1 := HS.out.1.pr x; have h2 := smoved_in (p : Int) 1 w (by have := HS.out.2.2.1; omega) (by have := HS.out.2.2.1; omega) (Or.inr rfl); have h3 : movI (p : Int) ((1 : Nat) : Int) = ((movP p 1 : Nat) : Int) := movI_nat (by rw [HS.out.2.2.1]; exact h1) (Or.inr rfl); rw [hn, ← h3]; exact h2
  clear hn
  have HWW : Hid _ := hW
  clear hW
  go_wp2_with fail
  rw [← HWW.out]
  clear hc3 hc0
  obtain ⟨S, hSS⟩ : ∃ S : World → Prop, S = fun w' => w'.cell? ⟨w.heap.size, 5, none⟩ = some (.slice (some ⟨gp, 0, none⟩) 512 cp) ∧ w'.cell? ⟨w.heap.size + 1, 0, none⟩ = some (.int .i64 (x : Int)) ∧ w'.cell? ⟨w.heap.size + 1, 1, none⟩ = some (.int .i64 1) := ⟨_, rfl⟩
  have hSd : S W.drew := by rw [hSS]; exact ⟨cell_of_row W.drew _ _ _ _ _ HPW2.out.box, cell_of_row W.drew _ _ _ _ _ HPW2.out.ch, cell_of_row W.drew _ _ _ _ _ HPW2.out.ch⟩
  have HX : Hid (∀ w', S w' → w'.cell? ⟨w.heap.size, 5, none⟩ = some (.slice (some ⟨gp, 0, none⟩) 512 cp) ∧ w'.cell? ⟨w.heap.size + 1, 0, none⟩ = some (.int .i64 (x : Int)) ∧ w'.cell? ⟨w.heap.size + 1, 1, none⟩ = some (.int .i64 1)) := fun w' h => by rw [hSS] at h; exact h
  have HSS : Hid _ := hSS
  clear hSS HWW
  refine wp_region_held (S := S) (by kernel_rfl) ?_
  change wpAnyH _ _ _ _ _ _ _ _ (World.drew _)
  refine wpAnyH_take (i := 0) (v := .pointer (some ⟨w.heap.size, 5, none⟩)) rfl (by kernel_rfl) (by kernel_rfl) (by kernel_rfl) (fun _ _ _ h => h) (Or.inl ⟨by rfl, by intro w' hS'; go_simp <;> (first | omega | (rw [IntKind.wrap_i64]; omega) | (rw [IntKind.wrap_u64]; omega) | (rw [IntKind.wrap_u32]; omega) | (rw [Int.tmod_eq_emod_of_nonneg (by omega)]))⟩) hSd ?_
  (try simp only [List.getElem_toArray, List.getElem_cons_succ, List.getElem_cons_zero, Act.put, List.setIfInBounds_toArray, List.set_cons_zero, List.set_cons_succ])
  refine wpAnyH_take (i := 1) (v := .slice (some ⟨gp, 0, none⟩) 512 cp) rfl (by kernel_rfl) (by kernel_rfl) (by kernel_rfl) (fun _ _ _ h => h) (Or.inl ⟨by rfl, by intro w' hS'; obtain ⟨k5, k6, k7⟩ := HX.out w' hS'; go_simp <;> (first | omega | (rw [IntKind.wrap_i64]; omega) | (rw [IntKind.wrap_u64]; omega) | (rw [IntKind.wrap_u32]; omega) | (rw [Int.tmod_eq_emod_of_nonneg (by omega)]))⟩) hSd ?_
  (try simp only [List.getElem_toArray, List.getElem_cons_succ, List.getElem_cons_zero, Act.put, List.setIfInBounds_toArray, List.set_cons_zero, List.set_cons_succ])
  refine wpAnyH_take (i := 2) (v := .pointer (some ⟨w.heap.size + 1, 0, none⟩)) rfl (by kernel_rfl) (by kernel_rfl) (by kernel_rfl) (fun _ _ _ h => h) (Or.inl ⟨by rfl, by intro w' hS'; go_simp <;> (first | omega | (rw [IntKind.wrap_i64]; omega) | (rw [IntKind.wrap_u64]; omega) | (rw [IntKind.wrap_u32]; omega) | (rw [Int.tmod_eq_emod_of_nonneg (by omega)]))⟩) hSd ?_
  (try simp only [List.getElem_toArray, List.getElem_cons_succ, List.getElem_cons_zero, Act.put, List.setIfInBounds_toArray, List.set_cons_zero, List.set_cons_succ])
  refine wpAnyH_take (i := 3) (v := .int .i64 (x : Int)) rfl (by kernel_rfl) (by kernel_rfl) (by kernel_rfl) (fun _ _ _ h => h) (Or.inl ⟨by rfl, by intro w' hS'; obtain ⟨k5, k6, k7⟩ := HX.out w' hS'; go_simp <;> (first | omega | (rw [IntKind.wrap_i64]; omega) | (rw [IntKind.wrap_u64]; omega) | (rw [IntKind.wrap_u32]; omega) | (rw [Int.tmod_eq_emod_of_nonneg (by omega)]))⟩) hSd ?_
  (try simp only [List.getElem_toArray, List.getElem_cons_succ, List.getElem_cons_zero, Act.put, List.setIfInBounds_toArray, List.set_cons_zero, List.set_cons_succ])
  refine wpAnyH_take (i := 4) (v := .int .i64 (p : Int)) rfl (by kernel_rfl) (by kernel_rfl) (by kernel_rfl) (fun _ _ _ h => h) (Or.inl ⟨by rfl, by intro w' hS'; go_simp <;> (first | omega | (rw [IntKind.wrap_i64]; omega) | (rw [IntKind.wrap_u64]; omega) | (rw [IntKind.wrap_u32]; omega) | (rw [Int.tmod_eq_emod_of_nonneg (by omega)]))⟩) hSd ?_
  (try simp only [List.getElem_toArray, List.getElem_cons_succ, List.getElem_cons_zero, Act.put, List.setIfInBounds_toArray, List.set_cons_zero, List.set_cons_succ])
  refine wpAnyH_take (i := 5) (v := .pointer (some ⟨w.heap.size + 1, 1, none⟩)) rfl (by kernel_rfl) (by kernel_rfl) (by kernel_rfl) (fun _ _ _ h => h) (Or.inl ⟨by rfl, by intro w' hS'; go_simp <;> (first | omega | (rw [IntKind.wrap_i64]; omega) | (rw [IntKind.wrap_u64]; omega) | (rw [IntKind.wrap_u32]; omega) | (rw [Int.tmod_eq_emod_of_nonneg (by omega)]))⟩) hSd ?_
  (try simp only [List.getElem_toArray, List.getElem_cons_succ, List.getElem_cons_zero, Act.put, List.setIfInBounds_toArray, List.set_cons_zero, List.set_cons_succ])
  refine wpAnyH_take (i := 6) (v := .int .i64 1) rfl (by kernel_rfl) (by kernel_rfl) (by kernel_rfl) (fun _ _ _ h => h) (Or.inl ⟨by rfl, by intro w' hS'; obtain ⟨k5, k6, k7⟩ := HX.out w' hS'; go_simp <;> (first | omega | (rw [IntKind.wrap_i64]; omega) | (rw [IntKind.wrap_u64]; omega) | (rw [IntKind.wrap_u32]; omega) | (rw [Int.tmod_eq_emod_of_nonneg (by omega)]))⟩) hSd ?_
  (try simp only [List.getElem_toArray, List.getElem_cons_succ, List.getElem_cons_zero, Act.put, List.setIfInBounds_toArray, List.set_cons_zero, List.set_cons_succ])
  refine held_stepS (i := 7) (by kernel_rfl) rfl (by rfl) ?_
  go_simp
  refine (HMV.out W.drew).mono ?_
  rintro e w5 ⟨rfl, rfl⟩
  refine ⟨hSd, ?_⟩
  (try simp only [List.getElem_toArray, List.getElem_cons_succ, List.getElem_cons_zero, Act.put, List.setIfInBounds_toArray, List.set_cons_zero, List.set_cons_succ])
  refine wpAnyH_take (i := 8) (v := .pointer (some ⟨gp, x, none⟩)) rfl (by kernel_rfl) (by kernel_rfl) (by kernel_rfl) (fun _ _ _ h => h) (Or.inl ⟨by rfl, by intro w' hS'; go_simp <;> (first | omega | (rw [IntKind.wrap_i64]; omega) | (rw [IntKind.wrap_u64]; omega) | (rw [IntKind.wrap_u32]; omega) | (rw [Int.tmod_eq_emod_of_nonneg (by omega)]))⟩) hSd ?_
  (try simp only [List.getElem_toArray, List.getElem_cons_succ, List.getElem_cons_zero, Act.put, List.setIfInBounds_toArray, List.set_cons_zero, List.set_cons_succ])
  have c5 : W.drew.cell? ⟨gp, x, none⟩ = some (.int .i64 (p : Int)) := HGC.out
  have z5 := frozen_of_row W.drew gp x _ _ HGR.out
  refine held_stepS (i := 9) (by kernel_rfl) rfl (by rfl) ?_
  go_simp
  have HP5 : Hid (PW w (W.setCell ⟨gp, x, none⟩ (.int .i64 (n : Int))).drew B w.heap.size x 1 (s.pre x 1) (.slice oa ol oc) (.slice (some ⟨gp, 0, none⟩) 512 cp)) := by
    have h := (HPW2.out.moved n).drew
    have e : ({ s with low := lo2, width := wd2, probs := fun j => if j = x then n else s.probs j } : RS) = s.pre x 1 := by
      unfold RS.pre; rw [if_neg (by decide), HNN.out, HS.out.2.2.1, HLW.out.1, HLW.out.2, HS.out.2.2.2]; rfl
    rw [← e]; exact h
  refine ⟨by rw [HSS.out]; exact ⟨cell_of_row _ _ _ _ _ _ HP5.out.box, cell_of_row _ _ _ _ _ _ HP5.out.ch, cell_of_row _ _ _ _ _ _ HP5.out.ch⟩, ?_⟩
  (try simp only [List.getElem_toArray, List.getElem_cons_succ, List.getElem_cons_zero, Act.put, List.setIfInBounds_toArray, List.set_cons_zero, List.set_cons_succ])
  refine wpAnyH_done (by kernel_rfl) ?_ _
  have HF0 : Hid ((s.pre x 1).Fine ∧ (s.pre x 1).norm = s.put x 1 ∧ (s.pre x 1).os.length + (s.pre x 1).many ≤ 800000) := ⟨HFP.out.1, rfl, HFP.out.2⟩
  clear c5 z5 hSd HX HSS HMV HGR HGC HPW2
  go_wp2_with fail
  go_loopw [] (fun wr => ∃ (t : RS) (vo : Value), PW w wr B w.heap.size x 1 t vo (.slice (some ⟨gp, 0, none⟩) 512 cp) ∧ t.Fine ∧ t.norm = s.put x 1 ∧ (t.os.length + t.many ≤ 800000 ∨ (t.os.length + t.many ≤ 800001 ∧ 2097152 ≤ t.width) ∨ (t.os.length + t.many ≤ 800002 ∧ 16777216 ≤ t.width))) (fun wr => widthAt1 w.heap.size wr)
  case atStart => exact ⟨_, _, HP5.out, HF0.out.1, HF0.out.2.1, Or.inl HF0.out.2.2⟩
  case round =>
    obtain ⟨t, vo, hP, hF, hN2, hL⟩ := hrel
    obtain ⟨ta, tl, tc, rfl⟩ := own_slice hP.own
    have hw1 := hF.w1
    have b0 : wr.cell? ⟨w.heap.size, 0, none⟩ = some (.int .u64 (t.low : Int)) := cell_of_row _ _ _ _ _ _ hP.box
    have b1 : wr.cell? ⟨w.heap.size, 1, none⟩ = some (.int .u32 (t.width : Int)) := cell_of_row _ _ _ _ _ _ hP.box
    have b2 : wr.cell? ⟨w.heap.size, 2, none⟩ = some (.int .u8 (t.held : Int)) := cell_of_row _ _ _ _ _ _ hP.box
    have b3 : wr.cell? ⟨w.heap.size, 3, none⟩ = some (.int .i64 (t.many : Int)) := cell_of_row _ _ _ _ _ _ hP.box
    have b4 : wr.cell? ⟨w.heap.size, 4, none⟩ = some (.slice ta tl tc) := cell_of_row _ _ _ _ _ _ hP.box
    have b5 : wr.cell? ⟨w.heap.size, 5, none⟩ = some (.slice (some ⟨gp, 0, none⟩) 512 cp) := cell_of_row _ _ _ _ _ _ hP.box
    have HP : Hid _ := hP
    have HT : Hid (t.Fine ∧ t.norm = s.put x 1) := ⟨hF, hN2⟩
    clear hP hF hN2
    by_cases hlt : t.width < 16777216
    · have hltI : (t.width : Int) < 16777216 := by omega
      obtain ⟨wd, hwd⟩ : ∃ wd, wd = t.width * 256 := ⟨_, rfl⟩
      have f5 : IntKind.u32.wrap ((t.width : Int) * 256) = (wd : Int) := by rw [IntKind.wrap_u32]; omega
      have z1 := frozen_of_row wr w.heap.size 1 _ _ HP.out.box
      have HWD : Hid (wd = t.width * 256 ∧ t.width < 16777216) := ⟨hwd, hlt⟩
      clear hwd hlt
      have HM1 : Hid (widthAt1 w.heap.size wr = 16777216 - t.width) := widthAt1_eq b1
      have HB1 : Hid _ := HP.out.toBox.set 1 (.int .u32 (wd : Int))
      go_wp2_with fail
      have hE1 : ESV (wr.setCell ⟨w.heap.size, 1, none⟩ (.int .u32 (wd : Int))) B { t with width := wd } (.agg #[.int .u64 (t.low : Int), .int .u32 (wd : Int), .int .u8 (t.held : Int), .int .i64 (t.many : Int), .slice ta tl tc, .slice (some ⟨gp, 0, none⟩) 512 cp]) (.slice ta tl tc) (.slice (some ⟨gp, 0, none⟩) 512 cp) := ⟨rfl, HB1.out.own, HB1.out.pr⟩
      refine (shift_any (s := { t with width := wd }) hE1 (Nat.le_trans hB HB1.out.below.size) ⟨HT.out.1.low, HT.out.1.held, HT.out.1.many⟩ (by show t.os.length + t.many ≤ 900000; omega)).mono ?_
      rintro e w6 ⟨⟨V', vo', rfl, hE⟩, hK, hbb⟩
      have es : ({ t with width := wd } : RS).sh = t.shw := by rw [HWD.out.1]; exact shw_as t
      rw [es] at hE
      obtain ⟨rfl, ho6, hp6⟩ := hE
      obtain ⟨va, vl, vc, rfl⟩ := own_slice ho6
      have HB6 : Hid (BOXW w w6 B w.heap.size x 1 t.shw (.slice va vl vc) (.slice (some ⟨gp, 0, none⟩) 512 cp) _) := ⟨ho6, hp6, HB1.out.below.trans hbb, hK _ _ _ _ HB1.out.box (by decide), hK _ _ _ _ HB1.out.ch (by decide), hK _ _ _ _ HB1.out.res (by decide), HB1.out.gB, HB1.out.gW, HB1.out.keep.trans (.of hK)⟩
      clear b0 b1 b2 b3 b4 b5 z1 ho6 hp6 hK hbb hE1 HB1 HP
      have HL2 : Hid ((t.shw.os.length + t.shw.many ≤ 800001 ∧ 2097152 ≤ t.shw.width) ∨ (t.shw.os.length + t.shw.many ≤ 800002 ∧ 16777216 ≤ t.shw.width)) := by
        have e1 : t.shw.os.length + t.shw.many = t.os.length + t.many + 1 := sh_len HT.out.1.many
        have e2 := shw_width t
        rw [e1, e2]
        show _ ∨ _
        omega
      have HT6 : Hid (t.shw.Fine ∧ t.shw.norm = s.put x 1) := ⟨HT.out.1.shw HWD.out.2, (norm_step HT.out.1 HWD.out.2).trans HT.out.2⟩
      obtain ⟨u, hu⟩ : ∃ u, u = t.shw := ⟨_, rfl⟩
      rw [← hu] at HB6 HL2 HT6 ⊢
      have HWu : Hid (u.width = t.width * 256) := by rw [hu]; exact shw_width t
      clear hu es
      have b0 : w6.cell? ⟨w.heap.size, 0, none⟩ = some (.int .u64 (t.low : Int)) := cell_of_row _ _ _ _ _ _ HB6.out.box
      have b1 : w6.cell? ⟨w.heap.size, 1, none⟩ = some (.int .u32 (wd : Int)) := cell_of_row _ _ _ _ _ _ HB6.out.box
      have b2 : w6.cell? ⟨w.heap.size, 2, none⟩ = some (.int .u8 (t.held : Int)) := cell_of_row _ _ _ _ _ _ HB6.out.box
      have b3 : w6.cell? ⟨w.heap.size, 3, none⟩ = some (.int .i64 (t.many : Int)) := cell_of_row _ _ _ _ _ _ HB6.out.box
      have b4 : w6.cell? ⟨w.heap.size, 4, none⟩ = some (.slice ta tl tc) := cell_of_row _ _ _ _ _ _ HB6.out.box
      have b5 : w6.cell? ⟨w.heap.size, 5, none⟩ = some (.slice (some ⟨gp, 0, none⟩) 512 cp) := cell_of_row _ _ _ _ _ _ HB6.out.box
      have z0 := frozen_of_row w6 w.heap.size 0 _ _ HB6.out.box
      have z1 := frozen_of_row w6 w.heap.size 1 _ _ HB6.out.box
      have z2 := frozen_of_row w6 w.heap.size 2 _ _ HB6.out.box
      have z3 := frozen_of_row w6 w.heap.size 3 _ _ HB6.out.box
      have z4 := frozen_of_row w6 w.heap.size 4 _ _ HB6.out.box
      have z5 := frozen_of_row w6 w.heap.size 5 _ _ HB6.out.box
      have HR : Hid _ := (((((HB6.out.set 0 (.int .u64 (u.low : Int))).set 1 (.int .u32 (u.width : Int))).set 2 (.int .u8 (u.held : Int))).set 3 (.int .i64 (u.many : Int))).set 4 (.slice va vl vc)).set 5 (.slice (some ⟨gp, 0, none⟩) 512 cp)
      clear HB6
      go_wp2_with fail
      go_roundw
      case rel => exact ⟨u, _, ⟨HR.out.own, HR.out.pr, HR.out.below, HR.out.box, HR.out.ch, HR.out.res, HR.out.gB, HR.out.gW, HR.out.keep⟩, HT6.out.1, HT6.out.2, Or.inr HL2.out⟩
      case measure =>
        have q := widthAt1_eq (w := _) (g := w.heap.size) (wd := u.width) ((cell_of_row _ _ 1 _ _ _ HR.out.box).trans rfl)
        have q2 := HM1.out
        have q3 := HWu.out
        have q4 := HWD.out.2
        rw [q, q2]; omega
    · have hltI : ¬ ((t.width : Int) < 16777216) := by omega
      have e : t = s.put x 1 := by rw [← HT.out.2, norm_done (by omega)]
      have r0 : wr.cell? ⟨w.heap.size + 2, 0, none⟩ = some (.int .u64 0) := cell_of_row _ _ _ _ _ _ HP.out.res
      have r1 : wr.cell? ⟨w.heap.size + 2, 1, none⟩ = some (.int .u32 0) := cell_of_row _ _ _ _ _ _ HP.out.res
      have r2 : wr.cell? ⟨w.heap.size + 2, 2, none⟩ = some (.int .u8 0) := cell_of_row _ _ _ _ _ _ HP.out.res
      have r3 : wr.cell? ⟨w.heap.size + 2, 3, none⟩ = some (.int .i64 0) := cell_of_row _ _ _ _ _ _ HP.out.res
      have r4 : wr.cell? ⟨w.heap.size + 2, 4, none⟩ = some (.slice none 0 0) := cell_of_row _ _ _ _ _ _ HP.out.res
      have r5 : wr.cell? ⟨w.heap.size + 2, 5, none⟩ = some (.slice none 0 0) := cell_of_row _ _ _ _ _ _ HP.out.res
      have y0 := frozen_of_row wr (w.heap.size + 2) 0 _ _ HP.out.res
      have y1 := frozen_of_row wr (w.heap.size + 2) 1 _ _ HP.out.res
      have y2 := frozen_of_row wr (w.heap.size + 2) 2 _ _ HP.out.res
      have y3 := frozen_of_row wr (w.heap.size + 2) 3 _ _ HP.out.res
      have y4 := frozen_of_row wr (w.heap.size + 2) 4 _ _ HP.out.res
      have y5 := frozen_of_row wr (w.heap.size + 2) 5 _ _ HP.out.res
      have HE : Hid (t = s.put x 1) := e
      clear e hlt
      have HR : Hid _ := ((((((RESW.mk HP.out.own HP.out.pr HP.out.below HP.out.res (by have := HP.out.gB; omega) (by have := HP.out.gW; omega) HP.out.keep).set 0 (.int .u64 (t.low : Int))).set 1 (.int .u32 (t.width : Int))).set 2 (.int .u8 (t.held : Int))).set 3 (.int .i64 (t.many : Int))).set 4 (.slice ta tl tc)).set 5 (.slice (some ⟨gp, 0, none⟩) 512 cp)
      clear HP
      go_wp2_with fail
      refine bodyPost_ret (results_cell_row rfl _ _ (w.heap.size + 2) 124 #[.int .u64 (t.low : Int), .int .u32 (t.width : Int), .int .u8 (t.held : Int), .int .i64 (t.many : Int), .slice ta tl tc, .slice (some ⟨gp, 0, none⟩) 512 cp] (0, 0) _ rfl HR.out.res Try.underlying124 rfl ?_) rfl ⟨⟨_, rfl, .slice ta tl tc, ?_⟩, HR.out.keep, HR.out.below⟩
      · kernel_rfl
      · rw [← HE.out]; exact ⟨rfl, HR.out.own, HR.out.pr⟩
theorem sputE_any {w : World} {B x b : Nat} {s : RS} {V vo vp : Value} (h : ESV w B s V vo vp) (hB : B ≤ w.heap.size) (hs : s.Fine) (hw16 : 16777216 ≤ s.width) (hN : s.os.length + s.many ≤ 800000) (hx : x < 512) (hb : b = 0 ∨ b = 1) :
    Calls Try.prog 72 #[V, .agg #[.int .i64 (x : Int), .int .i64 (b : Int)]] w fun e w' => (∃ V' vo', e = .returned V' ∧ ESV w' B (s.put x b) V' vo' vp) ∧ KeepI w w' ∧ Below B w w' := by
  rcases hb with rfl | rfl
  · exact sput_zero h hB hs hw16 hN hx
  · exact sput_one h hB hs hw16 hN hx
end Go.Proofs.Ytibciflmalfbjaa
