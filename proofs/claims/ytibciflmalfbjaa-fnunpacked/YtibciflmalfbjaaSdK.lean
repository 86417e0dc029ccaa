/-
  The specification's reader of ranges: a number of so many bits, and how it begins.
-/
import Derived.Test.YtibciflmalfbjaaSdT
namespace Go.Proofs.Ytibciflmalfbjaa
open Go.RowKit
set_option linter.unusedVariables false
set_option linter.unusedSimpArgs false
theorem thS_fine (f : Nat) (v : Int) : ∀ (k nd : Nat) (s : DS × Bool), s.1.Fine → (thT sbitR snxtR f v k nd s).1.1.Fine
  | 0, _, _, h => h
  | k + 1, nd, s, h => thS_fine f v k _ _ (sgo_fine h _)
set_option maxRecDepth 100000 in
set_option maxHeartbeats 1000000 in
theorem sk7_any {w : World} {B g : Nat} {sb : DS × Bool} (f nb : Nat) (fI nbI v : Int) (hfI : fI = (f : Int)) (hnI : nbI = (nb : Int)) (hs : sb.1.Fine) (hD : SDAt w B g sb) (hnb : nb = 8 ∨ nb = 6) (hf : f ≤ 400 ∧ (nb = 8 → f ≤ 1)) :
    Calls Try.prog 24 #[.pointer (some ⟨g, 0, none⟩), .int .i64 fI, .int .i64 nbI] w fun e w' => e = .returned (.int .i64 (((thT sbitR snxtR f v nb 1 sb).2 - 2 ^ nb : Nat) : Int)) ∧ (SDAt w' B g (thT sbitR snxtR f v nb 1 sb).1 ∧ FRS w w' B g) := by
  have HTK : Hid (∀ w sb x, sb.1.Fine → SDAt w B g sb → x < 512 → Calls Try.prog 23 #[.pointer (some ⟨g, 0, none⟩), .int .i64 ((x : Nat) : Int)] w fun e w' => e = .returned (.int .i64 ((stell sb x : Nat) : Int)) ∧ SDAt w' B g (sgo sb x) ∧ FRS w w' B g) := fun w sb x h1 h2 h3 => sdtake_any h1 h2 h3
  obtain ⟨R, hR⟩ : ∃ R, R = thT sbitR snxtR f v nb 1 sb := ⟨_, rfl⟩
  have HR : Hid (R = thT sbitR snxtR f v nb 1 sb) := hR
  rw [← hR]
  have HS0 : Hid (sb.1.Fine ∧ SDAt w B g sb) := ⟨hs, hD⟩
  have HFB : Hid (nb ≤ 8 ∧ ∀ j d, j < nb → d < 2 ^ (j + 1) → f + d < 512) := by
    rcases hnb with rfl | rfl
    · refine ⟨by omega, fun j d hj hd => ?_⟩
      have := hf.2 rfl
      have : 2 ^ (j + 1) ≤ 2 ^ 8 := Nat.pow_le_pow_right (by omega) (by omega)
      omega
    · refine ⟨by omega, fun j d hj hd => ?_⟩
      have : 2 ^ (j + 1) ≤ 2 ^ 6 := Nat.pow_le_pow_right (by omega) (by omega)
      omega
  have HN : Hid (nb = 8 ∨ nb = 6) := hnb
  have hnb8 : nb ≤ 8 := HFB.out.1
  have hf4 := hf.1
  subst hfI
  subst hnI
  clear hR hs hD hnb hf
  go_enter Try.func24, Try.ntmps24
  go_wp2_with fail
  go_loopw [7, 8] (fun y i wr => ∃ (k d : Nat) (s1 : DS × Bool), y = .int .i64 (d : Int) ∧ i = .int .i64 (k : Int) ∧ k ≤ nb ∧ d < 2 ^ (k + 1) ∧ 2 ^ k ≤ d ∧ Hid (R = thT sbitR snxtR f v (nb - k) d s1) ∧ Hid (s1.1.Fine ∧ SDAt wr B g s1 ∧ FRS w wr B g)) (fun _ i _ => nb - (nIntT i).toNat)
  case atStart => exact ⟨0, 1, sb, rfl, rfl, Nat.zero_le _, by decide, by decide, HR, ⟨HS0.out.1, HS0.out.2, FRS.refl _ _ _⟩⟩
  case round =>
    obtain ⟨k, d, s1, rfl, rfl, hk, hd, hd1, HRR, HK⟩ := hrel
    have hd9 : d < 512 := Nat.lt_of_lt_of_le hd (Nat.pow_le_pow_right (by omega) (by omega : k + 1 ≤ 9))
    by_cases hk0 : k < nb
    · have hkI : (k : Int) < (nb : Int) := by omega
      obtain ⟨z, hz⟩ : ∃ z, z = f + d := ⟨_, rfl⟩
      have hz5 : z < 512 := by
        have := HFB.out.2 k d hk0 hd
        omega
      have hw1 : IntKind.i64.wrap ((f : Int) + (d : Int)) = (z : Int) := by rw [IntKind.wrap_i64]; omega
      have hw1b : (f : Int) + (d : Int) = (z : Int) := by omega
      have hw2 : IntKind.i64.wrap (2 * (d : Int)) = 2 * (d : Int) := by rw [IntKind.wrap_i64]; omega
      have hb := stell_lt s1 z
      have hP := HTK.out wr s1 z HK.out.1 HK.out.2.1 hz5
      have hFn := sgo_fine HK.out.1 z
      obtain ⟨bt, hbt⟩ : ∃ bt, bt = stell s1 z := ⟨_, rfl⟩
      rw [← hbt] at hb hP
      obtain ⟨nd, hnd⟩ : ∃ nd, nd = 2 * d + bt := ⟨_, rfl⟩
      have hw3b : 2 * (d : Int) + (bt : Int) = (nd : Int) := by omega
      have hw3 : IntKind.i64.wrap (nd : Int) = (nd : Int) := by rw [IntKind.wrap_i64]; omega
      have HRN : Hid (R = thT sbitR snxtR f v (nb - (k + 1)) nd (sgo s1 z)) := by
        show R = _
        have e : nb - k = (nb - (k + 1)) + 1 := by omega
        rw [HRR.out, e, thT, ← hz]
        show thT sbitR snxtR f v (nb - (k + 1)) (2 * d + stell s1 z) (sgo s1 z) = _
        rw [← hbt, ← hnd]
      have hnd2 : nd < 2 ^ (k + 1 + 1) ∧ 2 ^ (k + 1) ≤ nd := by
        rw [Nat.pow_succ 2 (k + 1), Nat.pow_succ]
        rw [Nat.pow_succ] at hd
        omega
      have HP := hidS hP
      have HFN := hidS hFn
      have HFR := hidS HK.out.2.2
      clear hd hd1 HRR hz hbt hnd hP hFn HK
      go_wp2_with fail
      refine (HP.out).mono ?_
      rintro e w5 ⟨rfl, hD5, hF5⟩
      have H5 : Hid ((sgo s1 z).1.Fine ∧ SDAt w5 B g (sgo s1 z) ∧ FRS w w5 B g) := ⟨HFN.out, hD5, HFR.out.trans hF5⟩
      clear hD5 hF5 HFR HFN
      go_wp2_with fail
      go_roundw
      case rel => exact ⟨k + 1, nd, sgo s1 z, rfl, by go_num, by omega, hnd2.1, hnd2.2, HRN, H5⟩
      case measure => simp [nIntT]; omega
    · obtain rfl : k = nb := by omega
      have hR : R = (s1, d) := by rw [HRR.out, Nat.sub_self]; rfl
      have HF : Hid (R = (s1, d) ∧ 2 ^ k ≤ d ∧ SDAt wr B g s1 ∧ FRS w wr B g) := ⟨hR, hd1, HK.out.2⟩
      clear hd hd1 HRR HK hk hR hk0
      rcases HN.out with e | e
      · subst e
        have hge : (256 : Nat) ≤ d := HF.out.2.1
        have hsb : (d : Int) - 256 = ((d - 256 : Nat) : Int) := by omega
        have hsw : IntKind.i64.wrap ((d : Int) - 256) = ((d - 256 : Nat) : Int) := by rw [IntKind.wrap_i64]; omega
        go_wp2_with fail
        go_ret
        exact ⟨by rw [HF.out.1]; first | rfl | (simp only []; rw [← hsb]; rfl), by rw [HF.out.1]; exact HF.out.2.2⟩
      · subst e
        have hge : (64 : Nat) ≤ d := HF.out.2.1
        have hsb : (d : Int) - 64 = ((d - 64 : Nat) : Int) := by omega
        have hsw : IntKind.i64.wrap ((d : Int) - 64) = ((d - 64 : Nat) : Int) := by rw [IntKind.wrap_i64]; omega
        go_wp2_with fail
        go_ret
        exact ⟨by rw [HF.out.1]; first | rfl | (simp only []; rw [← hsb]; rfl), by rw [HF.out.1]; exact HF.out.2.2⟩
theorem bsOf_drop (S : ByteArray) (k j : Nat) : bsOf (S.extract k S.size) j = bsOf S (k + j) := by
  unfold bsOf
  rw [Lib.extract_to_end, List.getD_eq_getElem?_getD, List.getD_eq_getElem?_getD, List.getElem?_drop]
theorem code0_eq (S : ByteArray) : code0 S = ((bsOf S 1 * 256 + bsOf S 2) * 256 + bsOf S 3) * 256 + bsOf S 4 := by
  unfold code0
  simp only [pt, bsOf_drop]
  show ((((0 * 256 + bsOf S (1 + 0)) * 256 + bsOf S (1 + 1)) * 256 + bsOf S (1 + 2)) * 256 + bsOf S (1 + 3)) = _
  rw [Nat.zero_mul, Nat.zero_add]
theorem pr0_row : (List.replicate 512 (Value.int .i64 1024)) = (List.range 512).map fun j => Value.int .i64 (((fun _ : Nat => 1024) j : Nat) : Int) := by
  apply List.ext_getElem
  · rw [List.length_replicate, List.length_map, List.length_range]
  · intro i h1 h2
    rw [List.getElem_replicate, List.getElem_map]; rfl
/-- what l5Begin answers -/
def BGN (w w' : World) (v : Value) (cd : Nat) (R : ByteArray) (bad : Bool) : Prop := ∃ gp c, v = .agg #[.int .u32 (cd : Int), .int .u32 4294967295, .string R, .bool bad, .slice (some ⟨gp, 0, none⟩) 512 c] ∧ w'.ownsRow w.heap.size 2 1 (.slice (some ⟨gp, 0, none⟩) 512 c) 512 ((List.range 512).map fun j => .int .i64 (((fun _ : Nat => 1024) j : Nat) : Int))
theorem own_sl512 {w : World} {B : Nat} {v : Value} {xs : List Value} (h : w.ownsRow B 2 1 v 512 xs) : ∃ gp c, v = .slice (some ⟨gp, 0, none⟩) 512 c := by
  obtain ⟨_, ⟨_, h0⟩ | ⟨g', cap, cur, h1, _⟩⟩ := h
  · omega
  · exact ⟨_, _, h1⟩
theorem own_five {w : World} {B n z g : Nat} {e : TypeId} {v : Value} {xs : List Value} (h : w.ownsRow B e z v n xs) (hne : v.ownBlock ≠ some g) (a0 a1 a2 a3 a4 : Value) : (((((w.setCell ⟨g, 0, none⟩ a0).setCell ⟨g, 1, none⟩ a1).setCell ⟨g, 2, none⟩ a2).setCell ⟨g, 3, none⟩ a3).setCell ⟨g, 4, none⟩ a4).ownsRow B e z v n xs :=
  ((((h.kept (grownBy_setC _ g 0 _) (Or.inr hne)).kept (grownBy_setC _ g 1 _) (Or.inr hne)).kept (grownBy_setC _ g 2 _) (Or.inr hne)).kept (grownBy_setC _ g 3 _) (Or.inr hne)).kept (grownBy_setC _ g 4 _) (Or.inr hne)
set_option maxRecDepth 100000 in
set_option maxHeartbeats 2000000 in
theorem sbegin_yes (S : ByteArray) (w : World) (hs : S.size ≤ 1099511627776) (h : startOk S) :
    Calls Try.prog 22 #[.string S] w fun e w' => (∃ v, e = .returned v ∧ BGN w w' v (code0 S) (rest0 S) false) ∧ Below w.heap.size w w' := by
  have HP : Hid (∀ w, Calls Try.prog 45 #[] w fun e w' => (∃ v, e = .returned v ∧ w'.ownsRow w.heap.size 2 1 v 512 (List.replicate 512 (.int .i64 1024))) ∧ Below w.heap.size w w') := fun w => probs_any w
  obtain ⟨h5, hb0⟩ := h
  have h5I : ¬ (S.size : Int) < 5 := by omega
  have h5J : (5 : Int) ≤ (S.size : Int) := by omega
  have i0 : (0 : Int) < (S.size : Int) := by omega
  have i1 : (1 : Int) < (S.size : Int) := by omega
  have i2 : (2 : Int) < (S.size : Int) := by omega
  have i3 : (3 : Int) < (S.size : Int) := by omega
  have i4 : (4 : Int) < (S.size : Int) := by omega
  have b0 := bsOf_at S 0 (by omega)
  have b1 := bsOf_at S 1 (by omega)
  have b2 := bsOf_at S 2 (by omega)
  have b3 := bsOf_at S 3 (by omega)
  have b4 := bsOf_at S 4 (by omega)
  have l1 := bsOf_lt S 1
  have l2 := bsOf_lt S 2
  have l3 := bsOf_lt S 3
  have l4 := bsOf_lt S 4
  rw [hb0] at b0
  have hor := or_word _ _ _ _ l1 l2 l3 l4
  rw [← code0_eq] at hor
  unfold rest0
  generalize code0 S = cd at hor ⊢
  generalize bsOf S 1 = x1 at b1 l1 hor
  generalize bsOf S 2 = x2 at b2 l2 hor
  generalize bsOf S 3 = x3 at b3 l3 hor
  generalize bsOf S 4 = x4 at b4 l4 hor
  have c1 : IntKind.u32.wrap (x1 : Int) = (x1 : Int) := by rw [IntKind.wrap_u32]; omega
  have c2 : IntKind.u32.wrap (x2 : Int) = (x2 : Int) := by rw [IntKind.wrap_u32]; omega
  have c3 : IntKind.u32.wrap (x3 : Int) = (x3 : Int) := by rw [IntKind.wrap_u32]; omega
  have c4 : IntKind.u32.wrap (x4 : Int) = (x4 : Int) := by rw [IntKind.wrap_u32]; omega
  have d1 : IntKind.u32.wrap ((x1 : Int) * 16777216) = (x1 : Int) * 16777216 := by rw [IntKind.wrap_u32]; omega
  have d2 : IntKind.u32.wrap ((x2 : Int) * 65536) = (x2 : Int) * 65536 := by rw [IntKind.wrap_u32]; omega
  have d3 : IntKind.u32.wrap ((x3 : Int) * 256) = (x3 : Int) * 256 := by rw [IntKind.wrap_u32]; omega
  have h5N : 5 ≤ S.size := h5
  clear hb0 l1 l2 l3 l4
  go_enter Try.func22, Try.ntmps22
  go_wp2_with fail
  refine (HP.out _).mono ?_
  rintro e w1 ⟨⟨v, rfl, ho⟩, hb1⟩
  obtain ⟨gp, c, rfl⟩ := own_sl512 ho
  rw [pr0_row] at ho
  have hr2 := (hb1.block _ (by simp)).trans (heap_alloc_new w (.cells #[.int .u32 0, .int .u32 0, .string ⟨#[]⟩, .bool false, .slice none 0 0] 45))
  have hbw : Below w.heap.size w w1 := ((Below.refl _ _).alloc (Nat.le_refl _) _).trans (hb1.mono (by simp))
  have hlt1 : w.heap.size < w1.heap.size := (Array.getElem?_eq_some_iff.1 hr2).1
  obtain ⟨W, hW⟩ : ∃ W, W = w1.alloc (.cells #[.int .u32 0, .int .u32 4294967295, .string ⟨#[]⟩, .bool false, .slice (some ⟨gp, 0, none⟩) 512 c] 45) := ⟨_, rfl⟩
  have ho2 : W.ownsRow w.heap.size 2 1 (.slice (some ⟨gp, 0, none⟩) 512 c) 512 ((List.range 512).map fun j => .int .i64 (((fun _ : Nat => 1024) j : Nat) : Int)) := by rw [hW]; exact (owns_lower ho (by simp)).alloc _
  have h3 : W.heap[w1.heap.size]? = some (.cells #[.int .u32 0, .int .u32 4294967295, .string ⟨#[]⟩, .bool false, .slice (some ⟨gp, 0, none⟩) 512 c] 45 (0, 0)) := by rw [hW]; exact heap_alloc_new w1 _
  have h2 : W.heap[w.heap.size]? = some (.cells #[.int .u32 0, .int .u32 0, .string ⟨#[]⟩, .bool false, .slice none 0 0] 45 (0, 0)) := by rw [hW, Below.heap_alloc _ _ _ hlt1]; exact hr2
  have hb : Below w.heap.size w W := by rw [hW]; exact hbw.alloc hbw.size _
  have HO := hidS ho2
  have H3 := hidS h3
  have H2 := hidS h2
  have HB := hidS hb
  have HL := hidS hlt1
  have hne : w.heap.size ≠ w1.heap.size := by omega
  have HNE := hidS hne
  have z3 := frozen_of_row W w1.heap.size 3 _ _ h3
  have z0 := frozen_of_row W w1.heap.size 0 _ _ h3
  have k0 : W.cell? ⟨w1.heap.size, 0, none⟩ = some (.int .u32 0) := cell_of_row _ _ _ _ _ _ h3
  have k3 : W.cell? ⟨w1.heap.size, 3, none⟩ = some (.bool false) := cell_of_row _ _ _ _ _ _ h3
  have hi5 : Option.map (·.size) (Try.prog.info? 45) = some 5 := by kernel_rfl
  have HI5 := hidS hi5
  clear ho hr2 hbw ho2 h3 h2 hb hb1 hlt1 hne hi5
  go_wp2_with fail
  rw [← hW]
  clear hW
  go_region
  obtain ⟨W5, hW5⟩ : ∃ W5, W5 = (W.setCell ⟨w1.heap.size, 0, none⟩ (.int .u32 (cd : Int))).drew := ⟨_, rfl⟩
  rw [← hW5]
  have h35 : W5.heap[w1.heap.size]? = some (.cells #[.int .u32 (cd : Int), .int .u32 4294967295, .string ⟨#[]⟩, .bool false, .slice (some ⟨gp, 0, none⟩) 512 c] 45 (0, 0)) := by rw [hW5]; exact heap_setCell_same _ _ _ _ _ _ H3.out
  have h25 : W5.heap[w.heap.size]? = some (.cells #[.int .u32 0, .int .u32 0, .string ⟨#[]⟩, .bool false, .slice none 0 0] 45 (0, 0)) := by rw [hW5]; exact (heap_setCell_other _ _ _ _ HNE.out).trans H2.out
  have ho5 : W5.ownsRow w.heap.size 2 1 (.slice (some ⟨gp, 0, none⟩) 512 c) 512 ((List.range 512).map fun j => .int .i64 (((fun _ : Nat => 1024) j : Nat) : Int)) := by rw [hW5]; exact World.ownsRow.kept (w' := W.setCell ⟨w1.heap.size, 0, none⟩ (.int .u32 (cd : Int))) HO.out (grownBy_setC _ w1.heap.size 0 _) (Or.inr (fun e => row_apartE (by decide) HO.out H3.out e.symm))
  have hb5 : Below w.heap.size w W5 := by rw [hW5]; exact (HB.out.setCell (p := ⟨w1.heap.size, 0, none⟩) (Nat.le_of_lt HL.out) _).drew
  have H35 := hidS h35
  have H25 := hidS h25
  have HO5 := hidS ho5
  have HB5 := hidS hb5
  clear h35 h25 ho5 hb5
  obtain ⟨W6, hW6⟩ : ∃ W6, W6 = W5.setCell ⟨w1.heap.size, 2, none⟩ (.string (S.extract 5 S.size)) := ⟨_, rfl⟩
  have h36 : W6.heap[w1.heap.size]? = some (.cells #[.int .u32 (cd : Int), .int .u32 4294967295, .string (S.extract 5 S.size), .bool false, .slice (some ⟨gp, 0, none⟩) 512 c] 45 (0, 0)) := by rw [hW6]; exact heap_setCell_same _ _ _ _ _ _ H35.out
  have h26 : W6.heap[w.heap.size]? = some (.cells #[.int .u32 0, .int .u32 0, .string ⟨#[]⟩, .bool false, .slice none 0 0] 45 (0, 0)) := by rw [hW6, heap_setCell_other _ _ _ _ HNE.out]; exact H25.out
  have ho6 : W6.ownsRow w.heap.size 2 1 (.slice (some ⟨gp, 0, none⟩) 512 c) 512 ((List.range 512).map fun j => .int .i64 (((fun _ : Nat => 1024) j : Nat) : Int)) := by rw [hW6]; exact HO5.out.kept (grownBy_setC _ w1.heap.size 2 _) (Or.inr (fun e => row_apartE (by decide) HO5.out H35.out e.symm))
  have hb6 : Below w.heap.size w W6 := by rw [hW6]; exact HB5.out.setCell (p := ⟨w1.heap.size, 2, none⟩) (Nat.le_of_lt HL.out) _
  have H36 := hidS h36
  have H26 := hidS h26
  have HO6 := hidS ho6
  have HB6 := hidS hb6
  clear h36 h26 ho6 hb6
  have v2 : W5.cell? ⟨w1.heap.size, 2, none⟩ = some (.string ⟨#[]⟩) := cell_of_row _ _ _ _ _ _ H35.out
  have u2 := frozen_of_row W5 w1.heap.size 2 _ _ H35.out
  clear hW5 k0 k3 z0 z3 c1 c2 c3 c4 d1 d2 d3 hor b0 b1 b2 b3 b4 h5N
  subst hW6
  have q0 : World.cell? _ ⟨w.heap.size, 0, none⟩ = some (.int .u32 0) := cell_of_row _ _ _ _ _ _ H26.out
  have q1 : World.cell? _ ⟨w.heap.size, 1, none⟩ = some (.int .u32 0) := cell_of_row _ _ _ _ _ _ H26.out
  have q2 : World.cell? _ ⟨w.heap.size, 2, none⟩ = some (.string ⟨#[]⟩) := cell_of_row _ _ _ _ _ _ H26.out
  have q3 : World.cell? _ ⟨w.heap.size, 3, none⟩ = some (.bool false) := cell_of_row _ _ _ _ _ _ H26.out
  have q4 : World.cell? _ ⟨w.heap.size, 4, none⟩ = some (.slice none 0 0) := cell_of_row _ _ _ _ _ _ H26.out
  have y0 := frozen_of_row _ w.heap.size 0 _ _ H26.out
  have y1 := frozen_of_row _ w.heap.size 1 _ _ H26.out
  have y2 := frozen_of_row _ w.heap.size 2 _ _ H26.out
  have y3 := frozen_of_row _ w.heap.size 3 _ _ H26.out
  have y4 := frozen_of_row _ w.heap.size 4 _ _ H26.out
  have hi5 := HI5.out
  go_wp2_with (refine wpList_load_row rfl 45 _ rfl (w1.heap.size) rfl 45 #[.int .u32 (cd : Int), .int .u32 4294967295, .string (S.extract 5 S.size), .bool false, .slice (some ⟨gp, 0, none⟩) 512 c] (0, 0) _ H36.out Try.underlying45 rfl hi5 ?_)
  refine bodyPost_ret (results_cell_row rfl _ _ w.heap.size 45 #[.int .u32 (cd : Int), .int .u32 4294967295, .string (S.extract 5 S.size), .bool false, .slice (some ⟨gp, 0, none⟩) 512 c] (0, 0) _ rfl (heap_setCell_same _ _ _ _ _ _ (heap_setCell_same _ _ _ _ _ _ (heap_setCell_same _ _ _ _ _ _ (heap_setCell_same _ _ _ _ _ _ (heap_setCell_same _ _ _ _ _ _ H26.out))))) Try.underlying45 rfl (by kernel_rfl)) rfl ⟨⟨_, rfl, gp, c, rfl, own_five HO6.out (fun e => row_apartE (by decide) HO6.out H26.out e.symm) _ _ _ _ _⟩, (((((HB6.out.setCell (p := ⟨w.heap.size, 0, none⟩) (Nat.le_refl _) _).setCell (p := ⟨w.heap.size, 1, none⟩) (Nat.le_refl _) _).setCell (p := ⟨w.heap.size, 2, none⟩) (Nat.le_refl _) _).setCell (p := ⟨w.heap.size, 3, none⟩) (Nat.le_refl _) _).setCell (p := ⟨w.heap.size, 4, none⟩) (Nat.le_refl _) _)⟩
set_option maxRecDepth 100000 in
set_option maxHeartbeats 2000000 in
theorem sbegin_no (S : ByteArray) (w : World) (hs : S.size ≤ 1099511627776) (h : ¬ startOk S) :
    Calls Try.prog 22 #[.string S] w fun e w' => (∃ v, e = .returned v ∧ BGN w w' v (0) (⟨#[]⟩) true) ∧ Below w.heap.size w w' := by
  have HP : Hid (∀ w, Calls Try.prog 45 #[] w fun e w' => (∃ v, e = .returned v ∧ w'.ownsRow w.heap.size 2 1 v 512 (List.replicate 512 (.int .i64 1024))) ∧ Below w.heap.size w w') := fun w => probs_any w
  have hg : ((S.size : Int) < 5) ∨ (¬ (S.size : Int) < 5 ∧ (0 : Int) < (S.size : Int) ∧ ∃ h0 : 0 < S.size, ((S[0].toNat : Nat) : Int) ≠ 0) := by
    by_cases h5 : S.size < 5
    · exact Or.inl (by omega)
    · refine Or.inr ⟨by omega, by omega, by omega, fun e => h ⟨by omega, ?_⟩⟩
      rw [← bsOf_at S 0 (by omega)]; omega
  clear h
  go_enter Try.func22, Try.ntmps22
  go_wp2_with fail
  refine (HP.out _).mono ?_
  rintro e w1 ⟨⟨v, rfl, ho⟩, hb1⟩
  obtain ⟨gp, c, rfl⟩ := own_sl512 ho
  rw [pr0_row] at ho
  have hr2 := (hb1.block _ (by simp)).trans (heap_alloc_new w (.cells #[.int .u32 0, .int .u32 0, .string ⟨#[]⟩, .bool false, .slice none 0 0] 45))
  have hbw : Below w.heap.size w w1 := ((Below.refl _ _).alloc (Nat.le_refl _) _).trans (hb1.mono (by simp))
  have hlt1 : w.heap.size < w1.heap.size := (Array.getElem?_eq_some_iff.1 hr2).1
  obtain ⟨W, hW⟩ : ∃ W, W = w1.alloc (.cells #[.int .u32 0, .int .u32 4294967295, .string ⟨#[]⟩, .bool true, .slice (some ⟨gp, 0, none⟩) 512 c] 45) := ⟨_, rfl⟩
  have ho2 : W.ownsRow w.heap.size 2 1 (.slice (some ⟨gp, 0, none⟩) 512 c) 512 ((List.range 512).map fun j => .int .i64 (((fun _ : Nat => 1024) j : Nat) : Int)) := by rw [hW]; exact (owns_lower ho (by simp)).alloc _
  have h3 : W.heap[w1.heap.size]? = some (.cells #[.int .u32 0, .int .u32 4294967295, .string ⟨#[]⟩, .bool true, .slice (some ⟨gp, 0, none⟩) 512 c] 45 (0, 0)) := by rw [hW]; exact heap_alloc_new w1 _
  have h2 : W.heap[w.heap.size]? = some (.cells #[.int .u32 0, .int .u32 0, .string ⟨#[]⟩, .bool false, .slice none 0 0] 45 (0, 0)) := by rw [hW, Below.heap_alloc _ _ _ hlt1]; exact hr2
  have hb : Below w.heap.size w W := by rw [hW]; exact hbw.alloc hbw.size _
  have HO := hidS ho2
  have H3 := hidS h3
  have H2 := hidS h2
  have HB := hidS hb
  have HL := hidS hlt1
  have hne : w.heap.size ≠ w1.heap.size := by omega
  have HNE := hidS hne
  have z3 := frozen_of_row W w1.heap.size 3 _ _ h3
  have z0 := frozen_of_row W w1.heap.size 0 _ _ h3
  have k0 : W.cell? ⟨w1.heap.size, 0, none⟩ = some (.int .u32 0) := cell_of_row _ _ _ _ _ _ h3
  have k3 : W.cell? ⟨w1.heap.size, 3, none⟩ = some (.bool true) := cell_of_row _ _ _ _ _ _ h3
  have hi5 : Option.map (·.size) (Try.prog.info? 45) = some 5 := by kernel_rfl
  have HI5 := hidS hi5
  clear ho hr2 hbw ho2 h3 h2 hb hb1 hlt1 hne hi5
  rcases hg with h5I | ⟨h5I, h0I, h0N, hne0⟩
  · subst hW
    have q0 : World.cell? _ ⟨w.heap.size, 0, none⟩ = some (.int .u32 0) := cell_of_row _ _ _ _ _ _ H2.out
    have q1 : World.cell? _ ⟨w.heap.size, 1, none⟩ = some (.int .u32 0) := cell_of_row _ _ _ _ _ _ H2.out
    have q2 : World.cell? _ ⟨w.heap.size, 2, none⟩ = some (.string ⟨#[]⟩) := cell_of_row _ _ _ _ _ _ H2.out
    have q3 : World.cell? _ ⟨w.heap.size, 3, none⟩ = some (.bool false) := cell_of_row _ _ _ _ _ _ H2.out
    have q4 : World.cell? _ ⟨w.heap.size, 4, none⟩ = some (.slice none 0 0) := cell_of_row _ _ _ _ _ _ H2.out
    have y0 := frozen_of_row _ w.heap.size 0 _ _ H2.out
    have y1 := frozen_of_row _ w.heap.size 1 _ _ H2.out
    have y2 := frozen_of_row _ w.heap.size 2 _ _ H2.out
    have y3 := frozen_of_row _ w.heap.size 3 _ _ H2.out
    have y4 := frozen_of_row _ w.heap.size 4 _ _ H2.out
    have hi5 := HI5.out
    go_wp2_with (refine wpList_load_row rfl 45 _ rfl (w1.heap.size) rfl 45 #[.int .u32 0, .int .u32 4294967295, .string ⟨#[]⟩, .bool true, .slice (some ⟨gp, 0, none⟩) 512 c] (0, 0) _ H3.out Try.underlying45 rfl hi5 ?_)
    refine bodyPost_ret (results_cell_row rfl _ _ w.heap.size 45 #[.int .u32 0, .int .u32 4294967295, .string ⟨#[]⟩, .bool true, .slice (some ⟨gp, 0, none⟩) 512 c] (0, 0) _ rfl (heap_setCell_same _ _ _ _ _ _ (heap_setCell_same _ _ _ _ _ _ (heap_setCell_same _ _ _ _ _ _ (heap_setCell_same _ _ _ _ _ _ (heap_setCell_same _ _ _ _ _ _ H2.out))))) Try.underlying45 rfl (by kernel_rfl)) rfl ⟨⟨_, rfl, gp, c, rfl, own_five HO.out (fun e => row_apartE (by decide) HO.out H2.out e.symm) _ _ _ _ _⟩, (((((HB.out.setCell (p := ⟨w.heap.size, 0, none⟩) (Nat.le_refl _) _).setCell (p := ⟨w.heap.size, 1, none⟩) (Nat.le_refl _) _).setCell (p := ⟨w.heap.size, 2, none⟩) (Nat.le_refl _) _).setCell (p := ⟨w.heap.size, 3, none⟩) (Nat.le_refl _) _).setCell (p := ⟨w.heap.size, 4, none⟩) (Nat.le_refl _) _)⟩
  · have hnb : (((S[0].toNat : Nat) : Int) == 0) = false := beq_eq_false_iff_ne.2 hne0
    have hnb2 : (((S[0].toNat : Nat) : Int) != 0) = true := by rw [bne, hnb]; rfl
    subst hW
    have q0 : World.cell? _ ⟨w.heap.size, 0, none⟩ = some (.int .u32 0) := cell_of_row _ _ _ _ _ _ H2.out
    have q1 : World.cell? _ ⟨w.heap.size, 1, none⟩ = some (.int .u32 0) := cell_of_row _ _ _ _ _ _ H2.out
    have q2 : World.cell? _ ⟨w.heap.size, 2, none⟩ = some (.string ⟨#[]⟩) := cell_of_row _ _ _ _ _ _ H2.out
    have q3 : World.cell? _ ⟨w.heap.size, 3, none⟩ = some (.bool false) := cell_of_row _ _ _ _ _ _ H2.out
    have q4 : World.cell? _ ⟨w.heap.size, 4, none⟩ = some (.slice none 0 0) := cell_of_row _ _ _ _ _ _ H2.out
    have y0 := frozen_of_row _ w.heap.size 0 _ _ H2.out
    have y1 := frozen_of_row _ w.heap.size 1 _ _ H2.out
    have y2 := frozen_of_row _ w.heap.size 2 _ _ H2.out
    have y3 := frozen_of_row _ w.heap.size 3 _ _ H2.out
    have y4 := frozen_of_row _ w.heap.size 4 _ _ H2.out
    have hi5 := HI5.out
    go_wp2_with (refine wpList_load_row rfl 45 _ rfl (w1.heap.size) rfl 45 #[.int .u32 0, .int .u32 4294967295, .string ⟨#[]⟩, .bool true, .slice (some ⟨gp, 0, none⟩) 512 c] (0, 0) _ H3.out Try.underlying45 rfl hi5 ?_)
    refine bodyPost_ret (results_cell_row rfl _ _ w.heap.size 45 #[.int .u32 0, .int .u32 4294967295, .string ⟨#[]⟩, .bool true, .slice (some ⟨gp, 0, none⟩) 512 c] (0, 0) _ rfl (heap_setCell_same _ _ _ _ _ _ (heap_setCell_same _ _ _ _ _ _ (heap_setCell_same _ _ _ _ _ _ (heap_setCell_same _ _ _ _ _ _ (heap_setCell_same _ _ _ _ _ _ H2.out))))) Try.underlying45 rfl (by kernel_rfl)) rfl ⟨⟨_, rfl, gp, c, rfl, own_five HO.out (fun e => row_apartE (by decide) HO.out H2.out e.symm) _ _ _ _ _⟩, (((((HB.out.setCell (p := ⟨w.heap.size, 0, none⟩) (Nat.le_refl _) _).setCell (p := ⟨w.heap.size, 1, none⟩) (Nat.le_refl _) _).setCell (p := ⟨w.heap.size, 2, none⟩) (Nat.le_refl _) _).setCell (p := ⟨w.heap.size, 3, none⟩) (Nat.le_refl _) _).setCell (p := ⟨w.heap.size, 4, none⟩) (Nat.le_refl _) _)⟩
end Go.Proofs.Ytibciflmalfbjaa
