/-
  Several texts of this seat as one: SdK, SdU, MtL.
-/
import Derived.Test.YtbkjcngehhdchaaPk28
import Derived.Test.YtbkjcngehhdchaaPk21
import Derived.OwnWalk

/-!   The specification's reader of ranges: a number of so many bits, and how it begins. -/
namespace Go.Proofs.Ytbkjcngehhdchaa
open Go.RowKit
set_option linter.unusedVariables false
set_option linter.unusedSimpArgs false
theorem thS_fine (f : Nat) (v : Int) : ∀ (k nd : Nat) (s : DS × Bool), s.1.Fine → (thT sbitR snxtR f v k nd s).1.1.Fine
  | 0, _, _, h => h
  | k + 1, nd, s, h => thS_fine f v k _ _ (sgo_fine h _)
set_option maxRecDepth 100000 in
set_option maxHeartbeats 1000000 in
theorem sk7_any {w : World} {B g : Nat} {sb : DS × Bool} (f nb : Nat) (fI nbI v : Int) (hfI : fI = (f : Int)) (hnI : nbI = (nb : Int)) (hs : sb.1.Fine) (hD : SDAt w B g sb) (hnb : nb = 8 ∨ nb = 6) (hf : f ≤ 400 ∧ (nb = 8 → f ≤ 1)) :
    Calls Try.prog 62 #[.pointer (some ⟨g, 0, none⟩), .int .i64 fI, .int .i64 nbI] w fun e w' => e = .returned (.int .i64 (((thT sbitR snxtR f v nb 1 sb).2 - 2 ^ nb : Nat) : Int)) ∧ (SDAt w' B g (thT sbitR snxtR f v nb 1 sb).1 ∧ FRS w w' B g) := by
  have HTK : Hid (∀ w sb x, sb.1.Fine → SDAt w B g sb → x < 512 → Calls Try.prog 61 #[.pointer (some ⟨g, 0, none⟩), .int .i64 ((x : Nat) : Int)] w fun e w' => e = .returned (.int .i64 ((stell sb x : Nat) : Int)) ∧ SDAt w' B g (sgo sb x) ∧ FRS w w' B g) := fun w sb x h1 h2 h3 => sdtake_any h1 h2 h3
  obtain ⟨R, hR⟩ : ∃ R, R = thT sbitR snxtR f v nb 1 sb := ⟨_, rfl⟩
  have HR : Hid (R = thT sbitR snxtR f v nb 1 sb) := hR
  rw [← hR]
  have HS0 : Hid (sb.1.Fine ∧ SDAt w B g sb) := ⟨hs, hD⟩
  have HFB : Hid (nb ≤ 8 ∧ ∀ j d, j < nb → d < 2 ^ (j + 1) → f + d < 512) := by
    rcases hnb with rfl | rfl
    · refine ⟨by omega, fun j d hj hd => ?_⟩
      have := hf.2 rfl
      have : 2 ^ (j + 1) ≤ 2 ^ 8 := Nat.pow_le_pow_right (by omega) (by omega)
      omega
    · refine ⟨by omega, fun j d hj hd => ?_⟩
      have : 2 ^ (j + 1) ≤ 2 ^ 6 := Nat.pow_le_pow_right (by omega) (by omega)
      omega
  have HN : Hid (nb = 8 ∨ nb = 6) := hnb
  have hnb8 : nb ≤ 8 := HFB.out.1
  have hf4 := hf.1
  subst hfI
  subst hnI
  clear hR hs hD hnb hf
  go_enter Try.func62, Try.ntmps62
  go_wp2_with fail
  go_loopw [7, 8] (fun y i wr => ∃ (k d : Nat) (s1 : DS × Bool), y = .int .i64 (d : Int) ∧ i = .int .i64 (k : Int) ∧ k ≤ nb ∧ d < 2 ^ (k + 1) ∧ 2 ^ k ≤ d ∧ Hid (R = thT sbitR snxtR f v (nb - k) d s1) ∧ Hid (s1.1.Fine ∧ SDAt wr B g s1 ∧ FRS w wr B g)) (fun _ i _ => nb - (nIntT i).toNat)
  case atStart => exact ⟨0, 1, sb, rfl, rfl, Nat.zero_le _, by decide, by decide, HR, ⟨HS0.out.1, HS0.out.2, FRS.refl _ _ _⟩⟩
  case round =>
    obtain ⟨k, d, s1, rfl, rfl, hk, hd, hd1, HRR, HK⟩ := hrel
    have hd9 : d < 512 := Nat.lt_of_lt_of_le hd (Nat.pow_le_pow_right (by omega) (by omega : k + 1 ≤ 9))
    by_cases hk0 : k < nb
    · have hkI : (k : Int) < (nb : Int) := by omega
      obtain ⟨z, hz⟩ : ∃ z, z = f + d := ⟨_, rfl⟩
      have hz5 : z < 512 := by
        have := HFB.out.2 k d hk0 hd
        omega
      have hw1 : IntKind.i64.wrap ((f : Int) + (d : Int)) = (z : Int) := by rw [IntKind.wrap_i64]; omega
      have hw1b : (f : Int) + (d : Int) = (z : Int) := by omega
      have hw2 : IntKind.i64.wrap (2 * (d : Int)) = 2 * (d : Int) := by rw [IntKind.wrap_i64]; omega
      have hb := stell_lt s1 z
      have hP := HTK.out wr s1 z HK.out.1 HK.out.2.1 hz5
      have hFn := sgo_fine HK.out.1 z
      obtain ⟨bt, hbt⟩ : ∃ bt, bt = stell s1 z := ⟨_, rfl⟩
      rw [← hbt] at hb hP
      obtain ⟨nd, hnd⟩ : ∃ nd, nd = 2 * d + bt := ⟨_, rfl⟩
      have hw3b : 2 * (d : Int) + (bt : Int) = (nd : Int) := by omega
      have hw3 : IntKind.i64.wrap (nd : Int) = (nd : Int) := by rw [IntKind.wrap_i64]; omega
      have HRN : Hid (R = thT sbitR snxtR f v (nb - (k + 1)) nd (sgo s1 z)) := by
        show R = _
        have e : nb - k = (nb - (k + 1)) + 1 := by omega
        rw [HRR.out, e, thT, ← hz]
        show thT sbitR snxtR f v (nb - (k + 1)) (2 * d + stell s1 z) (sgo s1 z) = _
        rw [← hbt, ← hnd]
      have hnd2 : nd < 2 ^ (k + 1 + 1) ∧ 2 ^ (k + 1) ≤ nd := by
        rw [Nat.pow_succ 2 (k + 1), Nat.pow_succ]
        rw [Nat.pow_succ] at hd
        omega
      have HP := hidS hP
      have HFN := hidS hFn
      have HFR := hidS HK.out.2.2
      clear hd hd1 HRR hz hbt hnd hP hFn HK
      go_wp2_with fail
      refine (HP.out).mono ?_
      rintro e w5 ⟨rfl, hD5, hF5⟩
      have H5 : Hid ((sgo s1 z).1.Fine ∧ SDAt w5 B g (sgo s1 z) ∧ FRS w w5 B g) := ⟨HFN.out, hD5, HFR.out.trans hF5⟩
      clear hD5 hF5 HFR HFN
      go_wp2_with fail
      go_roundw
      case rel => exact ⟨k + 1, nd, sgo s1 z, rfl, by go_num, by omega, hnd2.1, hnd2.2, HRN, H5⟩
      case measure => simp [nIntT]; omega
    · obtain rfl : k = nb := by omega
      have hR : R = (s1, d) := by rw [HRR.out, Nat.sub_self]; rfl
      have HF : Hid (R = (s1, d) ∧ 2 ^ k ≤ d ∧ SDAt wr B g s1 ∧ FRS w wr B g) := ⟨hR, hd1, HK.out.2⟩
      clear hd hd1 HRR HK hk hR hk0
      rcases HN.out with e | e
      · subst e
        have hge : (256 : Nat) ≤ d := HF.out.2.1
        have hsb : (d : Int) - 256 = ((d - 256 : Nat) : Int) := by omega
        have hsw : IntKind.i64.wrap ((d : Int) - 256) = ((d - 256 : Nat) : Int) := by rw [IntKind.wrap_i64]; omega
        go_wp2_with fail
        go_ret
        exact ⟨by rw [HF.out.1]; first | rfl | (simp only []; rw [← hsb]; rfl), by rw [HF.out.1]; exact HF.out.2.2⟩
      · subst e
        have hge : (64 : Nat) ≤ d := HF.out.2.1
        have hsb : (d : Int) - 64 = ((d - 64 : Nat) : Int) := by omega
        have hsw : IntKind.i64.wrap ((d : Int) - 64) = ((d - 64 : Nat) : Int) := by rw [IntKind.wrap_i64]; omega
        go_wp2_with fail
        go_ret
        exact ⟨by rw [HF.out.1]; first | rfl | (simp only []; rw [← hsb]; rfl), by rw [HF.out.1]; exact HF.out.2.2⟩
theorem bsOf_drop (S : ByteArray) (k j : Nat) : bsOf (S.extract k S.size) j = bsOf S (k + j) := by
  unfold bsOf
  rw [Lib.extract_to_end, List.getD_eq_getElem?_getD, List.getD_eq_getElem?_getD, List.getElem?_drop]
theorem code0_eq (S : ByteArray) : code0 S = ((bsOf S 1 * 256 + bsOf S 2) * 256 + bsOf S 3) * 256 + bsOf S 4 := by
  unfold code0
  simp only [pt, bsOf_drop]
  show ((((0 * 256 + bsOf S (1 + 0)) * 256 + bsOf S (1 + 1)) * 256 + bsOf S (1 + 2)) * 256 + bsOf S (1 + 3)) = _
  rw [Nat.zero_mul, Nat.zero_add]
theorem pr0_row : (List.replicate 512 (Value.int .i64 1024)) = (List.range 512).map fun j => Value.int .i64 (((fun _ : Nat => 1024) j : Nat) : Int) := by
  apply List.ext_getElem
  · rw [List.length_replicate, List.length_map, List.length_range]
  · intro i h1 h2
    rw [List.getElem_replicate, List.getElem_map]; rfl
/-- what l5Begin answers -/
def BGN (w w' : World) (v : Value) (cd : Nat) (R : ByteArray) (bad : Bool) : Prop := ∃ gp c, v = .agg #[.int .u32 (cd : Int), .int .u32 4294967295, .string R, .bool bad, .slice (some ⟨gp, 0, none⟩) 512 c] ∧ w'.ownsRow w.heap.size 2 1 (.slice (some ⟨gp, 0, none⟩) 512 c) 512 ((List.range 512).map fun j => .int .i64 (((fun _ : Nat => 1024) j : Nat) : Int))
theorem own_sl512 {w : World} {B : Nat} {v : Value} {xs : List Value} (h : w.ownsRow B 2 1 v 512 xs) : ∃ gp c, v = .slice (some ⟨gp, 0, none⟩) 512 c := by
  obtain ⟨_, ⟨_, h0⟩ | ⟨g', cap, cur, h1, _⟩⟩ := h
  · omega
  · exact ⟨_, _, h1⟩
theorem own_five {w : World} {B n z g : Nat} {e : TypeId} {v : Value} {xs : List Value} (h : w.ownsRow B e z v n xs) (hne : v.ownBlock ≠ some g) (a0 a1 a2 a3 a4 : Value) : (((((w.setCell ⟨g, 0, none⟩ a0).setCell ⟨g, 1, none⟩ a1).setCell ⟨g, 2, none⟩ a2).setCell ⟨g, 3, none⟩ a3).setCell ⟨g, 4, none⟩ a4).ownsRow B e z v n xs :=
  ((((h.kept (grownBy_setC _ g 0 _) (Or.inr hne)).kept (grownBy_setC _ g 1 _) (Or.inr hne)).kept (grownBy_setC _ g 2 _) (Or.inr hne)).kept (grownBy_setC _ g 3 _) (Or.inr hne)).kept (grownBy_setC _ g 4 _) (Or.inr hne)
set_option maxRecDepth 100000 in
set_option maxHeartbeats 2000000 in
theorem sbegin_yes (S : ByteArray) (w : World) (hs : S.size ≤ 1099511627776) (h : startOk S) :
    Calls Try.prog 60 #[.string S] w fun e w' => (∃ v, e = .returned v ∧ BGN w w' v (code0 S) (rest0 S) false) ∧ Below w.heap.size w w' := by
  have HP : Hid (∀ w, Calls Try.prog 73 #[] w fun e w' => (∃ v, e = .returned v ∧ w'.ownsRow w.heap.size 2 1 v 512 (List.replicate 512 (.int .i64 1024))) ∧ Below w.heap.size w w') := fun w => probs_any w
  obtain ⟨h5, hb0⟩ := h
  have h5I : ¬ (S.size : Int) < 5 := by omega
  have h5J : (5 : Int) ≤ (S.size : Int) := by omega
  have i0 : (0 : Int) < (S.size : Int) := by omega
  have i1 : (1 : Int) < (S.size : Int) := by omega
  have i2 : (2 : Int) < (S.size : Int) := by omega
  have i3 : (3 : Int) < (S.size : Int) := by omega
  have i4 : (4 : Int) < (S.size : Int) := by omega
  have b0 := bsOf_at S 0 (by omega)
  have b1 := bsOf_at S 1 (by omega)
  have b2 := bsOf_at S 2 (by omega)
  have b3 := bsOf_at S 3 (by omega)
  have b4 := bsOf_at S 4 (by omega)
  have l1 := bsOf_lt S 1
  have l2 := bsOf_lt S 2
  have l3 := bsOf_lt S 3
  have l4 := bsOf_lt S 4
  rw [hb0] at b0
  have hor := or_word _ _ _ _ l1 l2 l3 l4
  rw [← code0_eq] at hor
  unfold rest0
  generalize code0 S = cd at hor ⊢
  generalize bsOf S 1 = x1 at b1 l1 hor
  generalize bsOf S 2 = x2 at b2 l2 hor
  generalize bsOf S 3 = x3 at b3 l3 hor
  generalize bsOf S 4 = x4 at b4 l4 hor
  have c1 : IntKind.u32.wrap (x1 : Int) = (x1 : Int) := by rw [IntKind.wrap_u32]; omega
  have c2 : IntKind.u32.wrap (x2 : Int) = (x2 : Int) := by rw [IntKind.wrap_u32]; omega
  have c3 : IntKind.u32.wrap (x3 : Int) = (x3 : Int) := by rw [IntKind.wrap_u32]; omega
  have c4 : IntKind.u32.wrap (x4 : Int) = (x4 : Int) := by rw [IntKind.wrap_u32]; omega
  have d1 : IntKind.u32.wrap ((x1 : Int) * 16777216) = (x1 : Int) * 16777216 := by rw [IntKind.wrap_u32]; omega
  have d2 : IntKind.u32.wrap ((x2 : Int) * 65536) = (x2 : Int) * 65536 := by rw [IntKind.wrap_u32]; omega
  have d3 : IntKind.u32.wrap ((x3 : Int) * 256) = (x3 : Int) * 256 := by rw [IntKind.wrap_u32]; omega
  have h5N : 5 ≤ S.size := h5
  clear hb0 l1 l2 l3 l4
  go_enter Try.func60, Try.ntmps60
  go_wp2_with fail
  refine (HP.out _).mono ?_
  rintro e w1 ⟨⟨v, rfl, ho⟩, hb1⟩
  obtain ⟨gp, c, rfl⟩ := own_sl512 ho
  rw [pr0_row] at ho
  have hr2 := (hb1.block _ (by simp)).trans (heap_alloc_new w (.cells #[.int .u32 0, .int .u32 0, .string ⟨#[]⟩, .bool false, .slice none 0 0] 89))
  have hbw : Below w.heap.size w w1 := ((Below.refl _ _).alloc (Nat.le_refl _) _).trans (hb1.mono (by simp))
  have hlt1 : w.heap.size < w1.heap.size := (Array.getElem?_eq_some_iff.1 hr2).1
  obtain ⟨W, hW⟩ : ∃ W, W = w1.alloc (.cells #[.int .u32 0, .int .u32 4294967295, .string ⟨#[]⟩, .bool false, .slice (some ⟨gp, 0, none⟩) 512 c] 89) := ⟨_, rfl⟩
  have ho2 : W.ownsRow w.heap.size 2 1 (.slice (some ⟨gp, 0, none⟩) 512 c) 512 ((List.range 512).map fun j => .int .i64 (((fun _ : Nat => 1024) j : Nat) : Int)) := by rw [hW]; exact (owns_lower ho (by simp)).alloc _
  have h3 : W.heap[w1.heap.size]? = some (.cells #[.int .u32 0, .int .u32 4294967295, .string ⟨#[]⟩, .bool false, .slice (some ⟨gp, 0, none⟩) 512 c] 89 (0, 0)) := by rw [hW]; exact heap_alloc_new w1 _
  have h2 : W.heap[w.heap.size]? = some (.cells #[.int .u32 0, .int .u32 0, .string ⟨#[]⟩, .bool false, .slice none 0 0] 89 (0, 0)) := by rw [hW, Below.heap_alloc _ _ _ hlt1]; exact hr2
  have hb : Below w.heap.size w W := by rw [hW]; exact hbw.alloc hbw.size _
  have HO := hidS ho2
  have H3 := hidS h3
  have H2 := hidS h2
  have HB := hidS hb
  have HL := hidS hlt1
  have hne : w.heap.size ≠ w1.heap.size := by omega
  have HNE := hidS hne
  have z3 := frozen_of_row W w1.heap.size 3 _ _ h3
  have z0 := frozen_of_row W w1.heap.size 0 _ _ h3
  have k0 : W.cell? ⟨w1.heap.size, 0, none⟩ = some (.int .u32 0) := cell_of_row _ _ _ _ _ _ h3
  have k3 : W.cell? ⟨w1.heap.size, 3, none⟩ = some (.bool false) := cell_of_row _ _ _ _ _ _ h3
  have hi5 : Option.map (·.size) (Try.prog.info? 89) = some 5 := by kernel_rfl
  have HI5 := hidS hi5
  clear ho hr2 hbw ho2 h3 h2 hb hb1 hlt1 hne hi5
  go_wp2_with fail
  rw [← hW]
  clear hW
  go_region
  obtain ⟨W5, hW5⟩ : ∃ W5, W5 = (W.setCell ⟨w1.heap.size, 0, none⟩ (.int .u32 (cd : Int))).drew := ⟨_, rfl⟩
  rw [← hW5]
  have h35 : W5.heap[w1.heap.size]? = some (.cells #[.int .u32 (cd : Int), .int .u32 4294967295, .string ⟨#[]⟩, .bool false, .slice (some ⟨gp, 0, none⟩) 512 c] 89 (0, 0)) := by rw [hW5]; exact heap_setCell_same _ _ _ _ _ _ H3.out
  have h25 : W5.heap[w.heap.size]? = some (.cells #[.int .u32 0, .int .u32 0, .string ⟨#[]⟩, .bool false, .slice none 0 0] 89 (0, 0)) := by rw [hW5]; exact (heap_setCell_other _ _ _ _ HNE.out).trans H2.out
  have ho5 : W5.ownsRow w.heap.size 2 1 (.slice (some ⟨gp, 0, none⟩) 512 c) 512 ((List.range 512).map fun j => .int .i64 (((fun _ : Nat => 1024) j : Nat) : Int)) := by rw [hW5]; exact World.ownsRow.kept (w' := W.setCell ⟨w1.heap.size, 0, none⟩ (.int .u32 (cd : Int))) HO.out (grownBy_setC _ w1.heap.size 0 _) (Or.inr (fun e => row_apartE (by decide) HO.out H3.out e.symm))
  have hb5 : Below w.heap.size w W5 := by rw [hW5]; exact (HB.out.setCell (p := ⟨w1.heap.size, 0, none⟩) (Nat.le_of_lt HL.out) _).drew
  have H35 := hidS h35
  have H25 := hidS h25
  have HO5 := hidS ho5
  have HB5 := hidS hb5
  clear h35 h25 ho5 hb5
  obtain ⟨W6, hW6⟩ : ∃ W6, W6 = W5.setCell ⟨w1.heap.size, 2, none⟩ (.string (S.extract 5 S.size)) := ⟨_, rfl⟩
  have h36 : W6.heap[w1.heap.size]? = some (.cells #[.int .u32 (cd : Int), .int .u32 4294967295, .string (S.extract 5 S.size), .bool false, .slice (some ⟨gp, 0, none⟩) 512 c] 89 (0, 0)) := by rw [hW6]; exact heap_setCell_same _ _ _ _ _ _ H35.out
  have h26 : W6.heap[w.heap.size]? = some (.cells #[.int .u32 0, .int .u32 0, .string ⟨#[]⟩, .bool false, .slice none 0 0] 89 (0, 0)) := by rw [hW6, heap_setCell_other _ _ _ _ HNE.out]; exact H25.out
  have ho6 : W6.ownsRow w.heap.size 2 1 (.slice (some ⟨gp, 0, none⟩) 512 c) 512 ((List.range 512).map fun j => .int .i64 (((fun _ : Nat => 1024) j : Nat) : Int)) := by rw [hW6]; exact HO5.out.kept (grownBy_setC _ w1.heap.size 2 _) (Or.inr (fun e => row_apartE (by decide) HO5.out H35.out e.symm))
  have hb6 : Below w.heap.size w W6 := by rw [hW6]; exact HB5.out.setCell (p := ⟨w1.heap.size, 2, none⟩) (Nat.le_of_lt HL.out) _
  have H36 := hidS h36
  have H26 := hidS h26
  have HO6 := hidS ho6
  have HB6 := hidS hb6
  clear h36 h26 ho6 hb6
  have v2 : W5.cell? ⟨w1.heap.size, 2, none⟩ = some (.string ⟨#[]⟩) := cell_of_row _ _ _ _ _ _ H35.out
  have u2 := frozen_of_row W5 w1.heap.size 2 _ _ H35.out
  clear hW5 k0 k3 z0 z3 c1 c2 c3 c4 d1 d2 d3 hor b0 b1 b2 b3 b4 h5N
  subst hW6
  have q0 : World.cell? _ ⟨w.heap.size, 0, none⟩ = some (.int .u32 0) := cell_of_row _ _ _ _ _ _ H26.out
  have q1 : World.cell? _ ⟨w.heap.size, 1, none⟩ = some (.int .u32 0) := cell_of_row _ _ _ _ _ _ H26.out
  have q2 : World.cell? _ ⟨w.heap.size, 2, none⟩ = some (.string ⟨#[]⟩) := cell_of_row _ _ _ _ _ _ H26.out
  have q3 : World.cell? _ ⟨w.heap.size, 3, none⟩ = some (.bool false) := cell_of_row _ _ _ _ _ _ H26.out
  have q4 : World.cell? _ ⟨w.heap.size, 4, none⟩ = some (.slice none 0 0) := cell_of_row _ _ _ _ _ _ H26.out
  have y0 := frozen_of_row _ w.heap.size 0 _ _ H26.out
  have y1 := frozen_of_row _ w.heap.size 1 _ _ H26.out
  have y2 := frozen_of_row _ w.heap.size 2 _ _ H26.out
  have y3 := frozen_of_row _ w.heap.size 3 _ _ H26.out
  have y4 := frozen_of_row _ w.heap.size 4 _ _ H26.out
  have hi5 := HI5.out
  go_wp2_with (refine wpList_load_row rfl 89 _ rfl (w1.heap.size) rfl 89 #[.int .u32 (cd : Int), .int .u32 4294967295, .string (S.extract 5 S.size), .bool false, .slice (some ⟨gp, 0, none⟩) 512 c] (0, 0) _ H36.out Try.underlying89 rfl hi5 ?_)
  refine bodyPost_ret (results_cell_row rfl _ _ w.heap.size 89 #[.int .u32 (cd : Int), .int .u32 4294967295, .string (S.extract 5 S.size), .bool false, .slice (some ⟨gp, 0, none⟩) 512 c] (0, 0) _ rfl (heap_setCell_same _ _ _ _ _ _ (heap_setCell_same _ _ _ _ _ _ (heap_setCell_same _ _ _ _ _ _ (heap_setCell_same _ _ _ _ _ _ (heap_setCell_same _ _ _ _ _ _ H26.out))))) Try.underlying89 rfl (by kernel_rfl)) rfl ⟨⟨_, rfl, gp, c, rfl, own_five HO6.out (fun e => row_apartE (by decide) HO6.out H26.out e.symm) _ _ _ _ _⟩, (((((HB6.out.setCell (p := ⟨w.heap.size, 0, none⟩) (Nat.le_refl _) _).setCell (p := ⟨w.heap.size, 1, none⟩) (Nat.le_refl _) _).setCell (p := ⟨w.heap.size, 2, none⟩) (Nat.le_refl _) _).setCell (p := ⟨w.heap.size, 3, none⟩) (Nat.le_refl _) _).setCell (p := ⟨w.heap.size, 4, none⟩) (Nat.le_refl _) _)⟩
set_option maxRecDepth 100000 in
set_option maxHeartbeats 2000000 in
theorem sbegin_no (S : ByteArray) (w : World) (hs : S.size ≤ 1099511627776) (h : ¬ startOk S) :
    Calls Try.prog 60 #[.string S] w fun e w' => (∃ v, e = .returned v ∧ BGN w w' v (0) (⟨#[]⟩) true) ∧ Below w.heap.size w w' := by
  have HP : Hid (∀ w, Calls Try.prog 73 #[] w fun e w' => (∃ v, e = .returned v ∧ w'.ownsRow w.heap.size 2 1 v 512 (List.replicate 512 (.int .i64 1024))) ∧ Below w.heap.size w w') := fun w => probs_any w
  have hg : ((S.size : Int) < 5) ∨ (¬ (S.size : Int) < 5 ∧ (0 : Int) < (S.size : Int) ∧ ∃ h0 : 0 < S.size, ((S[0].toNat : Nat) : Int) ≠ 0) := by
    by_cases h5 : S.size < 5
    · exact Or.inl (by omega)
    · refine Or.inr ⟨by omega, by omega, by omega, fun e => h ⟨by omega, ?_⟩⟩
      rw [← bsOf_at S 0 (by omega)]; omega
  clear h
  go_enter Try.func60, Try.ntmps60
  go_wp2_with fail
  refine (HP.out _).mono ?_
  rintro e w1 ⟨⟨v, rfl, ho⟩, hb1⟩
  obtain ⟨gp, c, rfl⟩ := own_sl512 ho
  rw [pr0_row] at ho
  have hr2 := (hb1.block _ (by simp)).trans (heap_alloc_new w (.cells #[.int .u32 0, .int .u32 0, .string ⟨#[]⟩, .bool false, .slice none 0 0] 89))
  have hbw : Below w.heap.size w w1 := ((Below.refl _ _).alloc (Nat.le_refl _) _).trans (hb1.mono (by simp))
  have hlt1 : w.heap.size < w1.heap.size := (Array.getElem?_eq_some_iff.1 hr2).1
  obtain ⟨W, hW⟩ : ∃ W, W = w1.alloc (.cells #[.int .u32 0, .int .u32 4294967295, .string ⟨#[]⟩, .bool true, .slice (some ⟨gp, 0, none⟩) 512 c] 89) := ⟨_, rfl⟩
  have ho2 : W.ownsRow w.heap.size 2 1 (.slice (some ⟨gp, 0, none⟩) 512 c) 512 ((List.range 512).map fun j => .int .i64 (((fun _ : Nat => 1024) j : Nat) : Int)) := by rw [hW]; exact (owns_lower ho (by simp)).alloc _
  have h3 : W.heap[w1.heap.size]? = some (.cells #[.int .u32 0, .int .u32 4294967295, .string ⟨#[]⟩, .bool true, .slice (some ⟨gp, 0, none⟩) 512 c] 89 (0, 0)) := by rw [hW]; exact heap_alloc_new w1 _
  have h2 : W.heap[w.heap.size]? = some (.cells #[.int .u32 0, .int .u32 0, .string ⟨#[]⟩, .bool false, .slice none 0 0] 89 (0, 0)) := by rw [hW, Below.heap_alloc _ _ _ hlt1]; exact hr2
  have hb : Below w.heap.size w W := by rw [hW]; exact hbw.alloc hbw.size _
  have HO := hidS ho2
  have H3 := hidS h3
  have H2 := hidS h2
  have HB := hidS hb
  have HL := hidS hlt1
  have hne : w.heap.size ≠ w1.heap.size := by omega
  have HNE := hidS hne
  have z3 := frozen_of_row W w1.heap.size 3 _ _ h3
  have z0 := frozen_of_row W w1.heap.size 0 _ _ h3
  have k0 : W.cell? ⟨w1.heap.size, 0, none⟩ = some (.int .u32 0) := cell_of_row _ _ _ _ _ _ h3
  have k3 : W.cell? ⟨w1.heap.size, 3, none⟩ = some (.bool true) := cell_of_row _ _ _ _ _ _ h3
  have hi5 : Option.map (·.size) (Try.prog.info? 89) = some 5 := by kernel_rfl
  have HI5 := hidS hi5
  clear ho hr2 hbw ho2 h3 h2 hb hb1 hlt1 hne hi5
  rcases hg with h5I | ⟨h5I, h0I, h0N, hne0⟩
  · subst hW
    have q0 : World.cell? _ ⟨w.heap.size, 0, none⟩ = some (.int .u32 0) := cell_of_row _ _ _ _ _ _ H2.out
    have q1 : World.cell? _ ⟨w.heap.size, 1, none⟩ = some (.int .u32 0) := cell_of_row _ _ _ _ _ _ H2.out
    have q2 : World.cell? _ ⟨w.heap.size, 2, none⟩ = some (.string ⟨#[]⟩) := cell_of_row _ _ _ _ _ _ H2.out
    have q3 : World.cell? _ ⟨w.heap.size, 3, none⟩ = some (.bool false) := cell_of_row _ _ _ _ _ _ H2.out
    have q4 : World.cell? _ ⟨w.heap.size, 4, none⟩ = some (.slice none 0 0) := cell_of_row _ _ _ _ _ _ H2.out
    have y0 := frozen_of_row _ w.heap.size 0 _ _ H2.out
    have y1 := frozen_of_row _ w.heap.size 1 _ _ H2.out
    have y2 := frozen_of_row _ w.heap.size 2 _ _ H2.out
    have y3 := frozen_of_row _ w.heap.size 3 _ _ H2.out
    have y4 := frozen_of_row _ w.heap.size 4 _ _ H2.out
    have hi5 := HI5.out
    go_wp2_with (refine wpList_load_row rfl 89 _ rfl (w1.heap.size) rfl 89 #[.int .u32 0, .int .u32 4294967295, .string ⟨#[]⟩, .bool true, .slice (some ⟨gp, 0, none⟩) 512 c] (0, 0) _ H3.out Try.underlying89 rfl hi5 ?_)
    refine bodyPost_ret (results_cell_row rfl _ _ w.heap.size 89 #[.int .u32 0, .int .u32 4294967295, .string ⟨#[]⟩, .bool true, .slice (some ⟨gp, 0, none⟩) 512 c] (0, 0) _ rfl (heap_setCell_same _ _ _ _ _ _ (heap_setCell_same _ _ _ _ _ _ (heap_setCell_same _ _ _ _ _ _ (heap_setCell_same _ _ _ _ _ _ (heap_setCell_same _ _ _ _ _ _ H2.out))))) Try.underlying89 rfl (by kernel_rfl)) rfl ⟨⟨_, rfl, gp, c, rfl, own_five HO.out (fun e => row_apartE (by decide) HO.out H2.out e.symm) _ _ _ _ _⟩, (((((HB.out.setCell (p := ⟨w.heap.size, 0, none⟩) (Nat.le_refl _) _).setCell (p := ⟨w.heap.size, 1, none⟩) (Nat.le_refl _) _).setCell (p := ⟨w.heap.size, 2, none⟩) (Nat.le_refl _) _).setCell (p := ⟨w.heap.size, 3, none⟩) (Nat.le_refl _) _).setCell (p := ⟨w.heap.size, 4, none⟩) (Nat.le_refl _) _)⟩
  · have hnb : (((S[0].toNat : Nat) : Int) == 0) = false := beq_eq_false_iff_ne.2 hne0
    have hnb2 : (((S[0].toNat : Nat) : Int) != 0) = true := by rw [bne, hnb]; rfl
    subst hW
    have q0 : World.cell? _ ⟨w.heap.size, 0, none⟩ = some (.int .u32 0) := cell_of_row _ _ _ _ _ _ H2.out
    have q1 : World.cell? _ ⟨w.heap.size, 1, none⟩ = some (.int .u32 0) := cell_of_row _ _ _ _ _ _ H2.out
    have q2 : World.cell? _ ⟨w.heap.size, 2, none⟩ = some (.string ⟨#[]⟩) := cell_of_row _ _ _ _ _ _ H2.out
    have q3 : World.cell? _ ⟨w.heap.size, 3, none⟩ = some (.bool false) := cell_of_row _ _ _ _ _ _ H2.out
    have q4 : World.cell? _ ⟨w.heap.size, 4, none⟩ = some (.slice none 0 0) := cell_of_row _ _ _ _ _ _ H2.out
    have y0 := frozen_of_row _ w.heap.size 0 _ _ H2.out
    have y1 := frozen_of_row _ w.heap.size 1 _ _ H2.out
    have y2 := frozen_of_row _ w.heap.size 2 _ _ H2.out
    have y3 := frozen_of_row _ w.heap.size 3 _ _ H2.out
    have y4 := frozen_of_row _ w.heap.size 4 _ _ H2.out
    have hi5 := HI5.out
    go_wp2_with (refine wpList_load_row rfl 89 _ rfl (w1.heap.size) rfl 89 #[.int .u32 0, .int .u32 4294967295, .string ⟨#[]⟩, .bool true, .slice (some ⟨gp, 0, none⟩) 512 c] (0, 0) _ H3.out Try.underlying89 rfl hi5 ?_)
    refine bodyPost_ret (results_cell_row rfl _ _ w.heap.size 89 #[.int .u32 0, .int .u32 4294967295, .string ⟨#[]⟩, .bool true, .slice (some ⟨gp, 0, none⟩) 512 c] (0, 0) _ rfl (heap_setCell_same _ _ _ _ _ _ (heap_setCell_same _ _ _ _ _ _ (heap_setCell_same _ _ _ _ _ _ (heap_setCell_same _ _ _ _ _ _ (heap_setCell_same _ _ _ _ _ _ H2.out))))) Try.underlying89 rfl (by kernel_rfl)) rfl ⟨⟨_, rfl, gp, c, rfl, own_five HO.out (fun e => row_apartE (by decide) HO.out H2.out e.symm) _ _ _ _ _⟩, (((((HB.out.setCell (p := ⟨w.heap.size, 0, none⟩) (Nat.le_refl _) _).setCell (p := ⟨w.heap.size, 1, none⟩) (Nat.le_refl _) _).setCell (p := ⟨w.heap.size, 2, none⟩) (Nat.le_refl _) _).setCell (p := ⟨w.heap.size, 3, none⟩) (Nat.le_refl _) _).setCell (p := ⟨w.heap.size, 4, none⟩) (Nat.le_refl _) _)⟩
end Go.Proofs.Ytbkjcngehhdchaa

/-!   The specification's Unpack, at every text of a million bytes at most. -/
namespace Go.Proofs.Ytbkjcngehhdchaa
open Go.RowKit
set_option linter.unusedVariables false
set_option linter.unusedSimpArgs false

theorem blS {B C : Nat} {a b c : World} (h : Below B a b) (k : Below C b c) (hBC : B ≤ C) : Below B a c := ⟨k.os.trans h.os, k.tape.trans h.tape, k.output.trans h.output, Nat.le_trans h.size k.size, fun i hi => (k.block i (Nat.lt_of_lt_of_le hi hBC)).trans (h.block i hi)⟩
structure SU (w wr : World) (b7 : Nat) (sd : DS × Bool) (v : Value) (o : List Nat) : Prop where
  own : wr.ownsRow w.heap.size 5 1 v o.length (bL o)
  rd : SDAt wr w.heap.size b7 sd
  below : Below w.heap.size w wr
  fine : sd.1.Fine
theorem SU.frs {w wr w' : World} {b7 : Nat} {sd sd' : DS × Bool} {v : Value} {o : List Nat} (h : SU w wr b7 sd v o) (hF : FRS wr w' w.heap.size b7) (hD : SDAt w' w.heap.size b7 sd') (hf : sd'.1.Fine) : SU w w' b7 sd' v o := by
  refine ⟨?_, hD, h.below.trans hF.below, hf⟩
  obtain ⟨R, gp, c, hR, _⟩ := h.rd
  obtain ⟨hl, ⟨h0, hn⟩ | ⟨g, cap, cur, h1, h2, h3, h4⟩⟩ := h.own
  · exact ⟨hl, Or.inl ⟨h0, hn⟩⟩
  · refine ⟨hl, Or.inr ⟨g, cap, cur, h1, h2, hF.keep g cur _ _ h3 (fun e => ?_) (by decide), h4⟩⟩
    have q := hR.row
    rw [← e, h3] at q
    injection q with q
    injection q with _ q _
    exact absurd q (by decide)
theorem SU.put {w wr w4 : World} {b7 x : Nat} {sd : DS × Bool} {v v' : Value} {o : List Nat} (h : SU w wr b7 sd v o) (X : Obj)
    (h1 : w4.ownsRow w.heap.size 5 1 v' (o.length + 1) (bL o ++ [.int .u8 (x : Int)])) (h2 : (wr.alloc X).grownBy w4 v.ownBlock) : SU w w4 b7 sd v' (o ++ [x]) := by
  have hsz := h.below.size
  refine ⟨?_, ?_, (h.below.alloc hsz _).grown h2 (by simp; omega) (fun k hk => (h.own.lt k hk).1), h.fine⟩
  · rw [bL_snoc] at h1
    rw [List.length_append]; exact h1
  · obtain ⟨R, gp, c, hR, hr⟩ := h.rd
    obtain ⟨_, cur, hp⟩ := hR.prow
    have l1 := hR.lt
    have l2 := (Array.getElem?_eq_some_iff.1 hp).1
    exact ⟨R, gp, c, hR.same ((h2.block b7 (by simp; omega) (row_apartE (by decide) h.own hR.row)).trans (Below.heap_alloc _ _ _ l1)) ((h2.block gp (by simp; omega) (row_apartE (by decide) h.own hp)).trans (Below.heap_alloc _ _ _ l2)), hr⟩
theorem SU.bad {w wr : World} {b7 : Nat} {sd : DS × Bool} {v : Value} {o : List Nat} (h : SU w wr b7 sd v o) : wr.cell? ⟨b7, 3, none⟩ = some (.bool sd.2) := by
  obtain ⟨R, gp, c, hR, hr⟩ := h.rd
  exact cell_of_row _ _ _ _ _ _ hR.row
theorem SU.call {w wr w' : World} {b7 : Nat} {sd : DS × Bool} {v : Value} {o : List Nat} (h : SU w wr b7 sd v o) (hb : Below wr.heap.size wr w') : SU w w' b7 sd v o := by
  obtain ⟨R, gp, c, hR, hr⟩ := h.rd
  obtain ⟨_, cur, hp⟩ := hR.prow
  exact ⟨owns_call1 h.own hb, ⟨R, gp, c, hR.same (hb.block _ hR.lt) (hb.block _ (Array.getElem?_eq_some_iff.1 hp).1), hr⟩, blS h.below hb h.below.size, h.fine⟩
set_option maxRecDepth 100000 in
set_option maxHeartbeats 8000000 in
theorem sunpack_go (S R : ByteArray) (n : Nat) (w : World) (hs : S.size ≤ 1048576) (hI : numI S = some (n, R)) (hn : n ≤ 4000) (hRs : R.size ≤ 1048576) :
    Calls Try.prog 41 #[.string S] w fun e w' => e = .returned (upAns (sunp S)) ∧ Below w.heap.size w w' := by
  have HN : Hid (∀ w, Calls Try.prog 39 #[.string S] w fun e w' => e = .returned (.tuple #[.int .i64 (n : Int), .string R, .bool true]) ∧ Below w.heap.size w w') := fun w => by
    have h := snumI_any S w hs
    rw [hI] at h
    exact h
  obtain ⟨cd, RR, bad, HBG, hfine, hsr⟩ : ∃ (cd : Nat) (RR : ByteArray) (bad : Bool), Hid (∀ w, Calls Try.prog 60 #[.string R] w fun e w' => (∃ v, e = .returned v ∧ BGN w w' v cd RR bad) ∧ Below w.heap.size w w') ∧ (DS.start cd (bl RR)).Fine ∧
      sunp S = open Classical in (match srun n n (DS.start cd (bl RR), bad) 0 [] with
        | none => none
        | some o => if pckB (strL o) = S then some (strL o) else none) := by
    by_cases hst : startOk R
    · refine ⟨code0 R, rest0 R, false, fun w => sbegin_yes R w (by omega) hst, DS.start_fine (pt4_lt (bsOf_lt _) 0) (bl_lt _), ?_⟩
      conv => lhs; unfold sunp
      rw [hI]
      simp only []
      rw [if_neg (by omega), if_pos hst]
      rfl
    · refine ⟨0, ⟨#[]⟩, true, fun w => sbegin_no R w (by omega) hst, DS.start_fine (by decide) (bl_lt _), ?_⟩
      conv => lhs; unfold sunp
      rw [hI]
      simp only []
      rw [if_neg (by omega), if_neg hst, srun_bad rfl]
  obtain ⟨Z, hZ⟩ : ∃ Z, Z = srun n n (DS.start cd (bl RR), bad) 0 [] := ⟨_, rfl⟩
  have HZ0 : Hid (Z = srun n n (DS.start cd (bl RR), bad) 0 []) := hZ
  rw [← hZ] at hsr
  have HZN : Hid (Z = none → sunp S = none) := fun h => by rw [hsr, h]
  have HZY : Hid (∀ o, Z = some o → pckB (strL o) = S → sunp S = some (strL o)) := fun o h h2 => by rw [hsr, h]; simp only []; rw [if_pos h2]
  have HZX : Hid (∀ o, Z = some o → pckB (strL o) ≠ S → sunp S = none) := fun o h h2 => by rw [hsr, h]; simp only []; rw [if_neg h2]
  have HFI : Hid ((DS.start cd (bl RR)).Fine) := hfine
  have hnI : (n : Int) ≤ 4000 := by omega
  have hnI2 : ¬ (4000 : Int) < (n : Int) := by omega
  have HTK : Hid (∀ (w : World) (b7 : Nat × Nat) (sd : DS × Bool) (x : Nat), sd.1.Fine → SDAt w b7.1 b7.2 sd → x < 512 → Calls Try.prog 61 #[.pointer (some ⟨b7.2, 0, none⟩), .int .i64 ((x : Nat) : Int)] w fun e w' => e = .returned (.int .i64 ((stell sd x : Nat) : Int)) ∧ SDAt w' b7.1 b7.2 (sgo sd x) ∧ FRS w w' b7.1 b7.2) := fun w b7 sd x h1 h2 h3 => sdtake_any h1 h2 h3
  have HPK : Hid (∀ (s : ByteArray) w, s.size ≤ 4000 → Calls Try.prog 28 #[.string s] w fun e w' => e = .returned (.tuple #[.string (pckB s), .bool true]) ∧ Below w.heap.size w w') := fun s w h => spack_yes s w h
  obtain ⟨i0, hi, hz0, hz1, hz2⟩ := info_parts Try.infb8
  generalize sunp S = ans at HZN HZY HZX ⊢
  clear hZ hsr hfine hI
  go_enter Try.func41, Try.ntmps41
  go_wp2_with fail
  refine (HN.out _).mono ?_
  rintro e w1 ⟨rfl, hb1⟩
  go_wp2_with fail
  refine (HBG.out _).mono ?_
  rintro e w2 ⟨⟨v2, rfl, gp, c, rfl, ho2⟩, hb2⟩
  have hb12 : Below w.heap.size w w2 := blS hb1 hb2 hb1.size
  obtain ⟨W, hW⟩ : ∃ W, W = (w2.alloc (.cells #[.int .u32 (cd : Int), .int .u32 4294967295, .string RR, .bool bad, .slice (some ⟨gp, 0, none⟩) 512 c] 89)).alloc (.cells #[] 5) := ⟨_, rfl⟩
  have hU : SU w W w2.heap.size (DS.start cd (bl RR), bad) (.slice (some ⟨w2.heap.size + 1, 0, none⟩) 0 0) [] := by
    refine ⟨?_, ⟨RR, gp, c, ⟨?_, ?_, hb12.size⟩, rfl⟩, ?_, HFI.out⟩
    · rw [hW]
      have h := World.ownsRow_made (w2.alloc (.cells #[.int .u32 (cd : Int), .int .u32 4294967295, .string RR, .bool bad, .slice (some ⟨gp, 0, none⟩) 512 c] 89)) #[] 0 (e := 5) (base := w.heap.size) (size := 1) (by have := hb12.size; simp; omega) (by unfold maxLen; omega) rfl
      simpa [bL] using h
    · rw [hW, Below.heap_alloc _ _ _ (by simp)]; exact heap_alloc_new w2 _
    · rw [hW]; exact ((owns_lower ho2 hb1.size).alloc _).alloc _
    · rw [hW]; exact (hb12.alloc hb12.size _).alloc (by have := hb12.size; simp; omega) _
  have HU := hidS hU
  have HGB : Hid (w.heap.size ≤ w2.heap.size) := hb12.size
  clear hb1 hb2 hb12 ho2 hU HBG HN HFI
  go_wp2_with fail
  rw [← hW]
  clear hW
  generalize w2.heap.size = b7 at HU HGB ⊢
  go_loopw [8, 9] (fun x v wr => ∃ (k a : Nat) (sd : DS × Bool) (o : List Nat), x = .int .i64 (a : Int) ∧ a < 2 ∧ o.length ≤ n ∧ n ≤ o.length + k ∧ Hid (Z = srun n k sd a o) ∧ Hid (AllB o) ∧ Hid (SU w wr b7 sd v o)) (fun _ v _ => n - mLen v)
  case atStart => exact ⟨n, 0, _, [], rfl, by decide, Nat.zero_le _, by show n ≤ 0 + n; omega, HZ0, fun x hx => (by cases hx), HU⟩
  case round =>
    clear HU HZ0
    obtain ⟨k, a, sd, o, rfl, ha, hon, hk, HZ, HAB, HU⟩ := hrel
    obtain ⟨ra, rc, rfl⟩ := own_len1 HU.out.own
    have y3 := HU.out.bad
    obtain ⟨bd, hbd⟩ : ∃ bd, bd = sd.2 := ⟨_, rfl⟩
    rw [← hbd] at y3
    by_cases hlt : o.length < n
    · have hltI : (o.length : Int) < (n : Int) := by omega
      cases bd with
      | true =>
        obtain rfl := HZN.out (by rw [HZ.out]; exact srun_bad hbd.symm)
        have HB := hidS HU.out.below
        clear HZ HU HAB HZN HZY HZX hbd hlt hon hk
        go_wp2_with fail
        go_ret2
        exact ⟨rfl, HB.out⟩
      | false =>
        obtain ⟨k, rfl⟩ : ∃ j, k = j + 1 := ⟨k - 1, by omega⟩
        have hT := HTK.out wr (w.heap.size, b7) sd a HU.out.fine HU.out.rd (by omega)
        have hbt2 := stell_lt sd a
        have HFN : Hid ((sgo sd a).1.Fine) := sgo_fine HU.out.fine a
        have HB0 : Hid (stell sd a = 0 → smTok sd a = ((thT sbitR snxtR 1 0 8 1 (sgo sd a)).1, ⟨0, (thT sbitR snxtR 1 0 8 1 (sgo sd a)).2 - 2 ^ 8, 0, 0⟩)) := fun h => thTok_byte (bit := sbitR) (nxt := snxtR) h
        have HB1 : Hid (stell sd a ≠ 0 → smTok sd a = ((thT sbitR snxtR 400 ((0 - 1 : Int).tmod 64) 6 1 (thT sbitR snxtR 330 ((0 - 1 : Int).tdiv 64) 6 1 (thT sbitR snxtR 260 (0 - 3) 6 1 (sgo sd a)).1).1).1, tkOf (thT sbitR snxtR 260 (0 - 3) 6 1 (sgo sd a)).2 (thT sbitR snxtR 330 ((0 - 1 : Int).tdiv 64) 6 1 (thT sbitR snxtR 260 (0 - 3) 6 1 (sgo sd a)).1).2 (thT sbitR snxtR 400 ((0 - 1 : Int).tmod 64) 6 1 (thT sbitR snxtR 330 ((0 - 1 : Int).tdiv 64) 6 1 (thT sbitR snxtR 260 (0 - 3) 6 1 (sgo sd a)).1).1).2)) := fun h => thTok_copy (bit := sbitR) (nxt := snxtR) h
        generalize sgo sd a = sd1 at hT HFN HB0 HB1
        generalize stell sd a = bt at hT hbt2 HB0 HB1
        have HT := hidS hT
        have HSF : Hid (sd.2 = false) := hbd.symm
        clear hT hbd
        go_wp2_with fail
        refine (HT.out).mono ?_
        rintro e w3 ⟨rfl, hD3, hF3⟩
        have hU3 : SU w w3 b7 sd1 (.slice ra o.length rc) o := HU.out.frs hF3 hD3 HFN.out
        have HU3 := hidS hU3
        clear hD3 hF3 hU3 HU HT y3
        by_cases hb0 : bt = 0
        · subst hb0
          have HTT := hidS (HB0.out rfl)
          have hK := sk7_any (w := w3) (B := w.heap.size) (g := b7) (sb := sd1) 1 8 1 8 0 rfl rfl HU3.out.fine HU3.out.rd (Or.inl rfl) ⟨by decide, fun _ => by decide⟩
          have hlt8 := thT_lt (bit := sbitR) (nxt := snxtR) (fun s c t _ => stell_lt s c) 1 0 8 1 1 sd1 (by decide)
          have HFN4 : Hid ((thT sbitR snxtR 1 0 8 1 sd1).1.1.Fine) := thS_fine 1 0 8 1 sd1 HU3.out.fine
          obtain ⟨X, hX⟩ : ∃ X, X = thT sbitR snxtR 1 0 8 1 sd1 := ⟨_, rfl⟩
          rw [← hX] at hK hlt8 HTT HFN4
          obtain ⟨x, hx⟩ : ∃ x, x = X.2 - 2 ^ 8 := ⟨_, rfl⟩
          rw [← hx] at hK HTT
          have hx256 : x < 256 := by
            have e1 : 2 ^ (1 + 8) = 512 := by decide
            have e2 : 2 ^ 8 = 256 := by decide
            rw [e1] at hlt8; rw [e2] at hx; omega
          have HZ2 : Hid (Z = srun n k X.1 0 (o ++ [x])) := by
            have e1 : (smTok sd a).2.k = 0 := by rw [HTT.out]
            have h := srun_byte (k := k) HSF.out hlt e1
            rw [HTT.out] at h
            show Z = _
            rw [HZ.out]; exact h
          have HK := hidS hK
          have hwx : IntKind.u8.wrap (x : Int) = (x : Int) := by rw [IntKind.wrap_u8]; omega
          have HAB2 : Hid (AllB (o ++ [x])) := HAB.out.snoc hx256
          have hol : (o ++ [x]).length = o.length + 1 := by rw [List.length_append]; rfl
          clear hK hlt8 hX hx HTT HB0 HB1 HZ HAB HFN
          go_wp2_with fail
          refine (HK.out).mono ?_
          rintro e w5 ⟨rfl, hD5, hF5⟩
          have hU5 : SU w w5 b7 X.1 (.slice ra o.length rc) o := HU3.out.frs hF5 hD5 HFN4.out
          have HU5 := hidS hU5
          have hsz5 := hU5.below.size
          have HOW := hU5.own
          clear hD5 hF5 hU5 HU3 HK
          go_wp2_with (at_builtin; (refine wpList_append_own _ rfl _ _ 36 rfl w.heap.size 5 i0 _ 1 1 Try.underlying36 hi hz0 hz1 hz2 rfl (by decide) _ _ _ rfl (HOW.alloc _) ⟨w5.heap.size, 0, none⟩ 1 1 [_] rfl rfl (cell_at_new _ _ _ _ ?c1) ?c2 ?c3 ?c4 ?c5 ?_))
          case c1 => rfl
          case c2 => exact byte_one _
          case c3 => unfold maxLen; omega
          case c4 => omega
          case c5 => simp; omega
          intro v' w4 hown' hgrow _
          have H4 := hidS (HU5.out.put _ hown' hgrow)
          have hl4 := own_len1 H4.out.own
          rw [hol] at hl4
          obtain ⟨ra2, rc2, rfl⟩ := hl4
          clear hown' hgrow HOW HU5
          go_wp2_with fail
          go_roundw
          case rel => exact ⟨k, 0, X.1, o ++ [x], rfl, by decide, by rw [hol]; omega, by rw [hol]; omega, HZ2, HAB2, H4⟩
          case measure => simp [mLen]; omega
        · have hb1 : bt = 1 := by omega
          subst hb1
          have HTT := hidS (HB1.out (by decide))
          have hK1 := sk7_any (w := w3) (B := w.heap.size) (g := b7) (sb := sd1) 260 6 260 6 (0 - 3) rfl rfl HU3.out.fine HU3.out.rd (Or.inr rfl) ⟨by decide, fun h => by cases h⟩
          have HF2 : Hid ((thT sbitR snxtR 260 (0 - 3) 6 1 sd1).1.1.Fine) := thS_fine 260 (0 - 3) 6 1 sd1 HU3.out.fine
          have hlt1 := thT_lt (bit := sbitR) (nxt := snxtR) (fun s c t _ => stell_lt s c) 260 (0 - 3) 6 1 1 sd1 (by decide)
          obtain ⟨X1, hX1⟩ : ∃ X, X = thT sbitR snxtR 260 (0 - 3) 6 1 sd1 := ⟨_, rfl⟩
          rw [← hX1] at hK1 HF2 HTT hlt1
          have HF3 : Hid ((thT sbitR snxtR 330 ((0 - 1 : Int).tdiv 64) 6 1 X1.1).1.1.Fine) := thS_fine 330 _ 6 1 X1.1 HF2.out
          have hlt2 := thT_lt (bit := sbitR) (nxt := snxtR) (fun s c t _ => stell_lt s c) 330 ((0 - 1 : Int).tdiv 64) 6 1 1 X1.1 (by decide)
          have HK2 : Hid (∀ w', SDAt w' w.heap.size b7 X1.1 → Calls Try.prog 62 #[.pointer (some ⟨b7, 0, none⟩), .int .i64 330, .int .i64 6] w' fun e w'' => e = .returned (.int .i64 (((thT sbitR snxtR 330 ((0 - 1 : Int).tdiv 64) 6 1 X1.1).2 - 2 ^ 6 : Nat) : Int)) ∧ (SDAt w'' w.heap.size b7 (thT sbitR snxtR 330 ((0 - 1 : Int).tdiv 64) 6 1 X1.1).1 ∧ FRS w' w'' w.heap.size b7)) := fun w' h => sk7_any 330 6 330 6 _ rfl rfl HF2.out h (Or.inr rfl) ⟨by decide, fun h => by cases h⟩
          obtain ⟨X2, hX2⟩ : ∃ X, X = thT sbitR snxtR 330 ((0 - 1 : Int).tdiv 64) 6 1 X1.1 := ⟨_, rfl⟩
          rw [← hX2] at HK2 HF3 HTT hlt2
          have HF4 : Hid ((thT sbitR snxtR 400 ((0 - 1 : Int).tmod 64) 6 1 X2.1).1.1.Fine) := thS_fine 400 _ 6 1 X2.1 HF3.out
          have hlt3 := thT_lt (bit := sbitR) (nxt := snxtR) (fun s c t _ => stell_lt s c) 400 ((0 - 1 : Int).tmod 64) 6 1 1 X2.1 (by decide)
          have HK3 : Hid (∀ w', SDAt w' w.heap.size b7 X2.1 → Calls Try.prog 62 #[.pointer (some ⟨b7, 0, none⟩), .int .i64 400, .int .i64 6] w' fun e w'' => e = .returned (.int .i64 (((thT sbitR snxtR 400 ((0 - 1 : Int).tmod 64) 6 1 X2.1).2 - 2 ^ 6 : Nat) : Int)) ∧ (SDAt w'' w.heap.size b7 (thT sbitR snxtR 400 ((0 - 1 : Int).tmod 64) 6 1 X2.1).1 ∧ FRS w' w'' w.heap.size b7)) := fun w' h => sk7_any 400 6 400 6 _ rfl rfl HF3.out h (Or.inr rfl) ⟨by decide, fun h => by cases h⟩
          obtain ⟨X3, hX3⟩ : ∃ X, X = thT sbitR snxtR 400 ((0 - 1 : Int).tmod 64) 6 1 X2.1 := ⟨_, rfl⟩
          rw [← hX3] at HK3 HF4 HTT hlt3
          obtain ⟨x1, hx1⟩ : ∃ x, x = X1.2 - 2 ^ 6 := ⟨_, rfl⟩
          obtain ⟨x2, hx2⟩ : ∃ x, x = X2.2 - 2 ^ 6 := ⟨_, rfl⟩
          obtain ⟨x3, hx3⟩ : ∃ x, x = X3.2 - 2 ^ 6 := ⟨_, rfl⟩
          rw [← hx1] at hK1
          rw [← hx2] at HK2
          rw [← hx3] at HK3
          obtain ⟨lg, hlg⟩ : ∃ lg, lg = x1 + 3 := ⟨_, rfl⟩
          obtain ⟨dd, hdd⟩ : ∃ dd, dd = x2 * 64 + x3 + 1 := ⟨_, rfl⟩
          have hTK : (smTok sd a).1 = X3.1 ∧ (smTok sd a).2.k = 1 ∧ (smTok sd a).2.d = dd ∧ (smTok sd a).2.l = lg := by
            rw [HTT.out]
            refine ⟨rfl, rfl, ?_, ?_⟩
            · show (X2.2 - 2 ^ 6) * 64 + (X3.2 - 2 ^ 6) + 1 = dd
              rw [hdd, hx2, hx3]
            · show X1.2 - 2 ^ 6 + 3 = lg
              rw [hlg, hx1]
          have HTK2 := hidS hTK
          have e64 : 2 ^ (1 + 6) = 128 := by decide
          have e32 : 2 ^ 6 = 64 := by decide
          rw [e64] at hlt1 hlt2 hlt3
          have b1 : x1 < 64 := by rw [hx1, e32]; omega
          have b2 : x2 < 64 := by rw [hx2, e32]; omega
          have b3 : x3 < 64 := by rw [hx3, e32]; omega
          have HK1 := hidS hK1
          have f1 : (x1 : Int) + 3 = (lg : Int) := by omega
          have f1w : IntKind.i64.wrap ((x1 : Int) + 3) = (lg : Int) := by rw [IntKind.wrap_i64]; omega
          have f2w : IntKind.i64.wrap (64 * (x2 : Int)) = 64 * (x2 : Int) := by rw [IntKind.wrap_i64]; omega
          have f3w : IntKind.i64.wrap (64 * (x2 : Int) + (x3 : Int)) = 64 * (x2 : Int) + (x3 : Int) := by rw [IntKind.wrap_i64]; omega
          have f4w : IntKind.i64.wrap (64 * (x2 : Int) + (x3 : Int) + 1) = (dd : Int) := by rw [IntKind.wrap_i64]; omega
          have f4 : 64 * (x2 : Int) + (x3 : Int) + 1 = (dd : Int) := by omega
          have hddb : 1 ≤ dd ∧ dd ≤ 4096 := by omega
          have hlgb : 3 ≤ lg ∧ lg ≤ 66 := by omega
          clear hK1 hlt1 hlt2 hlt3 hX1 hX2 hX3 hx1 hx2 hx3 HTT HB0 HB1 HFN hTK e64 e32 hlg hdd
          go_wp2_with fail
          refine (HK1.out).mono ?_
          rintro e w5 ⟨rfl, hD5, hF5⟩
          have hU5 : SU w w5 b7 X1.1 (.slice ra o.length rc) o := HU3.out.frs hF5 hD5 HF2.out
          have HU5 := hidS hU5
          clear hD5 hF5 hU5 HU3 HK1
          go_wp2_with fail
          refine (HK2.out _ HU5.out.rd).mono ?_
          rintro e w6 ⟨rfl, hD6, hF6⟩
          have hU6 : SU w w6 b7 X2.1 (.slice ra o.length rc) o := HU5.out.frs hF6 hD6 HF3.out
          have HU6 := hidS hU6
          clear hD6 hF6 hU6 HU5 HK2
          go_wp2_with fail
          refine (HK3.out _ HU6.out.rd).mono ?_
          rintro e w7 ⟨rfl, hD7, hF7⟩
          have hU7 : SU w w7 b7 X3.1 (.slice ra o.length rc) o := HU6.out.frs hF7 hD7 HF4.out
          have HU7 := hidS hU7
          have HB7 := hidS hU7.below
          clear hD7 hF7 hU7 HU6 HK3
          have hwl : IntKind.i64.wrap ((o.length : Int) + (lg : Int)) = (o.length : Int) + (lg : Int) := by rw [IntKind.wrap_i64]; omega
          by_cases h1 : dd ≤ o.length
          · have h1I : ¬ (o.length : Int) < (dd : Int) := by omega
            by_cases h2 : o.length + lg ≤ n
            · have h2I : ¬ (n : Int) < (o.length : Int) + (lg : Int) := by omega
              have HZ2 : Hid (Z = srun n k X3.1 1 (cpI dd o lg)) := by
                have h := srun_copy (k := k) HSF.out hlt (by rw [HTK2.out.2.1]; decide) (by rw [HTK2.out.2.2.1]; exact h1) (by rw [HTK2.out.2.2.2]; exact h2)
                rw [HTK2.out.1, HTK2.out.2.2.1, HTK2.out.2.2.2] at h
                show Z = _
                rw [HZ.out]; exact h
              have HDD : Hid (dd ≤ o.length ∧ o.length + lg ≤ n ∧ n ≤ 4000 ∧ 1 ≤ dd ∧ n ≤ o.length + (k + 1)) := ⟨h1, h2, hn, hddb.1, hk⟩
              have HAB2 : Hid (AllB (cpI dd o lg)) := HAB.out.cp dd lg
              have HON : Hid (o.length < n) := hlt
              have hd1 : decide ((o.length : Int) < (dd : Int)) = false := decide_eq_false h1I
              have hd1n : decide (o.length < dd) = false := decide_eq_false (by omega)
              have hd2 : decide ((n : Int) < (o.length : Int) + (lg : Int)) = false := decide_eq_false h2I
              clear HZ HTK2 hlt hon h1I h2I
              go_wp2_with fail
              go_loopw [9, 14] (fun v c wr => ∃ (j : Nat), j ≤ lg ∧ c = .int .i64 (j : Int) ∧ Hid (SU w wr b7 X3.1 v (cpI dd o j))) (fun _ c _ => lg - (lonIntOf c).toNat)
              case atStart => exact ⟨0, by omega, rfl, HU7⟩
              case round =>
                clear HU7
                obtain ⟨j, hj, rfl, HUJ⟩ := hrel
                have hcl := cpI_len dd o j
                by_cases hlt2 : j < lg
                · have hltJ : (j : Int) < (lg : Int) := by omega
                  obtain ⟨g, cap, cur, rfl, _, _, hcell⟩ := own_form1 HUJ.out.own (by omega)
                  obtain ⟨q, hq⟩ : ∃ q, o.length + j = q + dd := ⟨o.length + j - dd, by omega⟩
                  have x0 := hcell q _ (bL_at (cpI dd o j) q (by omega))
                  have hqe : (cpI dd o j).length - dd = q := by omega
                  have HOW := HUJ.out.own
                  have hszj := HUJ.out.below.size
                  have HNX : Hid (∀ v' w4, w4.ownsRow w.heap.size 5 1 v' ((cpI dd o j).length + 1) (bL (cpI dd o j) ++ [.int .u8 (((cpI dd o j).getD q 0 : Nat) : Int)]) → (wr.alloc (.cells #[.int .u8 (((cpI dd o j).getD q 0 : Nat) : Int)] 5)).grownBy w4 (Value.slice (some ⟨g, 0, none⟩) (cpI dd o j).length cap).ownBlock → SU w w4 b7 X3.1 v' (cpI dd o (j + 1))) := fun v' w4 h1 h2 => by
                    have h3 := HUJ.out.put _ h1 h2
                    show SU w w4 b7 X3.1 v' (cpI dd o j ++ [(cpI dd o j).getD ((cpI dd o j).length - dd) 0])
                    rw [hqe]; exact h3
                  have hn4 : o.length + j ≤ 4066 := by have := HDD.out; omega
                  generalize (cpI dd o j).getD q 0 = c4 at x0 HNX
                  rw [hcl] at HOW HNX ⊢
                  generalize o.length + j = m at HOW hq x0 HNX hn4 ⊢
                  have hwn : IntKind.i64.wrap ((m : Int) - (dd : Int)) = (q : Int) := by rw [IntKind.wrap_i64]; omega
                  have hqn : (q : Int) < (m : Int) := by omega
                  have hqN : q < m := by omega
                  clear hcell hcl hqe hq HUJ
                  go_wp2_with (at_builtin; (refine wpList_append_own _ rfl _ _ 36 rfl w.heap.size 5 i0 _ 1 1 Try.underlying36 hi hz0 hz1 hz2 rfl (by decide) _ _ _ rfl (HOW.alloc _) ⟨wr.heap.size, 0, none⟩ 1 1 [_] rfl rfl (cell_at_new _ _ _ _ ?c1) ?c2 ?c3 ?c4 ?c5 ?_))
                  case c1 => rfl
                  case c2 => exact byte_one _
                  case c3 => unfold maxLen; omega
                  case c4 => omega
                  case c5 => simp; omega
                  intro v' w4 hown' hgrow _
                  have H4 : Hid _ := HNX.out v' w4 hown' hgrow
                  clear hown' hgrow HOW HNX
                  go_wp2_with fail
                  go_roundw
                  case rel => first | exact ⟨j + 1, by omega, by go_num, H4⟩ | ((repeat apply Exists.intro); exact ⟨⟨j + 1, by omega, (show Value.int .i64 ((j : Int) + 1) = .int .i64 ((j + 1 : Nat) : Int) from by go_num), H4⟩, rfl⟩)
                  case measure => simp [lonIntOf]; omega
                · obtain rfl : j = lg := by omega
                  obtain ⟨ra2, rc2, hv2⟩ := own_len1 HUJ.out.own
                  subst hv2
                  have HLN : Hid ((cpI dd o j).length = o.length + j) := hcl
                  have h9 : n - (cpI dd o j).length < n - o.length := by have := HON.out; omega
                  clear hcl
                  go_wp2_with fail
                  go_roundw
                  case rel => first | exact ⟨k, 1, X3.1, cpI dd o j, rfl, by decide, by rw [HLN.out]; exact HDD.out.2.1, by rw [HLN.out]; have := HDD.out; omega, HZ2, HAB2, HUJ⟩ | ((repeat apply Exists.intro); exact ⟨⟨k, 1, X3.1, cpI dd o j, (show Value.int .i64 1 = .int .i64 ((1 : Nat) : Int) from rfl), by decide, by rw [HLN.out]; exact HDD.out.2.1, by rw [HLN.out]; have := HDD.out; omega, HZ2, HAB2, HUJ⟩, rfl⟩)
                  case measure => simpa [mLen] using h9
            · have h2I : (n : Int) < (o.length : Int) + (lg : Int) := by omega
              obtain rfl := HZN.out (by rw [HZ.out]; exact srun_not HSF.out hlt (by rw [HTK2.out.2.1]; decide) (by rw [HTK2.out.2.2.1, HTK2.out.2.2.2]; omega))
              clear HZ HTK2 HU7 HZN HZY HZX HAB
              go_wp2_with fail
              go_ret2
              exact ⟨rfl, HB7.out⟩
          · have h1I : (o.length : Int) < (dd : Int) := by omega
            obtain rfl := HZN.out (by rw [HZ.out]; exact srun_not HSF.out hlt (by rw [HTK2.out.2.1]; decide) (by rw [HTK2.out.2.2.1, HTK2.out.2.2.2]; omega))
            clear HZ HTK2 HU7 HZN HZY HZX HAB
            go_wp2_with fail
            go_ret2
            exact ⟨rfl, HB7.out⟩
    · have hltI : ¬ (o.length : Int) < (n : Int) := by omega
      cases bd with
      | true =>
        obtain rfl := HZN.out (by rw [HZ.out]; exact srun_bad hbd.symm)
        have HB := hidS HU.out.below
        clear HZ HU HAB HZN HZY HZX hbd hlt hon hk
        go_wp2_with fail
        go_ret2
        exact ⟨rfl, HB.out⟩
      | false =>
        have hZo : Z = some o := by rw [HZ.out]; exact srun_end hbd.symm (by omega)
        have HCV : Hid (∀ w', Below wr.heap.size wr w' → (convert 36 9 (.slice ra o.length rc)).run Try.prog w' = .ok (.string (strL o)) w') := fun w' hb => own_str HAB.out (owns_call1 HU.out.own hb)
        have hcv := HCV.out wr (Below.refl _ _)
        have hso := strL_size o
        have HB := hidS HU.out.below
        have HPS := hidS (fun w => HPK.out (strL o) w (by omega))
        by_cases he : pckB (strL o) = S
        · obtain rfl := HZY.out o hZo he
          rw [he] at HPS
          clear HZ HU HAB HZN HZY HZX hbd hlt hon hk hZo he hso HPK
          go_wp2_with fail
          refine (HPS.out _).mono ?_
          rintro e w5 ⟨rfl, hb5⟩
          have hcv2 := HCV.out w5 hb5
          go_wp2_with fail
          go_ret2
          exact ⟨rfl, blS HB.out hb5 HB.out.size⟩
        · obtain rfl := HZX.out o hZo he
          have hne : ((pckB (strL o)).toList == S.toList) = false := by
            rw [beq_eq_false_iff_ne]
            intro c
            rw [Lib.toList_data, Lib.toList_data] at c
            exact he (ByteArray.ext (Array.ext' c))
          generalize pckB (strL o) = P at HPS hne
          clear HZ HU HAB HZN HZY HZX hbd hlt hon hk hZo he hso HPK
          go_wp2_with fail
          refine (HPS.out _).mono ?_
          rintro e w5 ⟨rfl, hb5⟩
          go_wp2_with fail
          go_ret2
          exact ⟨rfl, blS HB.out hb5 HB.out.size⟩
set_option maxRecDepth 100000 in
theorem sunpack_any (S : ByteArray) (w : World) (hs : S.size ≤ 1048576) :
    Calls Try.prog 41 #[.string S] w fun e w' => e = .returned (upAns (unp S)) ∧ Below w.heap.size w w' := by
  rw [← sunp_unp]
  have HN : Hid (∀ w, Calls Try.prog 39 #[.string S] w fun e w' => e = .returned (numIV (numI S)) ∧ Below w.heap.size w w') := fun w => snumI_any S w hs
  cases hI : numI S with
  | none =>
    rw [hI] at HN
    have e : sunp S = none := by unfold sunp; rw [hI]
    rw [e]
    clear hI e
    have HN2 : Hid (∀ w, Calls Try.prog 39 #[.string S] w fun e w' => e = .returned (.tuple #[.int .i64 0, .string ⟨#[]⟩, .bool false]) ∧ Below w.heap.size w w') := HN
    go_enter Try.func41, Try.ntmps41
    go_wp2_with fail
    refine (HN2.out _).mono ?_
    rintro e w1 ⟨rfl, hb1⟩
    go_wp2_with fail
    go_ret2
    exact ⟨rfl, hb1⟩
  | some p =>
    obtain ⟨n, R⟩ := p
    by_cases hn : n ≤ 4000
    · exact sunpack_go S R n w hs hI hn (by have := (numI_bd hI).2; omega)
    · rw [hI] at HN
      have e : sunp S = none := by unfold sunp; rw [hI]; simp only []; rw [if_pos (by omega)]
      rw [e]
      have hnI : (4000 : Int) < (n : Int) := by omega
      clear hI e hn
      have HN2 : Hid (∀ w, Calls Try.prog 39 #[.string S] w fun e w' => e = .returned (.tuple #[.int .i64 (n : Int), .string R, .bool true]) ∧ Below w.heap.size w w') := HN
      go_enter Try.func41, Try.ntmps41
      go_wp2_with fail
      refine (HN2.out _).mono ?_
      rintro e w1 ⟨rfl, hb1⟩
      go_wp2_with fail
      go_ret2
      exact ⟨rfl, hb1⟩
end Go.Proofs.Ytbkjcngehhdchaa

/-!   A row of members that is made; what a block of members says: plain mathematics. -/
namespace Go.Proofs.Ytbkjcngehhdchaa
open Go.RowKit
set_option linter.unusedVariables false
set_option linter.unusedSimpArgs false
theorem hid {p : Prop} (h : p) : Hid p := h
def mbF (L : List MbI) (i : Nat) : MbI := L.getD i ⟨⟨#[]⟩, ⟨#[]⟩⟩
theorem mbF_at {L : List MbI} {i : Nat} (h : i < L.length) : mbF L i = L[i] := by
  unfold mbF; rw [List.getD_eq_getElem?_getD, List.getElem?_eq_getElem h]; rfl
def mbC (L : List MbI) : List Value := L.flatMap fun p => [.string p.a, .string p.d]
theorem mbC_snoc (L : List MbI) (p : MbI) : mbC L ++ [.string p.a, .string p.d] = mbC (L ++ [p]) := by simp [mbC]
theorem mbC_len (L : List MbI) : (mbC L).length = 2 * L.length := by
  induction L with
  | nil => rfl
  | cons p L ih =>
    have e : mbC (p :: L) = [.string p.a, .string p.d] ++ mbC L := rfl
    rw [e, List.length_append, ih]; simp; omega
theorem mbC_at : ∀ (L : List MbI) (i : Nat), i < L.length → (mbC L)[2 * i]? = some (.string (mbF L i).a) ∧ (mbC L)[2 * i + 1]? = some (.string (mbF L i).d)
  | [], _, h => by simp at h
  | p :: L, 0, _ => ⟨rfl, rfl⟩
  | p :: L, i + 1, h => by
    have ih := mbC_at L i (by simpa using h)
    exact ih
theorem own2_form {w : World} {B n : Nat} {v : Value} {xs : List Value} (h : w.ownsRow B 41 2 v n xs) (h0 : 0 < n) :
    ∃ g cap cur, v = .slice (some ⟨g, 0, none⟩) n cap ∧ B ≤ g ∧ w.heap[g]? = some (.cells cur 41 (0, 0)) ∧ 2 * n ≤ cur.size ∧ ∀ (j : Nat) (u : Value), xs[j]? = some u → cur[j]? = some u := by
  obtain ⟨hl, ⟨_, h1⟩ | ⟨g, cap, cur, h1, h2, h3, h4, h5, h6, h7⟩⟩ := h
  · omega
  · refine ⟨g, cap, cur, h1, h2, h3, by omega, fun j u hj => ?_⟩
    rw [← h7, List.getElem?_take] at hj
    split at hj
    · simpa using hj
    · cases hj
theorem own2_slice {w : World} {B n : Nat} {v : Value} {xs : List Value} (h : w.ownsRow B 41 2 v n xs) : ∃ a c, v = .slice a n c := by
  obtain ⟨hl, ⟨h0, hn⟩ | ⟨g, cap, cur, h1, _⟩⟩ := h
  · subst hn; exact ⟨_, _, h0⟩
  · exact ⟨_, _, h1⟩
theorem own2_arg {w : World} {B : Nat} {v : Value} {L : List MbI} (h : w.ownsRow B 41 2 v L.length (mbC L)) : MbArg w v L.length (mbF L) := by
  obtain ⟨a, c, rfl⟩ := own2_slice h
  refine ⟨a, c, rfl, fun h0 => ?_⟩
  obtain ⟨g, cap, cur, h1, h2, h3, h4, h5⟩ := own2_form h h0
  cases h1
  exact ⟨g, rfl, (Array.getElem?_eq_some_iff.1 h3).1, fun i hi => (cell_of_row _ _ _ _ _ _ h3).trans (h5 _ _ (mbC_at L i hi).1), fun i hi => (cell_of_row _ _ _ _ _ _ h3).trans (h5 _ _ (mbC_at L i hi).2)⟩
theorem own2_call {w w' : World} {B z : Nat} {e : TypeId} {v : Value} {n : Nat} {xs : List Value} (h : w.ownsRow B e z v n xs) (hb : Below w.heap.size w w') : w'.ownsRow B e z v n xs := by
  obtain ⟨h0, h1 | ⟨g, cap, cur, h1, h2, h3, h4, h5, h6, h7⟩⟩ := h
  · exact ⟨h0, Or.inl h1⟩
  · exact ⟨h0, Or.inr ⟨g, cap, cur, h1, h2, (hb.block g (Array.getElem?_eq_some_iff.1 h3).1).trans h3, h4, h5, h6, h7⟩⟩
theorem own2_base {w : World} {B C z : Nat} {e : TypeId} {v : Value} {n : Nat} {xs : List Value} (h : w.ownsRow B e z v n xs) (hC : C ≤ B) : w.ownsRow C e z v n xs := by
  obtain ⟨h0, h1 | ⟨g, cap, cur, h1, h2, h3⟩⟩ := h
  · exact ⟨h0, Or.inl h1⟩
  · exact ⟨h0, Or.inr ⟨g, cap, cur, h1, Nat.le_trans hC h2, h3⟩⟩
/-- names and how many bytes each has -/
def naI (r : ByteArray) : Nat → Option (List (ByteArray × Nat) × ByteArray)
  | 0 => some ([], r)
  | i + 1 => match naI r i with
    | none => none
    | some (L, r1) => match datI r1 with
      | none => none
      | some (a, r2) => match numI r2 with
        | none => none
        | some (z, r3) => some (L ++ [(a, z)], r3)
theorem naI_none {r : ByteArray} {i : Nat} (h : naI r i = none) : ∀ j, naI r (i + j) = none
  | 0 => h
  | j + 1 => by
    have ih := naI_none h j
    show naI r (i + j + 1) = none
    unfold naI; rw [ih]
theorem naI_stop {r : ByteArray} {i n : Nat} (h : naI r i = none) (hi : i ≤ n) : naI r n = none := by
  have := naI_none h (n - i)
  rw [show i + (n - i) = n by omega] at this
  exact this
theorem naI_no1 {r r1 : ByteArray} {i : Nat} {L : List (ByteArray × Nat)} (h : naI r i = some (L, r1)) (h1 : datI r1 = none) : naI r (i + 1) = none := by
  unfold naI; rw [h]; simp only []; rw [h1]
theorem naI_no2 {r r1 r2 a : ByteArray} {i : Nat} {L : List (ByteArray × Nat)} (h : naI r i = some (L, r1)) (h1 : datI r1 = some (a, r2)) (h2 : numI r2 = none) : naI r (i + 1) = none := by
  unfold naI; rw [h]; simp only []; rw [h1]; simp only []; rw [h2]
theorem naI_go {r r1 r2 r3 a : ByteArray} {i z : Nat} {L : List (ByteArray × Nat)} (h : naI r i = some (L, r1)) (h1 : datI r1 = some (a, r2)) (h2 : numI r2 = some (z, r3)) : naI r (i + 1) = some (L ++ [(a, z)], r3) := by
  conv => lhs; unfold naI
  rw [h]; simp only []; rw [h1]; simp only []; rw [h2]
theorem naI_bd {r : ByteArray} : ∀ {i : Nat} {L : List (ByteArray × Nat)} {r' : ByteArray}, naI r i = some (L, r') → L.length = i ∧ r'.size ≤ r.size ∧ ∀ p ∈ L, p.1.size ≤ r.size ∧ p.2 ≤ 1000000000000
  | 0, L, r', h => by
    unfold naI at h
    cases h
    exact ⟨rfl, Nat.le_refl _, fun p hp => (by cases hp)⟩
  | i + 1, L, r', h => by
    unfold naI at h
    cases h0 : naI r i with
    | none => rw [h0] at h; cases h
    | some q =>
      obtain ⟨L0, r1⟩ := q
      rw [h0] at h
      simp only [] at h
      obtain ⟨a1, a2, a3⟩ := naI_bd h0
      cases h1 : datI r1 with
      | none => rw [h1] at h; cases h
      | some q1 =>
        obtain ⟨a, r2⟩ := q1
        rw [h1] at h
        simp only [] at h
        obtain ⟨b1, b2⟩ := datI_bd h1
        cases h2 : numI r2 with
        | none => rw [h2] at h; cases h
        | some q2 =>
          obtain ⟨z, r3⟩ := q2
          rw [h2] at h
          obtain ⟨c1, c2⟩ := numI_bd h2
          cases h
          refine ⟨by rw [List.length_append, a1]; rfl, by omega, fun p hp => ?_⟩
          rcases List.mem_append.1 hp with hp | hp
          · exact a3 p hp
          · simp at hp; subst hp; exact ⟨by show a.size ≤ _; omega, c1⟩
/-- the bytes that the first of them have -/
def szS (L : List (ByteArray × Nat)) : Nat → Nat
  | 0 => 0
  | i + 1 => szS L i + (L.getD i (⟨#[]⟩, 0)).2
theorem szS_mono (L : List (ByteArray × Nat)) {i n : Nat} (h : i ≤ n) : szS L i ≤ szS L n := by
  induction n with
  | zero => obtain rfl : i = 0 := by omega
            exact Nat.le_refl _
  | succ n ih =>
    by_cases e : i = n + 1
    · subst e; exact Nat.le_refl _
    · exact Nat.le_trans (ih (by omega)) (Nat.le_add_right _ _)
/-- the members that they are of these data -/
def mOf (L : List (ByteArray × Nat)) (d : ByteArray) (i : Nat) : MbI := ⟨(L.getD i (⟨#[]⟩, 0)).1, d.extract (szS L i) (szS L (i + 1))⟩
def mL (L : List (ByteArray × Nat)) (d : ByteArray) : List MbI := (List.range L.length).map (mOf L d)
theorem mL_len (L : List (ByteArray × Nat)) (d : ByteArray) : (mL L d).length = L.length := by simp [mL]
theorem mL_at (L : List (ByteArray × Nat)) (d : ByteArray) {i : Nat} (h : i < L.length) : mbF (mL L d) i = mOf L d i := by
  rw [mbF_at (by rw [mL_len]; exact h)]
  simp [mL]
noncomputable def rdS (s : ByteArray) : Option (List MbI) := open Classical in match numI s with
  | none => none
  | some (n, r) => if 60 < n then none else match naI r n with
    | none => none
    | some (L, r1) => match datI r1 with
      | none => none
      | some (p, t) => match unp p with
        | none => none
        | some d => if sumB d = t ∧ szS L n = d.size ∧ mbR (mbF (mL L d)) n then some (mL L d) else none
theorem rdS_no1 {s : ByteArray} (h : numI s = none) : rdS s = none := by unfold rdS; rw [h]
theorem rdS_no2 {s r : ByteArray} {n : Nat} (h : numI s = some (n, r)) (h1 : 60 < n) : rdS s = none := by unfold rdS; rw [h]; simp only []; rw [if_pos h1]
theorem rdS_no3 {s r : ByteArray} {n : Nat} (h : numI s = some (n, r)) (h1 : naI r n = none) : rdS s = none := by
  unfold rdS; rw [h]; simp only []
  split
  · rfl
  · rw [h1]
theorem rdS_no4 {s r r1 : ByteArray} {n : Nat} {L : List (ByteArray × Nat)} (h : numI s = some (n, r)) (h1 : naI r n = some (L, r1)) (h2 : datI r1 = none) : rdS s = none := by
  unfold rdS; rw [h]; simp only []
  split
  · rfl
  · rw [h1]; simp only []; rw [h2]
theorem rdS_no5 {s r r1 p t : ByteArray} {n : Nat} {L : List (ByteArray × Nat)} (h : numI s = some (n, r)) (h1 : naI r n = some (L, r1)) (h2 : datI r1 = some (p, t)) (h3 : unp p = none) : rdS s = none := by
  unfold rdS; rw [h]; simp only []
  split
  · rfl
  · rw [h1]; simp only []; rw [h2]; simp only []; rw [h3]
theorem rdS_no6 {s r r1 p t d : ByteArray} {n : Nat} {L : List (ByteArray × Nat)} (h : numI s = some (n, r)) (h1 : naI r n = some (L, r1)) (h2 : datI r1 = some (p, t)) (h3 : unp p = some d) (h4 : ¬ (sumB d = t ∧ szS L n = d.size ∧ mbR (mbF (mL L d)) n)) : rdS s = none := by
  unfold rdS; rw [h]; simp only []
  split
  · rfl
  · rw [h1]; simp only []; rw [h2]; simp only []; rw [h3]; simp only []; rw [if_neg h4]
theorem rdS_yes {s r r1 p t d : ByteArray} {n : Nat} {L : List (ByteArray × Nat)} (h : numI s = some (n, r)) (h0 : n ≤ 60) (h1 : naI r n = some (L, r1)) (h2 : datI r1 = some (p, t)) (h3 : unp p = some d) (h4 : sumB d = t ∧ szS L n = d.size ∧ mbR (mbF (mL L d)) n) : rdS s = some (mL L d) := by
  unfold rdS; rw [h]; simp only []
  rw [if_neg (by omega), h1]; simp only []; rw [h2]; simp only []; rw [h3]; simp only []; rw [if_pos h4]
/-- what a reader of a block answers -/
def RsPost (w : World) (R : Option (List MbI)) (e : Ending) (w' : World) : Prop := (∃ v, e = .returned (.tuple #[v, .bool R.isSome]) ∧ w'.ownsRow w.heap.size 41 2 v (R.getD []).length (mbC (R.getD []))) ∧ Below w.heap.size w w'
theorem rs_nil {w w' : World} (h : Below w.heap.size w w') : RsPost w none (.returned (.tuple #[.slice none 0 0, .bool false])) w' := ⟨⟨_, rfl, rfl, Or.inl ⟨rfl, rfl⟩⟩, h⟩
end Go.Proofs.Ytbkjcngehhdchaa
