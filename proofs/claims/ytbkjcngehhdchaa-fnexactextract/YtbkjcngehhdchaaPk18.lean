/-
  Several texts of this seat as one: RngSo, RngSp, RngSq.
-/
import Derived.Test.YtbkjcngehhdchaaPk17

/-!   The coder of ranges: the specification's shift, where bytes go out. -/
namespace Go.Proofs.Ytbkjcngehhdchaa
open Go.RowKit
set_option linter.unusedVariables false
set_option linter.unusedSimpArgs false
structure SHL (w wr : World) (B g : Nat) (s : RS) (oj : List Nat) (v vp : Value) : Prop where
  own : wr.ownsRow B 5 1 v oj.length (byC oj)
  pr : wr.ownsRow B 2 1 vp 512 ((List.range 512).map fun j => .int .i64 (s.probs j : Int))
  below : Below B w wr
  box : wr.heap[g]? = some (.cells #[.int .u64 (s.low : Int), .int .u32 (s.width : Int), .int .u8 (s.held : Int), .int .i64 (s.many : Int), v, vp] 112 (0, 0))
  res : wr.heap[g + 1]? = some (.cells #[.int .u64 0, .int .u32 0, .int .u8 0, .int .i64 0, .slice none 0 0, .slice none 0 0] 112 (0, 0))
  gB : B ≤ g
  gW : w.heap.size ≤ g
  keep : Keep w wr
theorem byC_snoc (o : List Nat) (x : Nat) : byC (o ++ [x]) = byC o ++ [.int .u8 (x : Int)] := by simp [byC]
theorem SHL.box4 {w wr w4 : World} {B g : Nat} {s : RS} {oj : List Nat} {v vp : Value} (h : SHL w wr B g s oj v vp) (X : Obj) (h2 : (wr.alloc X).grownBy w4 v.ownBlock) :
    w4.heap[g]? = some (.cells #[.int .u64 (s.low : Int), .int .u32 (s.width : Int), .int .u8 (s.held : Int), .int .i64 (s.many : Int), v, vp] 112 (0, 0)) := by
  have hgl := (Array.getElem?_eq_some_iff.1 h.box).1
  rw [h2.block g (by simp; omega) (row_apartE (by decide) h.own h.box), Below.heap_alloc _ _ _ hgl]; exact h.box
theorem SHL.put {w wr w4 : World} {B g : Nat} {s : RS} {oj : List Nat} {v vp v' : Value} {x : Nat} (h : SHL w wr B g s oj v vp) (X : Obj)
    (h1 : w4.ownsRow B 5 1 v' (oj.length + 1) (byC oj ++ [.int .u8 (x : Int)])) (h2 : (wr.alloc X).grownBy w4 v.ownBlock) :
    SHL w (w4.setCell ⟨g, 4, none⟩ v') B g s (oj ++ [x]) v' vp := by
  have hgl := (Array.getElem?_eq_some_iff.1 h.box).1
  have hrl := (Array.getElem?_eq_some_iff.1 h.res).1
  have hb4 : w4.heap[g]? = some (.cells #[.int .u64 (s.low : Int), .int .u32 (s.width : Int), .int .u8 (s.held : Int), .int .i64 (s.many : Int), v, vp] 112 (0, 0)) := by
    rw [h2.block g (by simp; omega) (row_apartE (by decide) h.own h.box), Below.heap_alloc _ _ _ hgl]; exact h.box
  have hr4 : w4.heap[g + 1]? = some (.cells #[.int .u64 0, .int .u32 0, .int .u8 0, .int .i64 0, .slice none 0 0, .slice none 0 0] 112 (0, 0)) := by
    rw [h2.block (g + 1) (by simp; omega) (row_apartE (by decide) h.own h.res), Below.heap_alloc _ _ _ hrl]; exact h.res
  have hp4 : w4.ownsRow B 2 1 vp 512 ((List.range 512).map fun j => .int .i64 (s.probs j : Int)) := by
    refine World.ownsRow.kept (row := v.ownBlock) (h.pr.alloc X) h2 ?_
    cases e : vp.ownBlock with
    | none => exact Or.inl rfl
    | some q =>
      refine Or.inr ?_
      intro c
      obtain ⟨_, ⟨h0, _⟩ | ⟨q2, cap, cur, e1, _, e3, _⟩⟩ := h.pr
      · rw [h0] at e; cases e
      · rw [e1] at e
        have e : q2 = q := Option.some.inj e
        subst e
        exact row_apartE (by decide) h.own e3 c
  refine ⟨?_, hp4.kept (grownBy_setC _ g 4 _) (Or.inr (fun e => row_apartE (by decide) hp4 hb4 e.symm)), ?_, heap_setCell_same _ _ _ _ _ _ hb4, ?_, h.gB, h.gW, ?_⟩
  · rw [byC_snoc, List.length_append]
    exact h1.kept (grownBy_setC _ g 4 _) (Or.inr (fun e => row_apartE (by decide) h1 hb4 e.symm))
  · exact ((h.below.alloc (by have := h.gB; omega) X).grown h2 (by have := h.gB; simp; omega) (fun k hk => (h.own.lt k hk).1)).setCell (p := ⟨g, 4, none⟩) h.gB _
  · rw [heap_setCell_other _ _ _ _ (by simp)]; exact hr4
  · refine Keep.set (fun k cs t m q1 q2 => ?_) h.gW 4 v'
    have q3 := h.keep k cs t m q1 q2
    have q4 := (Array.getElem?_eq_some_iff.1 q3).1
    rw [h2.block k (by simp; omega) (row_apartE q2 h.own q3), Below.heap_alloc _ _ _ q4]; exact q3
structure FINW (w W : World) (B g : Nat) (s : RS) (L : List Nat) (v vp : Value) (C1 C2 : Array Value) : Prop where
  own : W.ownsRow B 5 1 v L.length (byC L)
  pr : W.ownsRow B 2 1 vp 512 ((List.range 512).map fun j => .int .i64 (s.probs j : Int))
  below : Below B w W
  box : W.heap[g]? = some (.cells C1 112 (0, 0))
  res : W.heap[g + 1]? = some (.cells C2 112 (0, 0))
  gB : B ≤ g
  gW : w.heap.size ≤ g
  keep : Keep w W
theorem FINW.setBox {w W : World} {B g : Nat} {s : RS} {L : List Nat} {v vp : Value} {C1 C2 : Array Value} (h : FINW w W B g s L v vp C1 C2) (k : Nat) (u : Value) : FINW w (W.setCell ⟨g, k, none⟩ u) B g s L v vp (C1.setIfInBounds k u) C2 :=
  ⟨h.own.kept (grownBy_setC _ g k _) (Or.inr (fun e => row_apartE (by decide) h.own h.box e.symm)), h.pr.kept (grownBy_setC _ g k _) (Or.inr (fun e => row_apartE (by decide) h.pr h.box e.symm)), h.below.setCell (p := ⟨g, k, none⟩) h.gB _, heap_setCell_same _ _ _ _ _ _ h.box, by rw [heap_setCell_other _ _ _ _ (by simp)]; exact h.res, h.gB, h.gW, h.keep.set h.gW _ _⟩
theorem FINW.setRes {w W : World} {B g : Nat} {s : RS} {L : List Nat} {v vp : Value} {C1 C2 : Array Value} (h : FINW w W B g s L v vp C1 C2) (k : Nat) (u : Value) : FINW w (W.setCell ⟨g + 1, k, none⟩ u) B g s L v vp C1 (C2.setIfInBounds k u) :=
  ⟨h.own.kept (grownBy_setC _ (g + 1) k _) (Or.inr (fun e => row_apartE (by decide) h.own h.res e.symm)), h.pr.kept (grownBy_setC _ (g + 1) k _) (Or.inr (fun e => row_apartE (by decide) h.pr h.res e.symm)), h.below.setCell (p := ⟨g + 1, k, none⟩) (by have := h.gB; show B ≤ g + 1; omega) _, by rw [heap_setCell_other _ _ _ _ (by simp)]; exact h.box, heap_setCell_same _ _ _ _ _ _ h.res, h.gB, h.gW, h.keep.set (by have := h.gW; omega) _ _⟩
theorem dg_take0 (h m c : Nat) : (dg h m c).take 0 = [] := rfl
theorem dg_lenM (h m c : Nat) (hm : 1 ≤ m) : (dg h m c).length = m := by rw [dg_len]; omega
theorem dg_step (h m c j : Nat) (hj : j < m) : (dg h m c).take (j + 1) = (dg h m c).take j ++ [((if j = 0 then h else 255) + c) % 256] := by
  have hl : j < (dg h m c).length := by rw [dg_lenM _ _ _ (by omega)]; exact hj
  rw [List.take_succ_eq_append_getElem hl]
  congr 2
  cases j with
  | zero => rfl
  | succ i =>
    simp only [dg, List.getElem_cons_succ, List.getElem_replicate]
    rw [if_neg (by omega)]
set_option maxRecDepth 100000 in
set_option maxHeartbeats 2000000 in
theorem shift_outA {w : World} {B : Nat} {s : RS} {V vo vp : Value} (h : ESV w B s V vo vp) (hB : B ≤ w.heap.size) (hs : s.low < 8589934592 ∧ s.held < 256 ∧ 1 ≤ s.many) (hN : s.os.length + s.many ≤ 900000) (c1 : s.low < 4278190080) :
    Calls Try.prog 75 #[V] w fun e w' => (∃ V' vo', e = .returned V' ∧ ESV w' B s.sh V' vo' vp) ∧ Keep w w' ∧ Below B w w' := by
  obtain ⟨hv, ho, hp⟩ := h
  subst hv
  have hl := hs.1
  have hh := hs.2.1
  have hm := hs.2.2
  obtain ⟨oa, ol, oc, rfl⟩ := own_slice ho
  obtain ⟨pa, pl, pc, rfl⟩ := own_slice hp
  obtain ⟨i0, hi, hz0, hz1, hz2⟩ := info_parts Try.infU8
  have hd1 : decide ((s.low : Int) < 4278190080) = true := by simp; omega
  have hd2 : decide ((4294967296 : Int) ≤ (s.low : Int)) = false := by simp; omega
  obtain ⟨y, hy⟩ : ∃ y : Nat, y = s.low % 16777216 := ⟨_, rfl⟩
  obtain ⟨z, hz⟩ : ∃ z : Nat, z = y * 256 := ⟨_, rfl⟩
  obtain ⟨c, hc⟩ : ∃ c : Nat, c = s.low / 4294967296 := ⟨_, rfl⟩
  obtain ⟨q, hq⟩ : ∃ q : Nat, q = s.low / 16777216 := ⟨_, rfl⟩
  obtain ⟨h2, hh2⟩ : ∃ h2 : Nat, h2 = q % 256 := ⟨_, rfl⟩
  have hand : bits BinOp.and IntKind.u64 (s.low : Int) 16777215 = (y : Int) := by rw [hy]; exact and24 s.low (by omega)
  have hwr : IntKind.u64.wrap ((y : Int) * 256) = (z : Int) := by rw [hz, hy]; exact low256 s.low
  have hcI : (s.low : Int) / 4294967296 = (c : Int) := by omega
  have hqI : (s.low : Int) / 16777216 = (q : Int) := by omega
  have hwq : IntKind.u8.wrap (q : Int) = (h2 : Int) := by rw [IntKind.wrap_u8]; omega
  have hc2 : c ≤ 1 := by omega
  have hwc : IntKind.u8.wrap (c : Int) = (c : Int) := by rw [IntKind.wrap_u8]; omega
  have HS : Hid (s.sh = { s with os := s.out, held := h2, many := 1, low := z }) := by
    show s.sh = _
    unfold RS.sh
    rw [if_pos (by omega), hh2, hz, hq, hy]
  have HSO : Hid (s.out = s.os ++ dg s.held s.many c) := by rw [hc]; exact rfl
  have HO : Hid (SHL w ((w.alloc (.cells #[.int .u64 (s.low : Int), .int .u32 (s.width : Int), .int .u8 (s.held : Int), .int .i64 (s.many : Int), .slice oa ol oc, .slice pa pl pc] 112)).alloc (.cells #[.int .u64 0, .int .u32 0, .int .u8 0, .int .i64 0, .slice none 0 0, .slice none 0 0] 112)) B w.heap.size s (s.os ++ (dg s.held s.many c).take 0) (.slice oa ol oc) (.slice pa pl pc)) := by
    rw [dg_take0, List.append_nil]
    refine ⟨(ho.alloc _).alloc _, (hp.alloc _).alloc _, ((Below.refl _ _).alloc hB _).alloc (by simp; omega) _, ?_, ?_, hB, Nat.le_refl _, ((Keep.refl _).alloc _).alloc _⟩
    · rw [Below.heap_alloc _ _ _ (by simp)]; exact heap_alloc_new w _
    · have h := heap_alloc_new (w.alloc (.cells #[.int .u64 (s.low : Int), .int .u32 (s.width : Int), .int .u8 (s.held : Int), .int .i64 (s.many : Int), .slice oa ol oc, .slice pa pl pc] 112)) (.cells #[.int .u64 0, .int .u32 0, .int .u8 0, .int .i64 0, .slice none 0 0, .slice none 0 0] 112)
      simpa using h
  clear ho hp c1 hy hz hc hq hh2 hl hs
  go_enter Try.func75, Try.ntmps75
  go_wp2_with fail
  go_loopw [4, 5] (fun t u wr => ∃ (j : Nat) (v : Value), j ≤ s.many ∧ u = .int .i64 (j : Int) ∧ t = .int .u8 ((if j = 0 then s.held else 255 : Nat) : Int) ∧ Hid (SHL w wr B w.heap.size s (s.os ++ (dg s.held s.many c).take j) v (.slice pa pl pc))) (fun _ u _ => s.many - natOfI u)
  case atStart => exact ⟨0, _, by omega, rfl, rfl, HO⟩
  case round =>
    clear HO
    obtain ⟨j, v, hj, rfl, rfl, HL⟩ := hrel
    have b3 : wr.cell? ⟨w.heap.size, 3, none⟩ = some (.int .i64 (s.many : Int)) := cell_of_row _ _ _ _ _ _ HL.out.box
    have b4 : wr.cell? ⟨w.heap.size, 4, none⟩ = some v := cell_of_row _ _ _ _ _ _ HL.out.box
    have z4 := frozen_of_row wr w.heap.size 4 _ _ HL.out.box
    by_cases hlt : j < s.many
    · have hltI : (j : Int) < (s.many : Int) := by omega
      have hBw : B ≤ wr.heap.size := Nat.le_trans hB (by have := HL.out.below.size; omega)
      obtain ⟨u, hu⟩ : ∃ u : Nat, u = if j = 0 then s.held else 255 := ⟨_, rfl⟩
      have hu2 : u < 256 := by rw [hu]; split <;> omega
      obtain ⟨x, hx⟩ : ∃ x : Nat, x = (u + c) % 256 := ⟨_, rfl⟩
      have hwx : IntKind.u8.wrap ((u : Int) + (c : Int)) = (x : Int) := by rw [IntKind.wrap_u8]; omega
      obtain ⟨L, hL⟩ : ∃ L, L = s.os ++ (dg s.held s.many c).take j := ⟨_, rfl⟩
      have hLL : L.length ≤ 900000 := by rw [hL, List.length_append, List.length_take]; omega
      have HD : Hid (s.os ++ (dg s.held s.many c).take (j + 1) = L ++ [x]) := by rw [dg_step _ _ _ _ hlt, ← List.append_assoc, ← hL, ← hu, ← hx]; exact rfl
      rw [← hu]
      rw [← hL] at HL
      clear hu hx hL
      go_wp2_with (at_builtin; (refine wpList_append_own _ rfl _ _ 36 rfl B 5 i0 _ 1 1 Try.underlying36 hi hz0 hz1 hz2 rfl (by decide) v L.length (byC L) rfl (HL.out.own.alloc _) ⟨wr.heap.size, 0, none⟩ 1 1 [_] rfl rfl (cell_one_new _ _ _) ?k2 ?k3 ?k4 ?k5 ?_))
      case k2 => intro u hu; simp at hu; subst hu; rfl
      case k3 => unfold maxLen; omega
      case k4 => omega
      case k5 => simp; omega
      intro v' w4 hown' hgrow _
      obtain ⟨ga, ca, rfl, _⟩ := owns_at hown' (by omega)
      have HN : Hid _ := HL.out.put _ hown' hgrow
      have HB : Hid _ := HL.out.box4 _ hgrow
      clear b3 b4 z4
      have b4 : w4.cell? ⟨w.heap.size, 4, none⟩ = some v := cell_of_row _ _ _ _ _ _ HB.out
      have z4 := frozen_of_row w4 w.heap.size 4 _ _ HB.out
      clear hown' hgrow HL
      go_wp2_with fail
      go_roundw
      case rel => exact ⟨j + 1, _, by omega, by go_num, by simp, by rw [HD.out]; exact HN⟩
      case measure => simp [natOfI]; omega
    · obtain rfl : j = s.many := by omega
      have HT : Hid ((dg s.held s.many c).take s.many = dg s.held s.many c) := List.take_of_length_le (by rw [dg_lenM _ _ _ hm]; exact Nat.le_refl _)
      rw [HT.out, ← HSO.out] at HL
      obtain ⟨va, vl, vc, rfl⟩ := own_slice HL.out.own
      obtain ⟨ud, hud⟩ : ∃ ud : Nat, ud = if s.many = 0 then s.held else 255 := ⟨_, rfl⟩
      rw [← hud]
      clear hud
      have b0 : wr.cell? ⟨w.heap.size, 0, none⟩ = some (.int .u64 (s.low : Int)) := cell_of_row _ _ _ _ _ _ HL.out.box
      have z0 := frozen_of_row wr w.heap.size 0 _ _ HL.out.box
      have z2 := frozen_of_row wr w.heap.size 2 _ _ HL.out.box
      have z3 := frozen_of_row wr w.heap.size 3 _ _ HL.out.box
      have b2 : wr.cell? ⟨w.heap.size, 2, none⟩ = some (.int .u8 (s.held : Int)) := cell_of_row _ _ _ _ _ _ HL.out.box
      have b1 : wr.cell? ⟨w.heap.size, 1, none⟩ = some (.int .u32 (s.width : Int)) := cell_of_row _ _ _ _ _ _ HL.out.box
      have b5 : wr.cell? ⟨w.heap.size, 5, none⟩ = some (.slice pa pl pc) := cell_of_row _ _ _ _ _ _ HL.out.box
      have r0 : wr.cell? ⟨w.heap.size + 1, 0, none⟩ = some (.int .u64 0) := cell_of_row _ _ _ _ _ _ HL.out.res
      have r1 : wr.cell? ⟨w.heap.size + 1, 1, none⟩ = some (.int .u32 0) := cell_of_row _ _ _ _ _ _ HL.out.res
      have r2 : wr.cell? ⟨w.heap.size + 1, 2, none⟩ = some (.int .u8 0) := cell_of_row _ _ _ _ _ _ HL.out.res
      have r3 : wr.cell? ⟨w.heap.size + 1, 3, none⟩ = some (.int .i64 0) := cell_of_row _ _ _ _ _ _ HL.out.res
      have r4 : wr.cell? ⟨w.heap.size + 1, 4, none⟩ = some (.slice none 0 0) := cell_of_row _ _ _ _ _ _ HL.out.res
      have r5 : wr.cell? ⟨w.heap.size + 1, 5, none⟩ = some (.slice none 0 0) := cell_of_row _ _ _ _ _ _ HL.out.res
      have y0 := frozen_of_row wr (w.heap.size + 1) 0 _ _ HL.out.res
      have y1 := frozen_of_row wr (w.heap.size + 1) 1 _ _ HL.out.res
      have y2 := frozen_of_row wr (w.heap.size + 1) 2 _ _ HL.out.res
      have y3 := frozen_of_row wr (w.heap.size + 1) 3 _ _ HL.out.res
      have y4 := frozen_of_row wr (w.heap.size + 1) 4 _ _ HL.out.res
      have y5 := frozen_of_row wr (w.heap.size + 1) 5 _ _ HL.out.res
      have HF : Hid _ := (((((((((((FINW.mk HL.out.own HL.out.pr HL.out.below HL.out.box HL.out.res HL.out.gB HL.out.gW HL.out.keep).setBox 3 (.int .i64 0)).setBox 2 (.int .u8 (h2 : Int))).setBox 3 (.int .i64 1)).setBox 0 (.int .u64 (z : Int))).setRes 0 (.int .u64 (z : Int))).setRes 1 (.int .u32 (s.width : Int))).setRes 2 (.int .u8 (h2 : Int))).setRes 3 (.int .i64 1)).setRes 4 (.slice va vl vc)).setRes 5 (.slice pa pl pc))
      clear HL
      go_wp2_with fail
      refine bodyPost_ret (results_cell_row rfl _ _ (w.heap.size + 1) 112 #[.int .u64 (z : Int), .int .u32 (s.width : Int), .int .u8 (h2 : Int), .int .i64 1, .slice va vl vc, .slice pa pl pc] (0, 0) _ rfl HF.out.res Try.underlying112 rfl ?_) rfl ⟨⟨_, .slice va vl vc, rfl, ?_⟩, HF.out.keep, HF.out.below⟩
      · kernel_rfl
      · rw [HS.out]
        exact ⟨rfl, HF.out.own, HF.out.pr⟩
set_option maxRecDepth 100000 in
set_option maxHeartbeats 2000000 in
theorem shift_outB {w : World} {B : Nat} {s : RS} {V vo vp : Value} (h : ESV w B s V vo vp) (hB : B ≤ w.heap.size) (hs : s.low < 8589934592 ∧ s.held < 256 ∧ 1 ≤ s.many) (hN : s.os.length + s.many ≤ 900000) (c1 : 4294967296 ≤ s.low) :
    Calls Try.prog 75 #[V] w fun e w' => (∃ V' vo', e = .returned V' ∧ ESV w' B s.sh V' vo' vp) ∧ Keep w w' ∧ Below B w w' := by
  obtain ⟨hv, ho, hp⟩ := h
  subst hv
  have hl := hs.1
  have hh := hs.2.1
  have hm := hs.2.2
  obtain ⟨oa, ol, oc, rfl⟩ := own_slice ho
  obtain ⟨pa, pl, pc, rfl⟩ := own_slice hp
  obtain ⟨i0, hi, hz0, hz1, hz2⟩ := info_parts Try.infU8
  have hd1 : decide ((s.low : Int) < 4278190080) = false := by simp; omega
  have hd2 : decide ((4294967296 : Int) ≤ (s.low : Int)) = true := by simp; omega
  obtain ⟨y, hy⟩ : ∃ y : Nat, y = s.low % 16777216 := ⟨_, rfl⟩
  obtain ⟨z, hz⟩ : ∃ z : Nat, z = y * 256 := ⟨_, rfl⟩
  obtain ⟨c, hc⟩ : ∃ c : Nat, c = s.low / 4294967296 := ⟨_, rfl⟩
  obtain ⟨q, hq⟩ : ∃ q : Nat, q = s.low / 16777216 := ⟨_, rfl⟩
  obtain ⟨h2, hh2⟩ : ∃ h2 : Nat, h2 = q % 256 := ⟨_, rfl⟩
  have hand : bits BinOp.and IntKind.u64 (s.low : Int) 16777215 = (y : Int) := by rw [hy]; exact and24 s.low (by omega)
  have hwr : IntKind.u64.wrap ((y : Int) * 256) = (z : Int) := by rw [hz, hy]; exact low256 s.low
  have hcI : (s.low : Int) / 4294967296 = (c : Int) := by omega
  have hqI : (s.low : Int) / 16777216 = (q : Int) := by omega
  have hwq : IntKind.u8.wrap (q : Int) = (h2 : Int) := by rw [IntKind.wrap_u8]; omega
  have hc2 : c ≤ 1 := by omega
  have hwc : IntKind.u8.wrap (c : Int) = (c : Int) := by rw [IntKind.wrap_u8]; omega
  have HS : Hid (s.sh = { s with os := s.out, held := h2, many := 1, low := z }) := by
    show s.sh = _
    unfold RS.sh
    rw [if_pos (by omega), hh2, hz, hq, hy]
  have HSO : Hid (s.out = s.os ++ dg s.held s.many c) := by rw [hc]; exact rfl
  have HO : Hid (SHL w ((w.alloc (.cells #[.int .u64 (s.low : Int), .int .u32 (s.width : Int), .int .u8 (s.held : Int), .int .i64 (s.many : Int), .slice oa ol oc, .slice pa pl pc] 112)).alloc (.cells #[.int .u64 0, .int .u32 0, .int .u8 0, .int .i64 0, .slice none 0 0, .slice none 0 0] 112)) B w.heap.size s (s.os ++ (dg s.held s.many c).take 0) (.slice oa ol oc) (.slice pa pl pc)) := by
    rw [dg_take0, List.append_nil]
    refine ⟨(ho.alloc _).alloc _, (hp.alloc _).alloc _, ((Below.refl _ _).alloc hB _).alloc (by simp; omega) _, ?_, ?_, hB, Nat.le_refl _, ((Keep.refl _).alloc _).alloc _⟩
    · rw [Below.heap_alloc _ _ _ (by simp)]; exact heap_alloc_new w _
    · have h := heap_alloc_new (w.alloc (.cells #[.int .u64 (s.low : Int), .int .u32 (s.width : Int), .int .u8 (s.held : Int), .int .i64 (s.many : Int), .slice oa ol oc, .slice pa pl pc] 112)) (.cells #[.int .u64 0, .int .u32 0, .int .u8 0, .int .i64 0, .slice none 0 0, .slice none 0 0] 112)
      simpa using h
  clear ho hp c1 hy hz hc hq hh2 hl hs
  go_enter Try.func75, Try.ntmps75
  go_wp2_with fail
  go_loopw [4, 5] (fun t u wr => ∃ (j : Nat) (v : Value), j ≤ s.many ∧ u = .int .i64 (j : Int) ∧ t = .int .u8 ((if j = 0 then s.held else 255 : Nat) : Int) ∧ Hid (SHL w wr B w.heap.size s (s.os ++ (dg s.held s.many c).take j) v (.slice pa pl pc))) (fun _ u _ => s.many - natOfI u)
  case atStart => exact ⟨0, _, by omega, rfl, rfl, HO⟩
  case round =>
    clear HO
    obtain ⟨j, v, hj, rfl, rfl, HL⟩ := hrel
    have b3 : wr.cell? ⟨w.heap.size, 3, none⟩ = some (.int .i64 (s.many : Int)) := cell_of_row _ _ _ _ _ _ HL.out.box
    have b4 : wr.cell? ⟨w.heap.size, 4, none⟩ = some v := cell_of_row _ _ _ _ _ _ HL.out.box
    have z4 := frozen_of_row wr w.heap.size 4 _ _ HL.out.box
    by_cases hlt : j < s.many
    · have hltI : (j : Int) < (s.many : Int) := by omega
      have hBw : B ≤ wr.heap.size := Nat.le_trans hB (by have := HL.out.below.size; omega)
      obtain ⟨u, hu⟩ : ∃ u : Nat, u = if j = 0 then s.held else 255 := ⟨_, rfl⟩
      have hu2 : u < 256 := by rw [hu]; split <;> omega
      obtain ⟨x, hx⟩ : ∃ x : Nat, x = (u + c) % 256 := ⟨_, rfl⟩
      have hwx : IntKind.u8.wrap ((u : Int) + (c : Int)) = (x : Int) := by rw [IntKind.wrap_u8]; omega
      obtain ⟨L, hL⟩ : ∃ L, L = s.os ++ (dg s.held s.many c).take j := ⟨_, rfl⟩
      have hLL : L.length ≤ 900000 := by rw [hL, List.length_append, List.length_take]; omega
      have HD : Hid (s.os ++ (dg s.held s.many c).take (j + 1) = L ++ [x]) := by rw [dg_step _ _ _ _ hlt, ← List.append_assoc, ← hL, ← hu, ← hx]; exact rfl
      rw [← hu]
      rw [← hL] at HL
      clear hu hx hL
      go_wp2_with (at_builtin; (refine wpList_append_own _ rfl _ _ 36 rfl B 5 i0 _ 1 1 Try.underlying36 hi hz0 hz1 hz2 rfl (by decide) v L.length (byC L) rfl (HL.out.own.alloc _) ⟨wr.heap.size, 0, none⟩ 1 1 [_] rfl rfl (cell_one_new _ _ _) ?k2 ?k3 ?k4 ?k5 ?_))
      case k2 => intro u hu; simp at hu; subst hu; rfl
      case k3 => unfold maxLen; omega
      case k4 => omega
      case k5 => simp; omega
      intro v' w4 hown' hgrow _
      obtain ⟨ga, ca, rfl, _⟩ := owns_at hown' (by omega)
      have HN : Hid _ := HL.out.put _ hown' hgrow
      have HB : Hid _ := HL.out.box4 _ hgrow
      clear b3 b4 z4
      have b4 : w4.cell? ⟨w.heap.size, 4, none⟩ = some v := cell_of_row _ _ _ _ _ _ HB.out
      have z4 := frozen_of_row w4 w.heap.size 4 _ _ HB.out
      clear hown' hgrow HL
      go_wp2_with fail
      go_roundw
      case rel => exact ⟨j + 1, _, by omega, by go_num, by simp, by rw [HD.out]; exact HN⟩
      case measure => simp [natOfI]; omega
    · obtain rfl : j = s.many := by omega
      have HT : Hid ((dg s.held s.many c).take s.many = dg s.held s.many c) := List.take_of_length_le (by rw [dg_lenM _ _ _ hm]; exact Nat.le_refl _)
      rw [HT.out, ← HSO.out] at HL
      obtain ⟨va, vl, vc, rfl⟩ := own_slice HL.out.own
      obtain ⟨ud, hud⟩ : ∃ ud : Nat, ud = if s.many = 0 then s.held else 255 := ⟨_, rfl⟩
      rw [← hud]
      clear hud
      have b0 : wr.cell? ⟨w.heap.size, 0, none⟩ = some (.int .u64 (s.low : Int)) := cell_of_row _ _ _ _ _ _ HL.out.box
      have z0 := frozen_of_row wr w.heap.size 0 _ _ HL.out.box
      have z2 := frozen_of_row wr w.heap.size 2 _ _ HL.out.box
      have z3 := frozen_of_row wr w.heap.size 3 _ _ HL.out.box
      have b2 : wr.cell? ⟨w.heap.size, 2, none⟩ = some (.int .u8 (s.held : Int)) := cell_of_row _ _ _ _ _ _ HL.out.box
      have b1 : wr.cell? ⟨w.heap.size, 1, none⟩ = some (.int .u32 (s.width : Int)) := cell_of_row _ _ _ _ _ _ HL.out.box
      have b5 : wr.cell? ⟨w.heap.size, 5, none⟩ = some (.slice pa pl pc) := cell_of_row _ _ _ _ _ _ HL.out.box
      have r0 : wr.cell? ⟨w.heap.size + 1, 0, none⟩ = some (.int .u64 0) := cell_of_row _ _ _ _ _ _ HL.out.res
      have r1 : wr.cell? ⟨w.heap.size + 1, 1, none⟩ = some (.int .u32 0) := cell_of_row _ _ _ _ _ _ HL.out.res
      have r2 : wr.cell? ⟨w.heap.size + 1, 2, none⟩ = some (.int .u8 0) := cell_of_row _ _ _ _ _ _ HL.out.res
      have r3 : wr.cell? ⟨w.heap.size + 1, 3, none⟩ = some (.int .i64 0) := cell_of_row _ _ _ _ _ _ HL.out.res
      have r4 : wr.cell? ⟨w.heap.size + 1, 4, none⟩ = some (.slice none 0 0) := cell_of_row _ _ _ _ _ _ HL.out.res
      have r5 : wr.cell? ⟨w.heap.size + 1, 5, none⟩ = some (.slice none 0 0) := cell_of_row _ _ _ _ _ _ HL.out.res
      have y0 := frozen_of_row wr (w.heap.size + 1) 0 _ _ HL.out.res
      have y1 := frozen_of_row wr (w.heap.size + 1) 1 _ _ HL.out.res
      have y2 := frozen_of_row wr (w.heap.size + 1) 2 _ _ HL.out.res
      have y3 := frozen_of_row wr (w.heap.size + 1) 3 _ _ HL.out.res
      have y4 := frozen_of_row wr (w.heap.size + 1) 4 _ _ HL.out.res
      have y5 := frozen_of_row wr (w.heap.size + 1) 5 _ _ HL.out.res
      have HF : Hid _ := (((((((((((FINW.mk HL.out.own HL.out.pr HL.out.below HL.out.box HL.out.res HL.out.gB HL.out.gW HL.out.keep).setBox 3 (.int .i64 0)).setBox 2 (.int .u8 (h2 : Int))).setBox 3 (.int .i64 1)).setBox 0 (.int .u64 (z : Int))).setRes 0 (.int .u64 (z : Int))).setRes 1 (.int .u32 (s.width : Int))).setRes 2 (.int .u8 (h2 : Int))).setRes 3 (.int .i64 1)).setRes 4 (.slice va vl vc)).setRes 5 (.slice pa pl pc))
      clear HL
      go_wp2_with fail
      refine bodyPost_ret (results_cell_row rfl _ _ (w.heap.size + 1) 112 #[.int .u64 (z : Int), .int .u32 (s.width : Int), .int .u8 (h2 : Int), .int .i64 1, .slice va vl vc, .slice pa pl pc] (0, 0) _ rfl HF.out.res Try.underlying112 rfl ?_) rfl ⟨⟨_, .slice va vl vc, rfl, ?_⟩, HF.out.keep, HF.out.below⟩
      · kernel_rfl
      · rw [HS.out]
        exact ⟨rfl, HF.out.own, HF.out.pr⟩
theorem shift_any {w : World} {B : Nat} {s : RS} {V vo vp : Value} (h : ESV w B s V vo vp) (hB : B ≤ w.heap.size) (hs : s.low < 8589934592 ∧ s.held < 256 ∧ 1 ≤ s.many) (hN : s.os.length + s.many ≤ 900000) :
    Calls Try.prog 75 #[V] w fun e w' => (∃ V' vo', e = .returned V' ∧ ESV w' B s.sh V' vo' vp) ∧ Keep w w' ∧ Below B w w' := by
  by_cases c1 : s.low < 4278190080
  · exact shift_outA h hB hs hN c1
  · by_cases c2 : 4294967296 ≤ s.low
    · exact shift_outB h hB hs hN c2
    · exact shift_hold h hB hs hN (by omega) (by omega)
/-- how long what is written may be: a shift makes it one longer -/
theorem sh_len {s : RS} (hm : 1 ≤ s.many) : s.sh.os.length + s.sh.many = s.os.length + s.many + 1 := by
  unfold RS.sh
  split
  · show s.out.length + 1 = _
    unfold RS.out
    rw [List.length_append, dg_lenM _ _ _ hm]
  · show s.os.length + (s.many + 1) = _
    omega
end Go.Proofs.Ytbkjcngehhdchaa

/-!   The coder of ranges: the specification's put. -/
namespace Go.Proofs.Ytbkjcngehhdchaa
open Go.RowKit
set_option linter.unusedVariables false
set_option linter.unusedSimpArgs false
theorem own_formP {w : World} {B n : Nat} {e : TypeId} {v : Value} {xs : List Value} (h : w.ownsRow B e 1 v n xs) (h0 : 0 < n) :
    ∃ g cap cur, v = .slice (some ⟨g, 0, none⟩) n cap ∧ B ≤ g ∧ w.heap[g]? = some (.cells cur e (0, 0)) ∧ ∀ (j : Nat) (u : Value), xs[j]? = some u → w.cell? ⟨g, j, none⟩ = some u := by
  obtain ⟨hl, ⟨_, h1⟩ | ⟨g, cap, cur, h1, h2, h3, h4, h5, h6, h7⟩⟩ := h
  · omega
  · refine ⟨g, cap, cur, h1, h2, h3, fun j u hj => ?_⟩
    rw [cell_of_row w g j _ _ _ h3]
    rw [← h7, List.getElem?_take] at hj
    split at hj
    · simpa using hj
    · cases hj
/-- what a put leaves as it is: every block of cells that are neither bytes nor numbers -/
def KeepI (w w' : World) : Prop := ∀ (k : Nat) (cs : Array Value) (t : TypeId) (m : Nat × Nat), w.heap[k]? = some (.cells cs t m) → t ≠ 5 → t ≠ 2 → w'.heap[k]? = some (.cells cs t m)
theorem KeepI.refl (w : World) : KeepI w w := fun k cs t m h _ _ => h
theorem KeepI.of {w w' : World} (h : Keep w w') : KeepI w w' := fun k cs t m h1 h2 _ => h k cs t m h1 h2
theorem KeepI.trans {w w' w2 : World} (h : KeepI w w') (h2 : KeepI w' w2) : KeepI w w2 := fun k cs t m h1 e1 e2 => h2 k cs t m (h k cs t m h1 e1 e2) e1 e2
theorem KeepI.alloc {w w' : World} (h : KeepI w w') (X : Obj) : KeepI w (w'.alloc X) := fun k cs t m h1 e1 e2 => by
  have h3 := h k cs t m h1 e1 e2
  rw [Below.heap_alloc _ _ _ (Array.getElem?_eq_some_iff.1 h3).1]; exact h3
theorem KeepI.set {w w' : World} (h : KeepI w w') {g : Nat} (hg : w.heap.size ≤ g) (k : Nat) (u : Value) : KeepI w (w'.setCell ⟨g, k, none⟩ u) := fun j cs t m h1 e1 e2 => by
  have h3 := (Array.getElem?_eq_some_iff.1 h1).1
  rw [heap_setCell_other _ _ _ _ (by show j ≠ g; omega)]; exact h j cs t m h1 e1 e2
theorem KeepI.setI {w w' : World} (h : KeepI w w') {g : Nat} {cs0 : Array Value} {m0 : Nat × Nat} (hg : w'.heap[g]? = some (.cells cs0 2 m0)) (k : Nat) (u : Value) : KeepI w (w'.setCell ⟨g, k, none⟩ u) := fun j cs t m h1 e1 e2 => by
  have h3 := h j cs t m h1 e1 e2
  by_cases e : j = g
  · subst e; rw [hg] at h3; injection h3 with h3; injection h3 with _ h4 _; exact absurd h4.symm e2
  · rw [heap_setCell_other _ _ _ _ (by show j ≠ g; exact e)]; exact h3
structure PW (w W : World) (B g x b : Nat) (t : RS) (vo vp : Value) : Prop where
  own : W.ownsRow B 5 1 vo t.os.length (byC t.os)
  pr : W.ownsRow B 2 1 vp 512 ((List.range 512).map fun j => .int .i64 (t.probs j : Int))
  below : Below B w W
  box : W.heap[g]? = some (.cells #[.int .u64 (t.low : Int), .int .u32 (t.width : Int), .int .u8 (t.held : Int), .int .i64 (t.many : Int), vo, vp] 112 (0, 0))
  ch : W.heap[g + 1]? = some (.cells #[.int .i64 (x : Int), .int .i64 (b : Int)] 108 (0, 0))
  res : W.heap[g + 2]? = some (.cells #[.int .u64 0, .int .u32 0, .int .u8 0, .int .i64 0, .slice none 0 0, .slice none 0 0] 112 (0, 0))
  gB : B ≤ g
  gW : w.heap.size ≤ g
  keep : KeepI w W
theorem PW.made {w : World} {B x b : Nat} {s : RS} {vo vp : Value} (lo wd : Nat) (ho : w.ownsRow B 5 1 vo s.os.length (byC s.os)) (hp : w.ownsRow B 2 1 vp 512 ((List.range 512).map fun j => .int .i64 (s.probs j : Int))) (hB : B ≤ w.heap.size) :
    PW w (((w.alloc (.cells #[.int .u64 (lo : Int), .int .u32 (wd : Int), .int .u8 (s.held : Int), .int .i64 (s.many : Int), vo, vp] 112)).alloc (.cells #[.int .i64 (x : Int), .int .i64 (b : Int)] 108)).alloc (.cells #[.int .u64 0, .int .u32 0, .int .u8 0, .int .i64 0, .slice none 0 0, .slice none 0 0] 112)) B w.heap.size x b { s with low := lo, width := wd } vo vp := by
  refine ⟨((ho.alloc _).alloc _).alloc _, ((hp.alloc _).alloc _).alloc _, (((Below.refl _ _).alloc hB _).alloc (by simp; omega) _).alloc (by simp; omega) _, ?_, ?_, ?_, hB, Nat.le_refl _, (((KeepI.refl _).alloc _).alloc _).alloc _⟩
  · rw [Below.heap_alloc _ _ _ (by simp; omega), Below.heap_alloc _ _ _ (by simp)]; exact heap_alloc_new w _
  · rw [Below.heap_alloc _ _ _ (by simp)]
    have h := heap_alloc_new (w.alloc (.cells #[.int .u64 (lo : Int), .int .u32 (wd : Int), .int .u8 (s.held : Int), .int .i64 (s.many : Int), vo, vp] 112)) (.cells #[.int .i64 (x : Int), .int .i64 (b : Int)] 108)
    simpa using h
  · have h := heap_alloc_new ((w.alloc (.cells #[.int .u64 (lo : Int), .int .u32 (wd : Int), .int .u8 (s.held : Int), .int .i64 (s.many : Int), vo, vp] 112)).alloc (.cells #[.int .i64 (x : Int), .int .i64 (b : Int)] 108)) (.cells #[.int .u64 0, .int .u32 0, .int .u8 0, .int .i64 0, .slice none 0 0, .slice none 0 0] 112)
    simpa using h
theorem PW.drew {w W : World} {B g x b : Nat} {t : RS} {vo vp : Value} (h : PW w W B g x b t vo vp) : PW w W.drew B g x b t vo vp := ⟨h.own, h.pr, h.below.drew, h.box, h.ch, h.res, h.gB, h.gW, h.keep⟩
/-- what the loop of put is measured by -/
def widthAt1 (g : Nat) (w : World) : Nat := match w.cell? ⟨g, 1, none⟩ with
  | some (.int _ i) => 16777216 - i.toNat
  | _ => 0
theorem widthAt1_eq {w : World} {g wd : Nat} (h : w.cell? ⟨g, 1, none⟩ = some (.int .u32 (wd : Int))) : widthAt1 g w = 16777216 - wd := by unfold widthAt1; rw [h]; simp
structure RESW (w W : World) (B r : Nat) (t : RS) (vo vp : Value) (C : Array Value) : Prop where
  own : W.ownsRow B 5 1 vo t.os.length (byC t.os)
  pr : W.ownsRow B 2 1 vp 512 ((List.range 512).map fun j => .int .i64 (t.probs j : Int))
  below : Below B w W
  res : W.heap[r]? = some (.cells C 112 (0, 0))
  gB : B ≤ r
  gW : w.heap.size ≤ r
  keep : KeepI w W
theorem RESW.set {w W : World} {B r : Nat} {t : RS} {vo vp : Value} {C : Array Value} (h : RESW w W B r t vo vp C) (k : Nat) (u : Value) : RESW w (W.setCell ⟨r, k, none⟩ u) B r t vo vp (C.setIfInBounds k u) :=
  ⟨h.own.kept (grownBy_setC _ r k _) (Or.inr (fun e => row_apartE (by decide) h.own h.res e.symm)), h.pr.kept (grownBy_setC _ r k _) (Or.inr (fun e => row_apartE (by decide) h.pr h.res e.symm)), h.below.setCell (p := ⟨r, k, none⟩) h.gB _, heap_setCell_same _ _ _ _ _ _ h.res, h.gB, h.gW, h.keep.set h.gW _ _⟩
structure BOXW (w W : World) (B g x b : Nat) (t : RS) (vo vp : Value) (C : Array Value) : Prop where
  own : W.ownsRow B 5 1 vo t.os.length (byC t.os)
  pr : W.ownsRow B 2 1 vp 512 ((List.range 512).map fun j => .int .i64 (t.probs j : Int))
  below : Below B w W
  box : W.heap[g]? = some (.cells C 112 (0, 0))
  ch : W.heap[g + 1]? = some (.cells #[.int .i64 (x : Int), .int .i64 (b : Int)] 108 (0, 0))
  res : W.heap[g + 2]? = some (.cells #[.int .u64 0, .int .u32 0, .int .u8 0, .int .i64 0, .slice none 0 0, .slice none 0 0] 112 (0, 0))
  gB : B ≤ g
  gW : w.heap.size ≤ g
  keep : KeepI w W
theorem BOXW.set {w W : World} {B g x b : Nat} {t : RS} {vo vp : Value} {C : Array Value} (h : BOXW w W B g x b t vo vp C) (k : Nat) (u : Value) : BOXW w (W.setCell ⟨g, k, none⟩ u) B g x b t vo vp (C.setIfInBounds k u) :=
  ⟨h.own.kept (grownBy_setC _ g k _) (Or.inr (fun e => row_apartE (by decide) h.own h.box e.symm)), h.pr.kept (grownBy_setC _ g k _) (Or.inr (fun e => row_apartE (by decide) h.pr h.box e.symm)), h.below.setCell (p := ⟨g, k, none⟩) h.gB _, heap_setCell_same _ _ _ _ _ _ h.box, by rw [heap_setCell_other _ _ _ _ (by simp)]; exact h.ch, by rw [heap_setCell_other _ _ _ _ (by simp)]; exact h.res, h.gB, h.gW, h.keep.set h.gW _ _⟩
theorem PW.toBox {w W : World} {B g x b : Nat} {t : RS} {vo vp : Value} (h : PW w W B g x b t vo vp) : BOXW w W B g x b t vo vp #[.int .u64 (t.low : Int), .int .u32 (t.width : Int), .int .u8 (t.held : Int), .int .i64 (t.many : Int), vo, vp] := ⟨h.own, h.pr, h.below, h.box, h.ch, h.res, h.gB, h.gW, h.keep⟩
theorem shw_as (t : RS) : ({ t with width := t.width * 256 } : RS).sh = t.shw := by unfold RS.shw RS.sh; split <;> rfl
theorem own_write {w : World} {B n g k c : Nat} {e : TypeId} {u : Value} {xs : List Value} (h : w.ownsRow B e 1 (.slice (some ⟨g, 0, none⟩) n c) n xs) :
    (w.setCell ⟨g, k, none⟩ u).ownsRow B e 1 (.slice (some ⟨g, 0, none⟩) n c) n (xs.set k u) := by
  obtain ⟨hl, ⟨h0, hn⟩ | ⟨g', cap, cur, h1, h2, h3, h4, h5, h6, h7⟩⟩ := h
  · cases h0
  · cases h1
    exact ⟨by rw [List.length_set]; exact hl, Or.inr ⟨g, c, cur.setIfInBounds k u, rfl, h2, heap_setCell_same _ _ _ _ _ _ h3, h4, h5, by rw [Array.size_setIfInBounds]; exact h6, by rw [Array.toList_setIfInBounds, List.take_set, h7]⟩⟩
theorem range_set (f : Nat → Value) (x : Nat) (u : Value) (N : Nat) : ((List.range N).map f).set x u = (List.range N).map fun j => if j = x then u else f j := by
  apply List.ext_getElem
  · simp
  · intro i h1 h2
    rw [List.getElem_set]
    simp only [List.getElem_map, List.getElem_range]
    by_cases e : x = i
    · subst e; simp
    · rw [if_neg e, if_neg (fun c => e c.symm)]
theorem PW.moved {w W : World} {B g x b gp c : Nat} {t : RS} {vo : Value} (h : PW w W B g x b t vo (.slice (some ⟨gp, 0, none⟩) 512 c)) (n : Nat) :
    PW w (W.setCell ⟨gp, x, none⟩ (.int .i64 (n : Int))) B g x b { t with probs := fun j => if j = x then n else t.probs j } vo (.slice (some ⟨gp, 0, none⟩) 512 c) := by
  obtain ⟨_, ⟨h0, _⟩ | ⟨g', cap, cur, h1, h2, h3, _⟩⟩ := id h.pr
  · cases h0
  · cases h1
    have a1 : g ≠ gp := fun e => row_apartE (by decide) h.pr h.box (by rw [e]; rfl)
    have a2 : g + 1 ≠ gp := fun e => row_apartE (by decide) h.pr h.ch (by rw [e]; rfl)
    have a3 : g + 2 ≠ gp := fun e => row_apartE (by decide) h.pr h.res (by rw [e]; rfl)
    refine ⟨h.own.kept (grownBy_setC _ gp x _) (Or.inr (fun e => row_apartE (by decide) h.own h3 e.symm)), ?_, h.below.setCell (p := ⟨gp, x, none⟩) h2 _, by rw [heap_setCell_other _ _ _ _ a1]; exact h.box, by rw [heap_setCell_other _ _ _ _ a2]; exact h.ch, by rw [heap_setCell_other _ _ _ _ a3]; exact h.res, h.gB, h.gW, h.keep.setI h3 _ _⟩
    have h4 := own_write (k := x) (u := .int .i64 (n : Int)) h.pr
    rw [range_set] at h4
    have e : (fun j => if j = x then Value.int .i64 (n : Int) else .int .i64 (t.probs j : Int)) = fun j => Value.int .i64 (((if j = x then n else t.probs j) : Nat) : Int) := by
      funext j; split <;> rfl
    rw [e] at h4
    exact h4
theorem bound_words {s : RS} (hs : s.Fine) (x : Nat) : ∃ q p m : Nat, q = s.width / 2048 ∧ p = s.probs x ∧ m = s.bound x ∧ IntKind.u32.wrap (p : Int) = (p : Int) ∧ IntKind.u32.wrap ((q : Int) * (p : Int)) = (m : Int) ∧ (s.width : Int) / 2048 = (q : Int) ∧ m < 4294967296 := by
  have hw := hs.w2
  have hp := hs.pr x
  refine ⟨_, _, _, rfl, rfl, rfl, by rw [IntKind.wrap_u32]; omega, ?_, by omega, ?_⟩
  · have hm : s.width / 2048 * s.probs x ≤ 2097151 * 2047 := Nat.mul_le_mul (by omega) hp.2
    have e : ((s.width / 2048 : Nat) : Int) * (s.probs x : Int) = ((s.width / 2048 * s.probs x : Nat) : Int) := by simp
    rw [e, IntKind.wrap_u32]
    unfold RS.bound
    omega
  · have hm : s.width / 2048 * s.probs x ≤ 2097151 * 2047 := Nat.mul_le_mul (by omega) hp.2
    unfold RS.bound
    omega
set_option maxRecDepth 100000 in
set_option maxHeartbeats 2000000 in
theorem sput_zero {w : World} {B x : Nat} {s : RS} {V vo vp : Value} (h : ESV w B s V vo vp) (hB : B ≤ w.heap.size) (hs : s.Fine) (hw16 : 16777216 ≤ s.width) (hN : s.os.length + s.many ≤ 800000) (hx : x < 512) :
    Calls Try.prog 74 #[V, .agg #[.int .i64 (x : Int), .int .i64 0]] w fun e w' => (∃ V' vo', e = .returned V' ∧ ESV w' B (s.put x 0) V' vo' vp) ∧ KeepI w w' ∧ Below B w w' := by
  obtain ⟨hv, ho, hp⟩ := h
  subst hv
  obtain ⟨oa, ol, oc, rfl⟩ := own_slice ho
  obtain ⟨gp, cp, curp, rfl, hgB, hgr, hcl⟩ := own_formP hp (by omega)
  have hxI : (x : Int) < 512 := by omega
  have hgl := (Array.getElem?_eq_some_iff.1 hgr).1
  obtain ⟨q, p, m, hq, hpp, hm, f1, f2, f3, f4⟩ := bound_words hs x
  have hc0 : w.cell? ⟨gp, x, none⟩ = some (.int .i64 (p : Int)) := hcl x _ (by rw [List.getElem?_map, List.getElem?_range hx]; simp [hpp])
  have hc3 : (((w.alloc (.cells #[.int .u64 (s.low : Int), .int .u32 (s.width : Int), .int .u8 (s.held : Int), .int .i64 (s.many : Int), .slice oa ol oc, .slice (some ⟨gp, 0, none⟩) 512 cp] 112)).alloc (.cells #[.int .i64 (x : Int), .int .i64 0] 108)).alloc (.cells #[.int .u64 0, .int .u32 0, .int .u8 0, .int .i64 0, .slice none 0 0, .slice none 0 0] 112)).cell? ⟨gp, x, none⟩ = some (.int .i64 (p : Int)) := by
    refine (World.cell?_of_block (a := ⟨gp, x, none⟩) (Below.heap_alloc _ _ _ ?_)).trans ((World.cell?_of_block (a := ⟨gp, x, none⟩) (Below.heap_alloc _ _ _ ?_)).trans ((World.cell?_of_block (a := ⟨gp, x, none⟩) (Below.heap_alloc _ _ _ ?_)).trans hc0))
    all_goals (simp; try omega)
  have HO : Hid (ESV w B s _ (.slice oa ol oc) _) := ⟨rfl, ho, hp⟩
  have HS : Hid (s.Fine ∧ q = s.width / 2048 ∧ p = s.probs x ∧ m = s.bound x) := ⟨hs, hq, hpp, hm⟩
  have HW16 : Hid (16777216 ≤ s.width) := hw16
  clear hcl ho hp hq hpp hm hs hw16
  go_enter Try.func74, Try.ntmps74
  have HFP : Hid ((s.pre x 0).Fine ∧ (s.pre x 0).os.length + (s.pre x 0).many ≤ 800000) := ⟨HS.out.1.pre HW16.out x 0, hN⟩
  have HPW : Hid _ := PW.made (w := w) (B := B) (x := x) (b := 0) (s := s) s.low m HO.out.out HO.out.pr hB
  obtain ⟨W, hW⟩ : ∃ W, W = (((w.alloc (.cells #[.int .u64 (s.low : Int), .int .u32 (m : Int), .int .u8 (s.held : Int), .int .i64 (s.many : Int), .slice oa ol oc, .slice (some ⟨gp, 0, none⟩) 512 cp] 112)).alloc (.cells #[.int .i64 (x : Int), .int .i64 0] 108)).alloc (.cells #[.int .u64 0, .int .u32 0, .int .u8 0, .int .i64 0, .slice none 0 0, .slice none 0 0] 112)) := ⟨_, rfl⟩
  have HPW2 : Hid (PW w W B w.heap.size x 0 { s with low := s.low, width := m } (.slice oa ol oc) (.slice (some ⟨gp, 0, none⟩) 512 cp)) := by rw [hW]; exact HPW
  clear HPW
  have HGR : Hid (W.heap[gp]? = some (.cells curp 2 (0, 0))) := by rw [hW, Below.heap_alloc _ _ _ (by simp; omega), Below.heap_alloc _ _ _ (by simp; omega), Below.heap_alloc _ _ _ hgl]; exact hgr
  have HGC : Hid (W.cell? ⟨gp, x, none⟩ = some (.int .i64 (p : Int))) := (cell_of_row W _ _ _ _ _ HGR.out).trans ((cell_of_row w _ _ _ _ _ hgr).symm.trans hc0)
  obtain ⟨n, hn⟩ : ∃ n, n = movP p 0 := ⟨_, rfl⟩
  have HNN : Hid (n = movP p 0) := hn
  have HMV : Hid (∀ w, Calls Try.prog 84 #[.int .i64 (p : Int), .int .i64 0] w fun e w' => e = .returned (.int .i64 (n : Int)) ∧ w' = w) := fun w => by have h1 := HS.out.1.pr x; have h2 := smoved_in (p : Int) 0 w (by have := HS.out.2.2.1; omega) (by have := HS.out.2.2.1; omega) (Or.inl rfl); have h3 : movI (p : Int) ((0 : Nat) : Int) = ((movP p 0 : Nat) : Int) := movI_nat (by rw [HS.out.2.2.1]; exact h1) (Or.inl rfl); rw [hn, ← h3]; exact h2
  clear hn
  have HWW : Hid _ := hW
  clear hW
  go_wp2_with fail
  rw [← HWW.out]
  clear hc3 hc0
  obtain ⟨S, hSS⟩ : ∃ S : World → Prop, S = fun w' => w'.cell? ⟨w.heap.size, 5, none⟩ = some (.slice (some ⟨gp, 0, none⟩) 512 cp) ∧ w'.cell? ⟨w.heap.size + 1, 0, none⟩ = some (.int .i64 (x : Int)) ∧ w'.cell? ⟨w.heap.size + 1, 1, none⟩ = some (.int .i64 0) := ⟨_, rfl⟩
  have hSd : S W.drew := by rw [hSS]; exact ⟨cell_of_row W.drew _ _ _ _ _ HPW2.out.box, cell_of_row W.drew _ _ _ _ _ HPW2.out.ch, cell_of_row W.drew _ _ _ _ _ HPW2.out.ch⟩
  have HX : Hid (∀ w', S w' → w'.cell? ⟨w.heap.size, 5, none⟩ = some (.slice (some ⟨gp, 0, none⟩) 512 cp) ∧ w'.cell? ⟨w.heap.size + 1, 0, none⟩ = some (.int .i64 (x : Int)) ∧ w'.cell? ⟨w.heap.size + 1, 1, none⟩ = some (.int .i64 0)) := fun w' h => by rw [hSS] at h; exact h
  have HSS : Hid _ := hSS
  clear hSS HWW
  refine wp_region_held (S := S) (by kernel_rfl) ?_
  change wpAnyH _ _ _ _ _ _ _ _ (World.drew _)
  refine wpAnyH_take (i := 0) (v := .pointer (some ⟨w.heap.size, 5, none⟩)) rfl (by kernel_rfl) (by kernel_rfl) (by kernel_rfl) (fun _ _ _ h => h) (Or.inl ⟨by rfl, by intro w' hS'; go_simp <;> (first | omega | (rw [IntKind.wrap_i64]; omega) | (rw [IntKind.wrap_u64]; omega) | (rw [IntKind.wrap_u32]; omega) | (rw [Int.tmod_eq_emod_of_nonneg (by omega)]))⟩) hSd ?_
  (try simp only [List.getElem_toArray, List.getElem_cons_succ, List.getElem_cons_zero, Act.put, List.setIfInBounds_toArray, List.set_cons_zero, List.set_cons_succ])
  refine wpAnyH_take (i := 1) (v := .slice (some ⟨gp, 0, none⟩) 512 cp) rfl (by kernel_rfl) (by kernel_rfl) (by kernel_rfl) (fun _ _ _ h => h) (Or.inl ⟨by rfl, by intro w' hS'; obtain ⟨k5, k6, k7⟩ := HX.out w' hS'; go_simp <;> (first | omega | (rw [IntKind.wrap_i64]; omega) | (rw [IntKind.wrap_u64]; omega) | (rw [IntKind.wrap_u32]; omega) | (rw [Int.tmod_eq_emod_of_nonneg (by omega)]))⟩) hSd ?_
  (try simp only [List.getElem_toArray, List.getElem_cons_succ, List.getElem_cons_zero, Act.put, List.setIfInBounds_toArray, List.set_cons_zero, List.set_cons_succ])
  refine wpAnyH_take (i := 2) (v := .pointer (some ⟨w.heap.size + 1, 0, none⟩)) rfl (by kernel_rfl) (by kernel_rfl) (by kernel_rfl) (fun _ _ _ h => h) (Or.inl ⟨by rfl, by intro w' hS'; go_simp <;> (first | omega | (rw [IntKind.wrap_i64]; omega) | (rw [IntKind.wrap_u64]; omega) | (rw [IntKind.wrap_u32]; omega) | (rw [Int.tmod_eq_emod_of_nonneg (by omega)]))⟩) hSd ?_
  (try simp only [List.getElem_toArray, List.getElem_cons_succ, List.getElem_cons_zero, Act.put, List.setIfInBounds_toArray, List.set_cons_zero, List.set_cons_succ])
  refine wpAnyH_take (i := 3) (v := .int .i64 (x : Int)) rfl (by kernel_rfl) (by kernel_rfl) (by kernel_rfl) (fun _ _ _ h => h) (Or.inl ⟨by rfl, by intro w' hS'; obtain ⟨k5, k6, k7⟩ := HX.out w' hS'; go_simp <;> (first | omega | (rw [IntKind.wrap_i64]; omega) | (rw [IntKind.wrap_u64]; omega) | (rw [IntKind.wrap_u32]; omega) | (rw [Int.tmod_eq_emod_of_nonneg (by omega)]))⟩) hSd ?_
  (try simp only [List.getElem_toArray, List.getElem_cons_succ, List.getElem_cons_zero, Act.put, List.setIfInBounds_toArray, List.set_cons_zero, List.set_cons_succ])
  refine wpAnyH_take (i := 4) (v := .int .i64 (p : Int)) rfl (by kernel_rfl) (by kernel_rfl) (by kernel_rfl) (fun _ _ _ h => h) (Or.inl ⟨by rfl, by intro w' hS'; go_simp <;> (first | omega | (rw [IntKind.wrap_i64]; omega) | (rw [IntKind.wrap_u64]; omega) | (rw [IntKind.wrap_u32]; omega) | (rw [Int.tmod_eq_emod_of_nonneg (by omega)]))⟩) hSd ?_
  (try simp only [List.getElem_toArray, List.getElem_cons_succ, List.getElem_cons_zero, Act.put, List.setIfInBounds_toArray, List.set_cons_zero, List.set_cons_succ])
  refine wpAnyH_take (i := 5) (v := .pointer (some ⟨w.heap.size + 1, 1, none⟩)) rfl (by kernel_rfl) (by kernel_rfl) (by kernel_rfl) (fun _ _ _ h => h) (Or.inl ⟨by rfl, by intro w' hS'; go_simp <;> (first | omega | (rw [IntKind.wrap_i64]; omega) | (rw [IntKind.wrap_u64]; omega) | (rw [IntKind.wrap_u32]; omega) | (rw [Int.tmod_eq_emod_of_nonneg (by omega)]))⟩) hSd ?_
  (try simp only [List.getElem_toArray, List.getElem_cons_succ, List.getElem_cons_zero, Act.put, List.setIfInBounds_toArray, List.set_cons_zero, List.set_cons_succ])
  refine wpAnyH_take (i := 6) (v := .int .i64 0) rfl (by kernel_rfl) (by kernel_rfl) (by kernel_rfl) (fun _ _ _ h => h) (Or.inl ⟨by rfl, by intro w' hS'; obtain ⟨k5, k6, k7⟩ := HX.out w' hS'; go_simp <;> (first | omega | (rw [IntKind.wrap_i64]; omega) | (rw [IntKind.wrap_u64]; omega) | (rw [IntKind.wrap_u32]; omega) | (rw [Int.tmod_eq_emod_of_nonneg (by omega)]))⟩) hSd ?_
  (try simp only [List.getElem_toArray, List.getElem_cons_succ, List.getElem_cons_zero, Act.put, List.setIfInBounds_toArray, List.set_cons_zero, List.set_cons_succ])
  refine held_stepS (i := 7) (by kernel_rfl) rfl (by rfl) ?_
  go_simp
  refine (HMV.out W.drew).mono ?_
  rintro e w5 ⟨rfl, rfl⟩
  refine ⟨hSd, ?_⟩
  (try simp only [List.getElem_toArray, List.getElem_cons_succ, List.getElem_cons_zero, Act.put, List.setIfInBounds_toArray, List.set_cons_zero, List.set_cons_succ])
  refine wpAnyH_take (i := 8) (v := .pointer (some ⟨gp, x, none⟩)) rfl (by kernel_rfl) (by kernel_rfl) (by kernel_rfl) (fun _ _ _ h => h) (Or.inl ⟨by rfl, by intro w' hS'; go_simp <;> (first | omega | (rw [IntKind.wrap_i64]; omega) | (rw [IntKind.wrap_u64]; omega) | (rw [IntKind.wrap_u32]; omega) | (rw [Int.tmod_eq_emod_of_nonneg (by omega)]))⟩) hSd ?_
  (try simp only [List.getElem_toArray, List.getElem_cons_succ, List.getElem_cons_zero, Act.put, List.setIfInBounds_toArray, List.set_cons_zero, List.set_cons_succ])
  have c5 : W.drew.cell? ⟨gp, x, none⟩ = some (.int .i64 (p : Int)) := HGC.out
  have z5 := frozen_of_row W.drew gp x _ _ HGR.out
  refine held_stepS (i := 9) (by kernel_rfl) rfl (by rfl) ?_
  go_simp
  have HP5 : Hid (PW w (W.setCell ⟨gp, x, none⟩ (.int .i64 (n : Int))).drew B w.heap.size x 0 (s.pre x 0) (.slice oa ol oc) (.slice (some ⟨gp, 0, none⟩) 512 cp)) := by
    have h := (HPW2.out.moved n).drew
    have e : ({ s with low := s.low, width := m, probs := fun j => if j = x then n else s.probs j } : RS) = s.pre x 0 := by
      unfold RS.pre; rw [if_pos rfl, HNN.out, HS.out.2.2.1, HS.out.2.2.2]; rfl
    rw [← e]; exact h
  refine ⟨by rw [HSS.out]; exact ⟨cell_of_row _ _ _ _ _ _ HP5.out.box, cell_of_row _ _ _ _ _ _ HP5.out.ch, cell_of_row _ _ _ _ _ _ HP5.out.ch⟩, ?_⟩
  (try simp only [List.getElem_toArray, List.getElem_cons_succ, List.getElem_cons_zero, Act.put, List.setIfInBounds_toArray, List.set_cons_zero, List.set_cons_succ])
  refine wpAnyH_done (by kernel_rfl) ?_ _
  have HF0 : Hid ((s.pre x 0).Fine ∧ (s.pre x 0).norm = s.put x 0 ∧ (s.pre x 0).os.length + (s.pre x 0).many ≤ 800000) := ⟨HFP.out.1, rfl, HFP.out.2⟩
  clear c5 z5 hSd HX HSS HMV HGR HGC HPW2
  go_wp2_with fail
  go_loopw [] (fun wr => ∃ (t : RS) (vo : Value), PW w wr B w.heap.size x 0 t vo (.slice (some ⟨gp, 0, none⟩) 512 cp) ∧ t.Fine ∧ t.norm = s.put x 0 ∧ (t.os.length + t.many ≤ 800000 ∨ (t.os.length + t.many ≤ 800001 ∧ 2097152 ≤ t.width) ∨ (t.os.length + t.many ≤ 800002 ∧ 16777216 ≤ t.width))) (fun wr => widthAt1 w.heap.size wr)
  case atStart => exact ⟨_, _, HP5.out, HF0.out.1, HF0.out.2.1, Or.inl HF0.out.2.2⟩
  case round =>
    obtain ⟨t, vo, hP, hF, hN2, hL⟩ := hrel
    obtain ⟨ta, tl, tc, rfl⟩ := own_slice hP.own
    have hw1 := hF.w1
    have b0 : wr.cell? ⟨w.heap.size, 0, none⟩ = some (.int .u64 (t.low : Int)) := cell_of_row _ _ _ _ _ _ hP.box
    have b1 : wr.cell? ⟨w.heap.size, 1, none⟩ = some (.int .u32 (t.width : Int)) := cell_of_row _ _ _ _ _ _ hP.box
    have b2 : wr.cell? ⟨w.heap.size, 2, none⟩ = some (.int .u8 (t.held : Int)) := cell_of_row _ _ _ _ _ _ hP.box
    have b3 : wr.cell? ⟨w.heap.size, 3, none⟩ = some (.int .i64 (t.many : Int)) := cell_of_row _ _ _ _ _ _ hP.box
    have b4 : wr.cell? ⟨w.heap.size, 4, none⟩ = some (.slice ta tl tc) := cell_of_row _ _ _ _ _ _ hP.box
    have b5 : wr.cell? ⟨w.heap.size, 5, none⟩ = some (.slice (some ⟨gp, 0, none⟩) 512 cp) := cell_of_row _ _ _ _ _ _ hP.box
    have HP : Hid _ := hP
    have HT : Hid (t.Fine ∧ t.norm = s.put x 0) := ⟨hF, hN2⟩
    clear hP hF hN2
    by_cases hlt : t.width < 16777216
    · have hltI : (t.width : Int) < 16777216 := by omega
      obtain ⟨wd, hwd⟩ : ∃ wd, wd = t.width * 256 := ⟨_, rfl⟩
      have f5 : IntKind.u32.wrap ((t.width : Int) * 256) = (wd : Int) := by rw [IntKind.wrap_u32]; omega
      have z1 := frozen_of_row wr w.heap.size 1 _ _ HP.out.box
      have HWD : Hid (wd = t.width * 256 ∧ t.width < 16777216) := ⟨hwd, hlt⟩
      clear hwd hlt
      have HM1 : Hid (widthAt1 w.heap.size wr = 16777216 - t.width) := widthAt1_eq b1
      have HB1 : Hid _ := HP.out.toBox.set 1 (.int .u32 (wd : Int))
      go_wp2_with fail
      have hE1 : ESV (wr.setCell ⟨w.heap.size, 1, none⟩ (.int .u32 (wd : Int))) B { t with width := wd } (.agg #[.int .u64 (t.low : Int), .int .u32 (wd : Int), .int .u8 (t.held : Int), .int .i64 (t.many : Int), .slice ta tl tc, .slice (some ⟨gp, 0, none⟩) 512 cp]) (.slice ta tl tc) (.slice (some ⟨gp, 0, none⟩) 512 cp) := ⟨rfl, HB1.out.own, HB1.out.pr⟩
      refine (shift_any (s := { t with width := wd }) hE1 (Nat.le_trans hB HB1.out.below.size) ⟨HT.out.1.low, HT.out.1.held, HT.out.1.many⟩ (by show t.os.length + t.many ≤ 900000; omega)).mono ?_
      rintro e w6 ⟨⟨V', vo', rfl, hE⟩, hK, hbb⟩
      have es : ({ t with width := wd } : RS).sh = t.shw := by rw [HWD.out.1]; exact shw_as t
      rw [es] at hE
      obtain ⟨rfl, ho6, hp6⟩ := hE
      obtain ⟨va, vl, vc, rfl⟩ := own_slice ho6
      have HB6 : Hid (BOXW w w6 B w.heap.size x 0 t.shw (.slice va vl vc) (.slice (some ⟨gp, 0, none⟩) 512 cp) _) := ⟨ho6, hp6, HB1.out.below.trans hbb, hK _ _ _ _ HB1.out.box (by decide), hK _ _ _ _ HB1.out.ch (by decide), hK _ _ _ _ HB1.out.res (by decide), HB1.out.gB, HB1.out.gW, HB1.out.keep.trans (.of hK)⟩
      clear b0 b1 b2 b3 b4 b5 z1 ho6 hp6 hK hbb hE1 HB1 HP
      have HL2 : Hid ((t.shw.os.length + t.shw.many ≤ 800001 ∧ 2097152 ≤ t.shw.width) ∨ (t.shw.os.length + t.shw.many ≤ 800002 ∧ 16777216 ≤ t.shw.width)) := by
        have e1 : t.shw.os.length + t.shw.many = t.os.length + t.many + 1 := sh_len HT.out.1.many
        have e2 := shw_width t
        rw [e1, e2]
        show _ ∨ _
        omega
      have HT6 : Hid (t.shw.Fine ∧ t.shw.norm = s.put x 0) := ⟨HT.out.1.shw HWD.out.2, (norm_step HT.out.1 HWD.out.2).trans HT.out.2⟩
      obtain ⟨u, hu⟩ : ∃ u, u = t.shw := ⟨_, rfl⟩
      rw [← hu] at HB6 HL2 HT6 ⊢
      have HWu : Hid (u.width = t.width * 256) := by rw [hu]; exact shw_width t
      clear hu es
      have b0 : w6.cell? ⟨w.heap.size, 0, none⟩ = some (.int .u64 (t.low : Int)) := cell_of_row _ _ _ _ _ _ HB6.out.box
      have b1 : w6.cell? ⟨w.heap.size, 1, none⟩ = some (.int .u32 (wd : Int)) := cell_of_row _ _ _ _ _ _ HB6.out.box
      have b2 : w6.cell? ⟨w.heap.size, 2, none⟩ = some (.int .u8 (t.held : Int)) := cell_of_row _ _ _ _ _ _ HB6.out.box
      have b3 : w6.cell? ⟨w.heap.size, 3, none⟩ = some (.int .i64 (t.many : Int)) := cell_of_row _ _ _ _ _ _ HB6.out.box
      have b4 : w6.cell? ⟨w.heap.size, 4, none⟩ = some (.slice ta tl tc) := cell_of_row _ _ _ _ _ _ HB6.out.box
      have b5 : w6.cell? ⟨w.heap.size, 5, none⟩ = some (.slice (some ⟨gp, 0, none⟩) 512 cp) := cell_of_row _ _ _ _ _ _ HB6.out.box
      have z0 := frozen_of_row w6 w.heap.size 0 _ _ HB6.out.box
      have z1 := frozen_of_row w6 w.heap.size 1 _ _ HB6.out.box
      have z2 := frozen_of_row w6 w.heap.size 2 _ _ HB6.out.box
      have z3 := frozen_of_row w6 w.heap.size 3 _ _ HB6.out.box
      have z4 := frozen_of_row w6 w.heap.size 4 _ _ HB6.out.box
      have z5 := frozen_of_row w6 w.heap.size 5 _ _ HB6.out.box
      have HR : Hid _ := (((((HB6.out.set 0 (.int .u64 (u.low : Int))).set 1 (.int .u32 (u.width : Int))).set 2 (.int .u8 (u.held : Int))).set 3 (.int .i64 (u.many : Int))).set 4 (.slice va vl vc)).set 5 (.slice (some ⟨gp, 0, none⟩) 512 cp)
      clear HB6
      go_wp2_with fail
      go_roundw
      case rel => exact ⟨u, _, ⟨HR.out.own, HR.out.pr, HR.out.below, HR.out.box, HR.out.ch, HR.out.res, HR.out.gB, HR.out.gW, HR.out.keep⟩, HT6.out.1, HT6.out.2, Or.inr HL2.out⟩
      case measure =>
        have q := widthAt1_eq (w := _) (g := w.heap.size) (wd := u.width) ((cell_of_row _ _ 1 _ _ _ HR.out.box).trans rfl)
        have q2 := HM1.out
        have q3 := HWu.out
        have q4 := HWD.out.2
        rw [q, q2]; omega
    · have hltI : ¬ ((t.width : Int) < 16777216) := by omega
      have e : t = s.put x 0 := by rw [← HT.out.2, norm_done (by omega)]
      have r0 : wr.cell? ⟨w.heap.size + 2, 0, none⟩ = some (.int .u64 0) := cell_of_row _ _ _ _ _ _ HP.out.res
      have r1 : wr.cell? ⟨w.heap.size + 2, 1, none⟩ = some (.int .u32 0) := cell_of_row _ _ _ _ _ _ HP.out.res
      have r2 : wr.cell? ⟨w.heap.size + 2, 2, none⟩ = some (.int .u8 0) := cell_of_row _ _ _ _ _ _ HP.out.res
      have r3 : wr.cell? ⟨w.heap.size + 2, 3, none⟩ = some (.int .i64 0) := cell_of_row _ _ _ _ _ _ HP.out.res
      have r4 : wr.cell? ⟨w.heap.size + 2, 4, none⟩ = some (.slice none 0 0) := cell_of_row _ _ _ _ _ _ HP.out.res
      have r5 : wr.cell? ⟨w.heap.size + 2, 5, none⟩ = some (.slice none 0 0) := cell_of_row _ _ _ _ _ _ HP.out.res
      have y0 := frozen_of_row wr (w.heap.size + 2) 0 _ _ HP.out.res
      have y1 := frozen_of_row wr (w.heap.size + 2) 1 _ _ HP.out.res
      have y2 := frozen_of_row wr (w.heap.size + 2) 2 _ _ HP.out.res
      have y3 := frozen_of_row wr (w.heap.size + 2) 3 _ _ HP.out.res
      have y4 := frozen_of_row wr (w.heap.size + 2) 4 _ _ HP.out.res
      have y5 := frozen_of_row wr (w.heap.size + 2) 5 _ _ HP.out.res
      have HE : Hid (t = s.put x 0) := e
      clear e hlt
      have HR : Hid _ := ((((((RESW.mk HP.out.own HP.out.pr HP.out.below HP.out.res (by have := HP.out.gB; omega) (by have := HP.out.gW; omega) HP.out.keep).set 0 (.int .u64 (t.low : Int))).set 1 (.int .u32 (t.width : Int))).set 2 (.int .u8 (t.held : Int))).set 3 (.int .i64 (t.many : Int))).set 4 (.slice ta tl tc)).set 5 (.slice (some ⟨gp, 0, none⟩) 512 cp)
      clear HP
      go_wp2_with fail
      refine bodyPost_ret (results_cell_row rfl _ _ (w.heap.size + 2) 112 #[.int .u64 (t.low : Int), .int .u32 (t.width : Int), .int .u8 (t.held : Int), .int .i64 (t.many : Int), .slice ta tl tc, .slice (some ⟨gp, 0, none⟩) 512 cp] (0, 0) _ rfl HR.out.res Try.underlying112 rfl ?_) rfl ⟨⟨_, rfl, .slice ta tl tc, ?_⟩, HR.out.keep, HR.out.below⟩
      · kernel_rfl
      · rw [← HE.out]; exact ⟨rfl, HR.out.own, HR.out.pr⟩
end Go.Proofs.Ytbkjcngehhdchaa

/-!   The coder of ranges: the specification's put of a 1. -/
namespace Go.Proofs.Ytbkjcngehhdchaa
open Go.RowKit
set_option linter.unusedVariables false
set_option linter.unusedSimpArgs false
set_option maxRecDepth 100000 in
set_option maxHeartbeats 6000000 in
theorem sput_one {w : World} {B x : Nat} {s : RS} {V vo vp : Value} (h : ESV w B s V vo vp) (hB : B ≤ w.heap.size) (hs : s.Fine) (hw16 : 16777216 ≤ s.width) (hN : s.os.length + s.many ≤ 800000) (hx : x < 512) :
    Calls Try.prog 74 #[V, .agg #[.int .i64 (x : Int), .int .i64 1]] w fun e w' => (∃ V' vo', e = .returned V' ∧ ESV w' B (s.put x 1) V' vo' vp) ∧ KeepI w w' ∧ Below B w w' := by
  obtain ⟨hv, ho, hp⟩ := h
  subst hv
  obtain ⟨oa, ol, oc, rfl⟩ := own_slice ho
  obtain ⟨gp, cp, curp, rfl, hgB, hgr, hcl⟩ := own_formP hp (by omega)
  have hxI : (x : Int) < 512 := by omega
  have hgl := (Array.getElem?_eq_some_iff.1 hgr).1
  obtain ⟨q, p, m, hq, hpp, hm, f1, f2, f3, f4⟩ := bound_words hs x
  obtain ⟨lo2, hlo2⟩ : ∃ lo2, lo2 = s.low + m := ⟨_, rfl⟩
  obtain ⟨wd2, hwd2⟩ : ∃ wd2, wd2 = s.width - m := ⟨_, rfl⟩
  have hbn := hs.bnd hw16 x
  rw [← hm] at hbn
  have hbd := hs.bd
  have hsw2 := hs.w2
  have f6 : IntKind.u64.wrap (m : Int) = (m : Int) := by rw [IntKind.wrap_u64]; omega
  have f7 : IntKind.u64.wrap ((s.low : Int) + (m : Int)) = (lo2 : Int) := by rw [IntKind.wrap_u64]; omega
  have f8 : IntKind.u32.wrap ((s.width : Int) - (m : Int)) = (wd2 : Int) := by rw [IntKind.wrap_u32]; omega
  have HLW : Hid (lo2 = s.low + m ∧ wd2 = s.width - m) := ⟨hlo2, hwd2⟩
  clear hlo2 hwd2 hbn hbd hsw2
  have hc0 : w.cell? ⟨gp, x, none⟩ = some (.int .i64 (p : Int)) := hcl x _ (by rw [List.getElem?_map, List.getElem?_range hx]; simp [hpp])
  have hc3 : (((w.alloc (.cells #[.int .u64 (s.low : Int), .int .u32 (s.width : Int), .int .u8 (s.held : Int), .int .i64 (s.many : Int), .slice oa ol oc, .slice (some ⟨gp, 0, none⟩) 512 cp] 112)).alloc (.cells #[.int .i64 (x : Int), .int .i64 1] 108)).alloc (.cells #[.int .u64 0, .int .u32 0, .int .u8 0, .int .i64 0, .slice none 0 0, .slice none 0 0] 112)).cell? ⟨gp, x, none⟩ = some (.int .i64 (p : Int)) := by
    refine (World.cell?_of_block (a := ⟨gp, x, none⟩) (Below.heap_alloc _ _ _ ?_)).trans ((World.cell?_of_block (a := ⟨gp, x, none⟩) (Below.heap_alloc _ _ _ ?_)).trans ((World.cell?_of_block (a := ⟨gp, x, none⟩) (Below.heap_alloc _ _ _ ?_)).trans hc0))
    all_goals (simp; try omega)
  have HO : Hid (ESV w B s _ (.slice oa ol oc) _) := ⟨rfl, ho, hp⟩
  have HS : Hid (s.Fine ∧ q = s.width / 2048 ∧ p = s.probs x ∧ m = s.bound x) := ⟨hs, hq, hpp, hm⟩
  have HW16 : Hid (16777216 ≤ s.width) := hw16
  clear hcl ho hp hq hpp hm hs hw16
  go_enter Try.func74, Try.ntmps74
  have HFP : Hid ((s.pre x 1).Fine ∧ (s.pre x 1).os.length + (s.pre x 1).many ≤ 800000) := ⟨HS.out.1.pre HW16.out x 1, hN⟩
  have HPW : Hid _ := PW.made (w := w) (B := B) (x := x) (b := 1) (s := s) lo2 wd2 HO.out.out HO.out.pr hB
  obtain ⟨W, hW⟩ : ∃ W, W = (((w.alloc (.cells #[.int .u64 (lo2 : Int), .int .u32 (wd2 : Int), .int .u8 (s.held : Int), .int .i64 (s.many : Int), .slice oa ol oc, .slice (some ⟨gp, 0, none⟩) 512 cp] 112)).alloc (.cells #[.int .i64 (x : Int), .int .i64 1] 108)).alloc (.cells #[.int .u64 0, .int .u32 0, .int .u8 0, .int .i64 0, .slice none 0 0, .slice none 0 0] 112)) := ⟨_, rfl⟩
  have HPW2 : Hid (PW w W B w.heap.size x 1 { s with low := lo2, width := wd2 } (.slice oa ol oc) (.slice (some ⟨gp, 0, none⟩) 512 cp)) := by rw [hW]; exact HPW
  clear HPW
  have HGR : Hid (W.heap[gp]? = some (.cells curp 2 (0, 0))) := by rw [hW, Below.heap_alloc _ _ _ (by simp; omega), Below.heap_alloc _ _ _ (by simp; omega), Below.heap_alloc _ _ _ hgl]; exact hgr
  have HGC : Hid (W.cell? ⟨gp, x, none⟩ = some (.int .i64 (p : Int))) := (cell_of_row W _ _ _ _ _ HGR.out).trans ((cell_of_row w _ _ _ _ _ hgr).symm.trans hc0)
  obtain ⟨n, hn⟩ : ∃ n, n = movP p 1 := ⟨_, rfl⟩
  have HNN : Hid (n = movP p 1) := hn
  have HMV : Hid (∀ w, Calls Try.prog 84 #[.int .i64 (p : Int), .int .i64 1] w fun e w' => e = .returned (.int .i64 (n : Int)) ∧ w' = w) := fun w => by have h1 := HS.out.1.pr x; have h2 := smoved_in (p : Int) 1 w (by have := HS.out.2.2.1; omega) (by have := HS.out.2.2.1; omega) (Or.inr rfl); have h3 : movI (p : Int) ((1 : Nat) : Int) = ((movP p 1 : Nat) : Int) := movI_nat (by rw [HS.out.2.2.1]; exact h1) (Or.inr rfl); rw [hn, ← h3]; exact h2
  clear hn
  have HWW : Hid _ := hW
  clear hW
  go_wp2_with fail
  rw [← HWW.out]
  clear hc3 hc0
  obtain ⟨S, hSS⟩ : ∃ S : World → Prop, S = fun w' => w'.cell? ⟨w.heap.size, 5, none⟩ = some (.slice (some ⟨gp, 0, none⟩) 512 cp) ∧ w'.cell? ⟨w.heap.size + 1, 0, none⟩ = some (.int .i64 (x : Int)) ∧ w'.cell? ⟨w.heap.size + 1, 1, none⟩ = some (.int .i64 1) := ⟨_, rfl⟩
  have hSd : S W.drew := by rw [hSS]; exact ⟨cell_of_row W.drew _ _ _ _ _ HPW2.out.box, cell_of_row W.drew _ _ _ _ _ HPW2.out.ch, cell_of_row W.drew _ _ _ _ _ HPW2.out.ch⟩
  have HX : Hid (∀ w', S w' → w'.cell? ⟨w.heap.size, 5, none⟩ = some (.slice (some ⟨gp, 0, none⟩) 512 cp) ∧ w'.cell? ⟨w.heap.size + 1, 0, none⟩ = some (.int .i64 (x : Int)) ∧ w'.cell? ⟨w.heap.size + 1, 1, none⟩ = some (.int .i64 1)) := fun w' h => by rw [hSS] at h; exact h
  have HSS : Hid _ := hSS
  clear hSS HWW
  refine wp_region_held (S := S) (by kernel_rfl) ?_
  change wpAnyH _ _ _ _ _ _ _ _ (World.drew _)
  refine wpAnyH_take (i := 0) (v := .pointer (some ⟨w.heap.size, 5, none⟩)) rfl (by kernel_rfl) (by kernel_rfl) (by kernel_rfl) (fun _ _ _ h => h) (Or.inl ⟨by rfl, by intro w' hS'; go_simp <;> (first | omega | (rw [IntKind.wrap_i64]; omega) | (rw [IntKind.wrap_u64]; omega) | (rw [IntKind.wrap_u32]; omega) | (rw [Int.tmod_eq_emod_of_nonneg (by omega)]))⟩) hSd ?_
  (try simp only [List.getElem_toArray, List.getElem_cons_succ, List.getElem_cons_zero, Act.put, List.setIfInBounds_toArray, List.set_cons_zero, List.set_cons_succ])
  refine wpAnyH_take (i := 1) (v := .slice (some ⟨gp, 0, none⟩) 512 cp) rfl (by kernel_rfl) (by kernel_rfl) (by kernel_rfl) (fun _ _ _ h => h) (Or.inl ⟨by rfl, by intro w' hS'; obtain ⟨k5, k6, k7⟩ := HX.out w' hS'; go_simp <;> (first | omega | (rw [IntKind.wrap_i64]; omega) | (rw [IntKind.wrap_u64]; omega) | (rw [IntKind.wrap_u32]; omega) | (rw [Int.tmod_eq_emod_of_nonneg (by omega)]))⟩) hSd ?_
  (try simp only [List.getElem_toArray, List.getElem_cons_succ, List.getElem_cons_zero, Act.put, List.setIfInBounds_toArray, List.set_cons_zero, List.set_cons_succ])
  refine wpAnyH_take (i := 2) (v := .pointer (some ⟨w.heap.size + 1, 0, none⟩)) rfl (by kernel_rfl) (by kernel_rfl) (by kernel_rfl) (fun _ _ _ h => h) (Or.inl ⟨by rfl, by intro w' hS'; go_simp <;> (first | omega | (rw [IntKind.wrap_i64]; omega) | (rw [IntKind.wrap_u64]; omega) | (rw [IntKind.wrap_u32]; omega) | (rw [Int.tmod_eq_emod_of_nonneg (by omega)]))⟩) hSd ?_
  (try simp only [List.getElem_toArray, List.getElem_cons_succ, List.getElem_cons_zero, Act.put, List.setIfInBounds_toArray, List.set_cons_zero, List.set_cons_succ])
  refine wpAnyH_take (i := 3) (v := .int .i64 (x : Int)) rfl (by kernel_rfl) (by kernel_rfl) (by kernel_rfl) (fun _ _ _ h => h) (Or.inl ⟨by rfl, by intro w' hS'; obtain ⟨k5, k6, k7⟩ := HX.out w' hS'; go_simp <;> (first | omega | (rw [IntKind.wrap_i64]; omega) | (rw [IntKind.wrap_u64]; omega) | (rw [IntKind.wrap_u32]; omega) | (rw [Int.tmod_eq_emod_of_nonneg (by omega)]))⟩) hSd ?_
  (try simp only [List.getElem_toArray, List.getElem_cons_succ, List.getElem_cons_zero, Act.put, List.setIfInBounds_toArray, List.set_cons_zero, List.set_cons_succ])
  refine wpAnyH_take (i := 4) (v := .int .i64 (p : Int)) rfl (by kernel_rfl) (by kernel_rfl) (by kernel_rfl) (fun _ _ _ h => h) (Or.inl ⟨by rfl, by intro w' hS'; go_simp <;> (first | omega | (rw [IntKind.wrap_i64]; omega) | (rw [IntKind.wrap_u64]; omega) | (rw [IntKind.wrap_u32]; omega) | (rw [Int.tmod_eq_emod_of_nonneg (by omega)]))⟩) hSd ?_
  (try simp only [List.getElem_toArray, List.getElem_cons_succ, List.getElem_cons_zero, Act.put, List.setIfInBounds_toArray, List.set_cons_zero, List.set_cons_succ])
  refine wpAnyH_take (i := 5) (v := .pointer (some ⟨w.heap.size + 1, 1, none⟩)) rfl (by kernel_rfl) (by kernel_rfl) (by kernel_rfl) (fun _ _ _ h => h) (Or.inl ⟨by rfl, by intro w' hS'; go_simp <;> (first | omega | (rw [IntKind.wrap_i64]; omega) | (rw [IntKind.wrap_u64]; omega) | (rw [IntKind.wrap_u32]; omega) | (rw [Int.tmod_eq_emod_of_nonneg (by omega)]))⟩) hSd ?_
  (try simp only [List.getElem_toArray, List.getElem_cons_succ, List.getElem_cons_zero, Act.put, List.setIfInBounds_toArray, List.set_cons_zero, List.set_cons_succ])
  refine wpAnyH_take (i := 6) (v := .int .i64 1) rfl (by kernel_rfl) (by kernel_rfl) (by kernel_rfl) (fun _ _ _ h => h) (Or.inl ⟨by rfl, by intro w' hS'; obtain ⟨k5, k6, k7⟩ := HX.out w' hS'; go_simp <;> (first | omega | (rw [IntKind.wrap_i64]; omega) | (rw [IntKind.wrap_u64]; omega) | (rw [IntKind.wrap_u32]; omega) | (rw [Int.tmod_eq_emod_of_nonneg (by omega)]))⟩) hSd ?_
  (try simp only [List.getElem_toArray, List.getElem_cons_succ, List.getElem_cons_zero, Act.put, List.setIfInBounds_toArray, List.set_cons_zero, List.set_cons_succ])
  refine held_stepS (i := 7) (by kernel_rfl) rfl (by rfl) ?_
  go_simp
  refine (HMV.out W.drew).mono ?_
  rintro e w5 ⟨rfl, rfl⟩
  refine ⟨hSd, ?_⟩
  (try simp only [List.getElem_toArray, List.getElem_cons_succ, List.getElem_cons_zero, Act.put, List.setIfInBounds_toArray, List.set_cons_zero, List.set_cons_succ])
  refine wpAnyH_take (i := 8) (v := .pointer (some ⟨gp, x, none⟩)) rfl (by kernel_rfl) (by kernel_rfl) (by kernel_rfl) (fun _ _ _ h => h) (Or.inl ⟨by rfl, by intro w' hS'; go_simp <;> (first | omega | (rw [IntKind.wrap_i64]; omega) | (rw [IntKind.wrap_u64]; omega) | (rw [IntKind.wrap_u32]; omega) | (rw [Int.tmod_eq_emod_of_nonneg (by omega)]))⟩) hSd ?_
  (try simp only [List.getElem_toArray, List.getElem_cons_succ, List.getElem_cons_zero, Act.put, List.setIfInBounds_toArray, List.set_cons_zero, List.set_cons_succ])
  have c5 : W.drew.cell? ⟨gp, x, none⟩ = some (.int .i64 (p : Int)) := HGC.out
  have z5 := frozen_of_row W.drew gp x _ _ HGR.out
  refine held_stepS (i := 9) (by kernel_rfl) rfl (by rfl) ?_
  go_simp
  have HP5 : Hid (PW w (W.setCell ⟨gp, x, none⟩ (.int .i64 (n : Int))).drew B w.heap.size x 1 (s.pre x 1) (.slice oa ol oc) (.slice (some ⟨gp, 0, none⟩) 512 cp)) := by
    have h := (HPW2.out.moved n).drew
    have e : ({ s with low := lo2, width := wd2, probs := fun j => if j = x then n else s.probs j } : RS) = s.pre x 1 := by
      unfold RS.pre; rw [if_neg (by decide), HNN.out, HS.out.2.2.1, HLW.out.1, HLW.out.2, HS.out.2.2.2]; rfl
    rw [← e]; exact h
  refine ⟨by rw [HSS.out]; exact ⟨cell_of_row _ _ _ _ _ _ HP5.out.box, cell_of_row _ _ _ _ _ _ HP5.out.ch, cell_of_row _ _ _ _ _ _ HP5.out.ch⟩, ?_⟩
  (try simp only [List.getElem_toArray, List.getElem_cons_succ, List.getElem_cons_zero, Act.put, List.setIfInBounds_toArray, List.set_cons_zero, List.set_cons_succ])
  refine wpAnyH_done (by kernel_rfl) ?_ _
  have HF0 : Hid ((s.pre x 1).Fine ∧ (s.pre x 1).norm = s.put x 1 ∧ (s.pre x 1).os.length + (s.pre x 1).many ≤ 800000) := ⟨HFP.out.1, rfl, HFP.out.2⟩
  clear c5 z5 hSd HX HSS HMV HGR HGC HPW2
  go_wp2_with fail
  go_loopw [] (fun wr => ∃ (t : RS) (vo : Value), PW w wr B w.heap.size x 1 t vo (.slice (some ⟨gp, 0, none⟩) 512 cp) ∧ t.Fine ∧ t.norm = s.put x 1 ∧ (t.os.length + t.many ≤ 800000 ∨ (t.os.length + t.many ≤ 800001 ∧ 2097152 ≤ t.width) ∨ (t.os.length + t.many ≤ 800002 ∧ 16777216 ≤ t.width))) (fun wr => widthAt1 w.heap.size wr)
  case atStart => exact ⟨_, _, HP5.out, HF0.out.1, HF0.out.2.1, Or.inl HF0.out.2.2⟩
  case round =>
    obtain ⟨t, vo, hP, hF, hN2, hL⟩ := hrel
    obtain ⟨ta, tl, tc, rfl⟩ := own_slice hP.own
    have hw1 := hF.w1
    have b0 : wr.cell? ⟨w.heap.size, 0, none⟩ = some (.int .u64 (t.low : Int)) := cell_of_row _ _ _ _ _ _ hP.box
    have b1 : wr.cell? ⟨w.heap.size, 1, none⟩ = some (.int .u32 (t.width : Int)) := cell_of_row _ _ _ _ _ _ hP.box
    have b2 : wr.cell? ⟨w.heap.size, 2, none⟩ = some (.int .u8 (t.held : Int)) := cell_of_row _ _ _ _ _ _ hP.box
    have b3 : wr.cell? ⟨w.heap.size, 3, none⟩ = some (.int .i64 (t.many : Int)) := cell_of_row _ _ _ _ _ _ hP.box
    have b4 : wr.cell? ⟨w.heap.size, 4, none⟩ = some (.slice ta tl tc) := cell_of_row _ _ _ _ _ _ hP.box
    have b5 : wr.cell? ⟨w.heap.size, 5, none⟩ = some (.slice (some ⟨gp, 0, none⟩) 512 cp) := cell_of_row _ _ _ _ _ _ hP.box
    have HP : Hid _ := hP
    have HT : Hid (t.Fine ∧ t.norm = s.put x 1) := ⟨hF, hN2⟩
    clear hP hF hN2
    by_cases hlt : t.width < 16777216
    · have hltI : (t.width : Int) < 16777216 := by omega
      obtain ⟨wd, hwd⟩ : ∃ wd, wd = t.width * 256 := ⟨_, rfl⟩
      have f5 : IntKind.u32.wrap ((t.width : Int) * 256) = (wd : Int) := by rw [IntKind.wrap_u32]; omega
      have z1 := frozen_of_row wr w.heap.size 1 _ _ HP.out.box
      have HWD : Hid (wd = t.width * 256 ∧ t.width < 16777216) := ⟨hwd, hlt⟩
      clear hwd hlt
      have HM1 : Hid (widthAt1 w.heap.size wr = 16777216 - t.width) := widthAt1_eq b1
      have HB1 : Hid _ := HP.out.toBox.set 1 (.int .u32 (wd : Int))
      go_wp2_with fail
      have hE1 : ESV (wr.setCell ⟨w.heap.size, 1, none⟩ (.int .u32 (wd : Int))) B { t with width := wd } (.agg #[.int .u64 (t.low : Int), .int .u32 (wd : Int), .int .u8 (t.held : Int), .int .i64 (t.many : Int), .slice ta tl tc, .slice (some ⟨gp, 0, none⟩) 512 cp]) (.slice ta tl tc) (.slice (some ⟨gp, 0, none⟩) 512 cp) := ⟨rfl, HB1.out.own, HB1.out.pr⟩
      refine (shift_any (s := { t with width := wd }) hE1 (Nat.le_trans hB HB1.out.below.size) ⟨HT.out.1.low, HT.out.1.held, HT.out.1.many⟩ (by show t.os.length + t.many ≤ 900000; omega)).mono ?_
      rintro e w6 ⟨⟨V', vo', rfl, hE⟩, hK, hbb⟩
      have es : ({ t with width := wd } : RS).sh = t.shw := by rw [HWD.out.1]; exact shw_as t
      rw [es] at hE
      obtain ⟨rfl, ho6, hp6⟩ := hE
      obtain ⟨va, vl, vc, rfl⟩ := own_slice ho6
      have HB6 : Hid (BOXW w w6 B w.heap.size x 1 t.shw (.slice va vl vc) (.slice (some ⟨gp, 0, none⟩) 512 cp) _) := ⟨ho6, hp6, HB1.out.below.trans hbb, hK _ _ _ _ HB1.out.box (by decide), hK _ _ _ _ HB1.out.ch (by decide), hK _ _ _ _ HB1.out.res (by decide), HB1.out.gB, HB1.out.gW, HB1.out.keep.trans (.of hK)⟩
      clear b0 b1 b2 b3 b4 b5 z1 ho6 hp6 hK hbb hE1 HB1 HP
      have HL2 : Hid ((t.shw.os.length + t.shw.many ≤ 800001 ∧ 2097152 ≤ t.shw.width) ∨ (t.shw.os.length + t.shw.many ≤ 800002 ∧ 16777216 ≤ t.shw.width)) := by
        have e1 : t.shw.os.length + t.shw.many = t.os.length + t.many + 1 := sh_len HT.out.1.many
        have e2 := shw_width t
        rw [e1, e2]
        show _ ∨ _
        omega
      have HT6 : Hid (t.shw.Fine ∧ t.shw.norm = s.put x 1) := ⟨HT.out.1.shw HWD.out.2, (norm_step HT.out.1 HWD.out.2).trans HT.out.2⟩
      obtain ⟨u, hu⟩ : ∃ u, u = t.shw := ⟨_, rfl⟩
      rw [← hu] at HB6 HL2 HT6 ⊢
      have HWu : Hid (u.width = t.width * 256) := by rw [hu]; exact shw_width t
      clear hu es
      have b0 : w6.cell? ⟨w.heap.size, 0, none⟩ = some (.int .u64 (t.low : Int)) := cell_of_row _ _ _ _ _ _ HB6.out.box
      have b1 : w6.cell? ⟨w.heap.size, 1, none⟩ = some (.int .u32 (wd : Int)) := cell_of_row _ _ _ _ _ _ HB6.out.box
      have b2 : w6.cell? ⟨w.heap.size, 2, none⟩ = some (.int .u8 (t.held : Int)) := cell_of_row _ _ _ _ _ _ HB6.out.box
      have b3 : w6.cell? ⟨w.heap.size, 3, none⟩ = some (.int .i64 (t.many : Int)) := cell_of_row _ _ _ _ _ _ HB6.out.box
      have b4 : w6.cell? ⟨w.heap.size, 4, none⟩ = some (.slice ta tl tc) := cell_of_row _ _ _ _ _ _ HB6.out.box
      have b5 : w6.cell? ⟨w.heap.size, 5, none⟩ = some (.slice (some ⟨gp, 0, none⟩) 512 cp) := cell_of_row _ _ _ _ _ _ HB6.out.box
      have z0 := frozen_of_row w6 w.heap.size 0 _ _ HB6.out.box
      have z1 := frozen_of_row w6 w.heap.size 1 _ _ HB6.out.box
      have z2 := frozen_of_row w6 w.heap.size 2 _ _ HB6.out.box
      have z3 := frozen_of_row w6 w.heap.size 3 _ _ HB6.out.box
      have z4 := frozen_of_row w6 w.heap.size 4 _ _ HB6.out.box
      have z5 := frozen_of_row w6 w.heap.size 5 _ _ HB6.out.box
      have HR : Hid _ := (((((HB6.out.set 0 (.int .u64 (u.low : Int))).set 1 (.int .u32 (u.width : Int))).set 2 (.int .u8 (u.held : Int))).set 3 (.int .i64 (u.many : Int))).set 4 (.slice va vl vc)).set 5 (.slice (some ⟨gp, 0, none⟩) 512 cp)
      clear HB6
      go_wp2_with fail
      go_roundw
      case rel => exact ⟨u, _, ⟨HR.out.own, HR.out.pr, HR.out.below, HR.out.box, HR.out.ch, HR.out.res, HR.out.gB, HR.out.gW, HR.out.keep⟩, HT6.out.1, HT6.out.2, Or.inr HL2.out⟩
      case measure =>
        have q := widthAt1_eq (w := _) (g := w.heap.size) (wd := u.width) ((cell_of_row _ _ 1 _ _ _ HR.out.box).trans rfl)
        have q2 := HM1.out
        have q3 := HWu.out
        have q4 := HWD.out.2
        rw [q, q2]; omega
    · have hltI : ¬ ((t.width : Int) < 16777216) := by omega
      have e : t = s.put x 1 := by rw [← HT.out.2, norm_done (by omega)]
      have r0 : wr.cell? ⟨w.heap.size + 2, 0, none⟩ = some (.int .u64 0) := cell_of_row _ _ _ _ _ _ HP.out.res
      have r1 : wr.cell? ⟨w.heap.size + 2, 1, none⟩ = some (.int .u32 0) := cell_of_row _ _ _ _ _ _ HP.out.res
      have r2 : wr.cell? ⟨w.heap.size + 2, 2, none⟩ = some (.int .u8 0) := cell_of_row _ _ _ _ _ _ HP.out.res
      have r3 : wr.cell? ⟨w.heap.size + 2, 3, none⟩ = some (.int .i64 0) := cell_of_row _ _ _ _ _ _ HP.out.res
      have r4 : wr.cell? ⟨w.heap.size + 2, 4, none⟩ = some (.slice none 0 0) := cell_of_row _ _ _ _ _ _ HP.out.res
      have r5 : wr.cell? ⟨w.heap.size + 2, 5, none⟩ = some (.slice none 0 0) := cell_of_row _ _ _ _ _ _ HP.out.res
      have y0 := frozen_of_row wr (w.heap.size + 2) 0 _ _ HP.out.res
      have y1 := frozen_of_row wr (w.heap.size + 2) 1 _ _ HP.out.res
      have y2 := frozen_of_row wr (w.heap.size + 2) 2 _ _ HP.out.res
      have y3 := frozen_of_row wr (w.heap.size + 2) 3 _ _ HP.out.res
      have y4 := frozen_of_row wr (w.heap.size + 2) 4 _ _ HP.out.res
      have y5 := frozen_of_row wr (w.heap.size + 2) 5 _ _ HP.out.res
      have HE : Hid (t = s.put x 1) := e
      clear e hlt
      have HR : Hid _ := ((((((RESW.mk HP.out.own HP.out.pr HP.out.below HP.out.res (by have := HP.out.gB; omega) (by have := HP.out.gW; omega) HP.out.keep).set 0 (.int .u64 (t.low : Int))).set 1 (.int .u32 (t.width : Int))).set 2 (.int .u8 (t.held : Int))).set 3 (.int .i64 (t.many : Int))).set 4 (.slice ta tl tc)).set 5 (.slice (some ⟨gp, 0, none⟩) 512 cp)
      clear HP
      go_wp2_with fail
      refine bodyPost_ret (results_cell_row rfl _ _ (w.heap.size + 2) 112 #[.int .u64 (t.low : Int), .int .u32 (t.width : Int), .int .u8 (t.held : Int), .int .i64 (t.many : Int), .slice ta tl tc, .slice (some ⟨gp, 0, none⟩) 512 cp] (0, 0) _ rfl HR.out.res Try.underlying112 rfl ?_) rfl ⟨⟨_, rfl, .slice ta tl tc, ?_⟩, HR.out.keep, HR.out.below⟩
      · kernel_rfl
      · rw [← HE.out]; exact ⟨rfl, HR.out.own, HR.out.pr⟩
theorem sputE_any {w : World} {B x b : Nat} {s : RS} {V vo vp : Value} (h : ESV w B s V vo vp) (hB : B ≤ w.heap.size) (hs : s.Fine) (hw16 : 16777216 ≤ s.width) (hN : s.os.length + s.many ≤ 800000) (hx : x < 512) (hb : b = 0 ∨ b = 1) :
    Calls Try.prog 74 #[V, .agg #[.int .i64 (x : Int), .int .i64 (b : Int)]] w fun e w' => (∃ V' vo', e = .returned V' ∧ ESV w' B (s.put x b) V' vo' vp) ∧ KeepI w w' ∧ Below B w w' := by
  rcases hb with rfl | rfl
  · exact sput_zero h hB hs hw16 hN hx
  · exact sput_one h hB hs hw16 hN hx
end Go.Proofs.Ytbkjcngehhdchaa
