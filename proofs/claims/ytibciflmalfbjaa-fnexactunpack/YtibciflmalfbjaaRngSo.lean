/-
  The coder of ranges: the specification's shift, where bytes go out.
-/
import Derived.Test.YtibciflmalfbjaaRngSh
namespace Go.Proofs.Ytibciflmalfbjaa
open Go.RowKit
set_option linter.unusedVariables false
set_option linter.unusedSimpArgs false
structure SHL (w wr : World) (B g : Nat) (s : RS) (oj : List Nat) (v vp : Value) : Prop where
  own : wr.ownsRow B 5 1 v oj.length (byC oj)
  pr : wr.ownsRow B 2 1 vp 512 ((List.range 512).map fun j => .int .i64 (s.probs j : Int))
  below : Below B w wr
  box : wr.heap[g]? = some (.cells #[.int .u64 (s.low : Int), .int .u32 (s.width : Int), .int .u8 (s.held : Int), .int .i64 (s.many : Int), v, vp] 124 (0, 0))
  res : wr.heap[g + 1]? = some (.cells #[.int .u64 0, .int .u32 0, .int .u8 0, .int .i64 0, .slice none 0 0, .slice none 0 0] 124 (0, 0))
  gB : B ≤ g
  gW : w.heap.size ≤ g
  keep : Keep w wr
theorem byC_snoc (o : List Nat) (x : Nat) : byC (o ++ [x]) = byC o ++ [.int .u8 (x : Int)] := by simp [byC]
theorem SHL.box4 {w wr w4 : World} {B g : Nat} {s : RS} {oj : List Nat} {v vp : Value} (h : SHL w wr B g s oj v vp) (X : Obj) (h2 : (wr.alloc X).grownBy w4 v.ownBlock) :
    w4.heap[g]? = some (.cells #[.int .u64 (s.low : Int), .int .u32 (s.width : Int), .int .u8 (s.held : Int), .int .i64 (s.many : Int), v, vp] 124 (0, 0)) := by
  have hgl := (Array.getElem?_eq_some_iff.1 h.box).1
  rw [h2.block g (by simp; omega) (row_apartE (by decide) h.own h.box), Below.heap_alloc _ _ _ hgl]; exact h.box
theorem SHL.put {w wr w4 : World} {B g : Nat} {s : RS} {oj : List Nat} {v vp v' : Value} {x : Nat} (h : SHL w wr B g s oj v vp) (X : Obj)
    (h1 : w4.ownsRow B 5 1 v' (oj.length + 1) (byC oj ++ [.int .u8 (x : Int)])) (h2 : (wr.alloc X).grownBy w4 v.ownBlock) :
    SHL w (w4.setCell ⟨g, 4, none⟩ v') B g s (oj ++ [x]) v' vp := by
  have hgl := (Array.getElem?_eq_some_iff.1 h.box).1
  have hrl := (Array.getElem?_eq_some_iff.1 h.res).1
  have hb4 : w4.heap[g]? = some (.cells #[.int .u64 (s.low : Int), .int .u32 (s.width : Int), .int .u8 (s.held : Int), .int .i64 (s.many : Int), v, vp] 124 (0, 0)) := by
    rw [h2.block g (by simp; omega) (row_apartE (by decide) h.own h.box), Below.heap_alloc _ _ _ hgl]; exact h.box
  have hr4 : w4.heap[g + 1]? = some (.cells #[.int .u64 0, .int .u32 0, .int .u8 0, .int .i64 0, .slice none 0 0, .slice none 0 0] 124 (0, 0)) := by
    rw [h2.block (g + 1) (by simp; omega) (row_apartE (by decide) h.own h.res), Below.heap_alloc _ _ _ hrl]; exact h.res
  have hp4 : w4.ownsRow B 2 1 vp 512 ((List.range 512).map fun j => .int .i64 (s.probs j : Int)) := by
    refine World.ownsRow.kept (row := v.ownBlock) (h.pr.alloc X) h2 ?_
    cases e : vp.ownBlock with
    | none => exact Or.inl rfl
    | some q =>
      refine Or.inr ?_
      intro c
      obtain ⟨_, ⟨h0, _⟩ | ⟨q2, cap, cur, e1, _, e3, _⟩⟩ := h.pr
      · rw [h0] at e; cases e
      · rw [e1] at e
        have e : q2 = q := Option.some.inj e
        subst e
        exact row_apartE (by decide) h.own e3 c
  refine ⟨?_, hp4.kept (grownBy_setC _ g 4 _) (Or.inr (fun e => row_apartE (by decide) hp4 hb4 e.symm)), ?_, heap_setCell_same _ _ _ _ _ _ hb4, ?_, h.gB, h.gW, ?_⟩
  · rw [byC_snoc, List.length_append]
    exact h1.kept (grownBy_setC _ g 4 _) (Or.inr (fun e => row_apartE (by decide) h1 hb4 e.symm))
  · exact ((h.below.alloc (by have := h.gB; omega) X).grown h2 (by have := h.gB; simp; omega) (fun k hk => (h.own.lt k hk).1)).setCell (p := ⟨g, 4, none⟩) h.gB _
  · rw [heap_setCell_other _ _ _ _ (by simp)]; exact hr4
  · refine Keep.set (fun k cs t m q1 q2 => ?_) h.gW 4 v'
    have q3 := h.keep k cs t m q1 q2
    have q4 := (Array.getElem?_eq_some_iff.1 q3).1
    rw [h2.block k (by simp; omega) (row_apartE q2 h.own q3), Below.heap_alloc _ _ _ q4]; exact q3
structure FINW (w W : World) (B g : Nat) (s : RS) (L : List Nat) (v vp : Value) (C1 C2 : Array Value) : Prop where
  own : W.ownsRow B 5 1 v L.length (byC L)
  pr : W.ownsRow B 2 1 vp 512 ((List.range 512).map fun j => .int .i64 (s.probs j : Int))
  below : Below B w W
  box : W.heap[g]? = some (.cells C1 124 (0, 0))
  res : W.heap[g + 1]? = some (.cells C2 124 (0, 0))
  gB : B ≤ g
  gW : w.heap.size ≤ g
  keep : Keep w W
theorem FINW.setBox {w W : World} {B g : Nat} {s : RS} {L : List Nat} {v vp : Value} {C1 C2 : Array Value} (h : FINW w W B g s L v vp C1 C2) (k : Nat) (u : Value) : FINW w (W.setCell ⟨g, k, none⟩ u) B g s L v vp (C1.setIfInBounds k u) C2 :=
  ⟨h.own.kept (grownBy_setC _ g k _) (Or.inr (fun e => row_apartE (by decide) h.own h.box e.symm)), h.pr.kept (grownBy_setC _ g k _) (Or.inr (fun e => row_apartE (by decide) h.pr h.box e.symm)), h.below.setCell (p := ⟨g, k, none⟩) h.gB _, heap_setCell_same _ _ _ _ _ _ h.box, by rw [heap_setCell_other _ _ _ _ (by simp)]; exact h.res, h.gB, h.gW, h.keep.set h.gW _ _⟩
theorem FINW.setRes {w W : World} {B g : Nat} {s : RS} {L : List Nat} {v vp : Value} {C1 C2 : Array Value} (h : FINW w W B g s L v vp C1 C2) (k : Nat) (u : Value) : FINW w (W.setCell ⟨g + 1, k, none⟩ u) B g s L v vp C1 (C2.setIfInBounds k u) :=
  ⟨h.own.kept (grownBy_setC _ (g + 1) k _) (Or.inr (fun e => row_apartE (by decide) h.own h.res e.symm)), h.pr.kept (grownBy_setC _ (g + 1) k _) (Or.inr (fun e => row_apartE (by decide) h.pr h.res e.symm)), h.below.setCell (p := ⟨g + 1, k, none⟩) (by have := h.gB; show B ≤ g + 1; omega) _, by rw [heap_setCell_other _ _ _ _ (by simp)]; exact h.box, heap_setCell_same _ _ _ _ _ _ h.res, h.gB, h.gW, h.keep.set (by have := h.gW; omega) _ _⟩
theorem dg_take0 (h m c : Nat) : (dg h m c).take 0 = [] := rfl
theorem dg_lenM (h m c : Nat) (hm : 1 ≤ m) : (dg h m c).length = m := by rw [dg_len]; omega
theorem dg_step (h m c j : Nat) (hj : j < m) : (dg h m c).take (j + 1) = (dg h m c).take j ++ [((if j = 0 then h else 255) + c) % 256] := by
  have hl : j < (dg h m c).length := by rw [dg_lenM _ _ _ (by omega)]; exact hj
  rw [List.take_succ_eq_append_getElem hl]
  congr 2
  cases j with
  | zero => rfl
  | succ i =>
    simp only [dg, List.getElem_cons_succ, List.getElem_replicate]
    rw [if_neg (by omega)]
set_option maxRecDepth 100000 in
set_option maxHeartbeats 2000000 in
theorem shift_outA {w : World} {B : Nat} {s : RS} {V vo vp : Value} (h : ESV w B s V vo vp) (hB : B ≤ w.heap.size) (hs : s.low < 8589934592 ∧ s.held < 256 ∧ 1 ≤ s.many) (hN : s.os.length + s.many ≤ 900000) (c1 : s.low < 4278190080) :
    Calls Try.prog 73 #[V] w fun e w' => (∃ V' vo', e = .returned V' ∧ ESV w' B s.sh V' vo' vp) ∧ Keep w w' ∧ Below B w w' := by
  obtain ⟨hv, ho, hp⟩ := h
  subst hv
  have hl := hs.1
  have hh := hs.2.1
  have hm := hs.2.2
  obtain ⟨oa, ol, oc, rfl⟩ := own_slice ho
  obtain ⟨pa, pl, pc, rfl⟩ := own_slice hp
  obtain ⟨i0, hi, hz0, hz1, hz2⟩ := info_parts Try.infU8
  have hd1 : decide ((s.low : Int) < 4278190080) = true := by simp; omega
  have hd2 : decide ((4294967296 : Int) ≤ (s.low : Int)) = false := by simp; omega
  obtain ⟨y, hy⟩ : ∃ y : Nat, y = s.low % 16777216 := ⟨_, rfl⟩
  obtain ⟨z, hz⟩ : ∃ z : Nat, z = y * 256 := ⟨_, rfl⟩
  obtain ⟨c, hc⟩ : ∃ c : Nat, c = s.low / 4294967296 := ⟨_, rfl⟩
  obtain ⟨q, hq⟩ : ∃ q : Nat, q = s.low / 16777216 := ⟨_, rfl⟩
  obtain ⟨h2, hh2⟩ : ∃ h2 : Nat, h2 = q % 256 := ⟨_, rfl⟩
  have hand : bits BinOp.and IntKind.u64 (s.low : Int) 16777215 = (y : Int) := by rw [hy]; exact and24 s.low (by omega)
  have hwr : IntKind.u64.wrap ((y : Int) * 256) = (z : Int) := by rw [hz, hy]; exact low256 s.low
  have hcI : (s.low : Int) / 4294967296 = (c : Int) := by omega
  have hqI : (s.low : Int) / 16777216 = (q : Int) := by omega
  have hwq : IntKind.u8.wrap (q : Int) = (h2 : Int) := by rw [IntKind.wrap_u8]; omega
  have hc2 : c ≤ 1 := by omega
  have hwc : IntKind.u8.wrap (c : Int) = (c : Int) := by rw [IntKind.wrap_u8]; omega
  have HS : Hid (s.sh = { s with os := s.out, held := h2, many := 1, low := z }) := by
    show s.sh = _
    unfold RS.sh
    rw [if_pos (by omega), hh2, hz, hq, hy]
  have HSO : Hid (s.out = s.os ++ dg s.held s.many c) := by rw [hc]; exact rfl
  have HO : Hid (SHL w ((w.alloc (.cells #[.int .u64 (s.low : Int), .int .u32 (s.width : Int), .int .u8 (s.held : Int), .int .i64 (s.many : Int), .slice oa ol oc, .slice pa pl pc] 124)).alloc (.cells #[.int .u64 0, .int .u32 0, .int .u8 0, .int .i64 0, .slice none 0 0, .slice none 0 0] 124)) B w.heap.size s (s.os ++ (dg s.held s.many c).take 0) (.slice oa ol oc) (.slice pa pl pc)) := by
    rw [dg_take0, List.append_nil]
    refine ⟨(ho.alloc _).alloc _, (hp.alloc _).alloc _, ((Below.refl _ _).alloc hB _).alloc (by simp; omega) _, ?_, ?_, hB, Nat.le_refl _, ((Keep.refl _).alloc _).alloc _⟩
    · rw [Below.heap_alloc _ _ _ (by simp)]; exact heap_alloc_new w _
    · have h := heap_alloc_new (w.alloc (.cells #[.int .u64 (s.low : Int), .int .u32 (s.width : Int), .int .u8 (s.held : Int), .int .i64 (s.many : Int), .slice oa ol oc, .slice pa pl pc] 124)) (.cells #[.int .u64 0, .int .u32 0, .int .u8 0, .int .i64 0, .slice none 0 0, .slice none 0 0] 124)
      simpa using h
  clear ho hp c1 hy hz hc hq hh2 hl hs
  go_enter Try.func73, Try.ntmps73
  go_wp2_with fail
  go_loopw [4, 5] (fun t u wr => ∃ (j : Nat) (v : Value), j ≤ s.many ∧ u = .int .i64 (j : Int) ∧ t = .int .u8 ((if j = 0 then s.held else 255 : Nat) : Int) ∧ Hid (SHL w wr B w.heap.size s (s.os ++ (dg s.held s.many c).take j) v (.slice pa pl pc))) (fun _ u _ => s.many - natOfI u)
  case atStart => exact ⟨0, _, by omega, rfl, rfl, HO⟩
  case round =>
    clear HO
    obtain ⟨j, v, hj, rfl, rfl, HL⟩ := hrel
    have b3 : wr.cell? ⟨w.heap.size, 3, none⟩ = some (.int .i64 (s.many : Int)) := cell_of_row _ _ _ _ _ _ HL.out.box
    have b4 : wr.cell? ⟨w.heap.size, 4, none⟩ = some v := cell_of_row _ _ _ _ _ _ HL.out.box
    have z4 := frozen_of_row wr w.heap.size 4 _ _ HL.out.box
    by_cases hlt : j < s.many
    · have hltI : (j : Int) < (s.many : Int) := by omega
      have hBw : B ≤ wr.heap.size := Nat.le_trans hB (by have := HL.out.below.size; omega)
      obtain ⟨u, hu⟩ : ∃ u : Nat, u = if j = 0 then s.held else 255 := ⟨_, rfl⟩
      have hu2 : u < 256 := by rw [hu]; split <;> omega
      obtain ⟨x, hx⟩ : ∃ x : Nat, x = (u + c) % 256 := ⟨_, rfl⟩
      have hwx : IntKind.u8.wrap ((u : Int) + (c : Int)) = (x : Int) := by rw [IntKind.wrap_u8]; omega
      obtain ⟨L, hL⟩ : ∃ L, L = s.os ++ (dg s.held s.many c).take j := ⟨_, rfl⟩
      have hLL : L.length ≤ 900000 := by rw [hL, List.length_append, List.length_take]; omega
      have HD : Hid (s.os ++ (dg s.held s.many c).take (j + 1) = L ++ [x]) := by rw [dg_step _ _ _ _ hlt, ← List.append_assoc, ← hL, ← hu, ← hx]; exact rfl
      rw [← hu]
      rw [← hL] at HL
      clear hu hx hL
      go_wp2_with (at_builtin; (refine wpList_append_own _ rfl _ _ 25 rfl B 5 i0 _ 1 1 Try.underlying25 hi hz0 hz1 hz2 rfl (by decide) v L.length (byC L) rfl (HL.out.own.alloc _) ⟨wr.heap.size, 0, none⟩ 1 1 [_] rfl rfl (cell_one_new _ _ _) ?k2 ?k3 ?k4 ?k5 ?_))
      case k2 => intro u hu; simp at hu; subst hu; rfl
      case k3 => unfold maxLen; omega
      case k4 => omega
      case k5 => simp; omega
      intro v' w4 hown' hgrow _
      obtain ⟨ga, ca, rfl, _⟩ := owns_at hown' (by omega)
      have HN : Hid _ := HL.out.put _ hown' hgrow
      have HB : Hid _ := HL.out.box4 _ hgrow
      clear b3 b4 z4
      have b4 : w4.cell? ⟨w.heap.size, 4, none⟩ = some v := cell_of_row _ _ _ _ _ _ HB.out
      have z4 := frozen_of_row w4 w.heap.size 4 _ _ HB.out
      clear hown' hgrow HL
      go_wp2_with fail
      go_roundw
      case rel => exact ⟨j + 1, _, by omega, by go_num, by simp, by rw [HD.out]; exact HN⟩
      case measure => simp [natOfI]; omega
    · obtain rfl : j = s.many := by omega
      have HT : Hid ((dg s.held s.many c).take s.many = dg s.held s.many c) := List.take_of_length_le (by rw [dg_lenM _ _ _ hm]; exact Nat.le_refl _)
      rw [HT.out, ← HSO.out] at HL
      obtain ⟨va, vl, vc, rfl⟩ := own_slice HL.out.own
      obtain ⟨ud, hud⟩ : ∃ ud : Nat, ud = if s.many = 0 then s.held else 255 := ⟨_, rfl⟩
      rw [← hud]
      clear hud
      have b0 : wr.cell? ⟨w.heap.size, 0, none⟩ = some (.int .u64 (s.low : Int)) := cell_of_row _ _ _ _ _ _ HL.out.box
      have z0 := frozen_of_row wr w.heap.size 0 _ _ HL.out.box
      have z2 := frozen_of_row wr w.heap.size 2 _ _ HL.out.box
      have z3 := frozen_of_row wr w.heap.size 3 _ _ HL.out.box
      have b2 : wr.cell? ⟨w.heap.size, 2, none⟩ = some (.int .u8 (s.held : Int)) := cell_of_row _ _ _ _ _ _ HL.out.box
      have b1 : wr.cell? ⟨w.heap.size, 1, none⟩ = some (.int .u32 (s.width : Int)) := cell_of_row _ _ _ _ _ _ HL.out.box
      have b5 : wr.cell? ⟨w.heap.size, 5, none⟩ = some (.slice pa pl pc) := cell_of_row _ _ _ _ _ _ HL.out.box
      have r0 : wr.cell? ⟨w.heap.size + 1, 0, none⟩ = some (.int .u64 0) := cell_of_row _ _ _ _ _ _ HL.out.res
      have r1 : wr.cell? ⟨w.heap.size + 1, 1, none⟩ = some (.int .u32 0) := cell_of_row _ _ _ _ _ _ HL.out.res
      have r2 : wr.cell? ⟨w.heap.size + 1, 2, none⟩ = some (.int .u8 0) := cell_of_row _ _ _ _ _ _ HL.out.res
      have r3 : wr.cell? ⟨w.heap.size + 1, 3, none⟩ = some (.int .i64 0) := cell_of_row _ _ _ _ _ _ HL.out.res
      have r4 : wr.cell? ⟨w.heap.size + 1, 4, none⟩ = some (.slice none 0 0) := cell_of_row _ _ _ _ _ _ HL.out.res
      have r5 : wr.cell? ⟨w.heap.size + 1, 5, none⟩ = some (.slice none 0 0) := cell_of_row _ _ _ _ _ _ HL.out.res
      have y0 := frozen_of_row wr (w.heap.size + 1) 0 _ _ HL.out.res
      have y1 := frozen_of_row wr (w.heap.size + 1) 1 _ _ HL.out.res
      have y2 := frozen_of_row wr (w.heap.size + 1) 2 _ _ HL.out.res
      have y3 := frozen_of_row wr (w.heap.size + 1) 3 _ _ HL.out.res
      have y4 := frozen_of_row wr (w.heap.size + 1) 4 _ _ HL.out.res
      have y5 := frozen_of_row wr (w.heap.size + 1) 5 _ _ HL.out.res
      have HF : Hid _ := (((((((((((FINW.mk HL.out.own HL.out.pr HL.out.below HL.out.box HL.out.res HL.out.gB HL.out.gW HL.out.keep).setBox 3 (.int .i64 0)).setBox 2 (.int .u8 (h2 : Int))).setBox 3 (.int .i64 1)).setBox 0 (.int .u64 (z : Int))).setRes 0 (.int .u64 (z : Int))).setRes 1 (.int .u32 (s.width : Int))).setRes 2 (.int .u8 (h2 : Int))).setRes 3 (.int .i64 1)).setRes 4 (.slice va vl vc)).setRes 5 (.slice pa pl pc))
      clear HL
      go_wp2_with fail
      refine bodyPost_ret (results_cell_row rfl _ _ (w.heap.size + 1) 124 #[.int .u64 (z : Int), .int .u32 (s.width : Int), .int .u8 (h2 : Int), .int .i64 1, .slice va vl vc, .slice pa pl pc] (0, 0) _ rfl HF.out.res Try.underlying124 rfl ?_) rfl ⟨⟨_, .slice va vl vc, rfl, ?_⟩, HF.out.keep, HF.out.below⟩
      · kernel_rfl
      · rw [HS.out]
        exact ⟨rfl, HF.out.own, HF.out.pr⟩
set_option maxRecDepth 100000 in
set_option maxHeartbeats 2000000 in
theorem shift_outB {w : World} {B : Nat} {s : RS} {V vo vp : Value} (h : ESV w B s V vo vp) (hB : B ≤ w.heap.size) (hs : s.low < 8589934592 ∧ s.held < 256 ∧ 1 ≤ s.many) (hN : s.os.length + s.many ≤ 900000) (c1 : 4294967296 ≤ s.low) :
    Calls Try.prog 73 #[V] w fun e w' => (∃ V' vo', e = .returned V' ∧ ESV w' B s.sh V' vo' vp) ∧ Keep w w' ∧ Below B w w' := by
  obtain ⟨hv, ho, hp⟩ := h
  subst hv
  have hl := hs.1
  have hh := hs.2.1
  have hm := hs.2.2
  obtain ⟨oa, ol, oc, rfl⟩ := own_slice ho
  obtain ⟨pa, pl, pc, rfl⟩ := own_slice hp
  obtain ⟨i0, hi, hz0, hz1, hz2⟩ := info_parts Try.infU8
  have hd1 : decide ((s.low : Int) < 4278190080) = false := by simp; omega
  have hd2 : decide ((4294967296 : Int) ≤ (s.low : Int)) = true := by simp; omega
  obtain ⟨y, hy⟩ : ∃ y : Nat, y = s.low % 16777216 := ⟨_, rfl⟩
  obtain ⟨z, hz⟩ : ∃ z : Nat, z = y * 256 := ⟨_, rfl⟩
  obtain ⟨c, hc⟩ : ∃ c : Nat, c = s.low / 4294967296 := ⟨_, rfl⟩
  obtain ⟨q, hq⟩ : ∃ q : Nat, q = s.low / 16777216 := ⟨_, rfl⟩
  obtain ⟨h2, hh2⟩ : ∃ h2 : Nat, h2 = q % 256 := ⟨_, rfl⟩
  have hand : bits BinOp.and IntKind.u64 (s.low : Int) 16777215 = (y : Int) := by rw [hy]; exact and24 s.low (by omega)
  have hwr : IntKind.u64.wrap ((y : Int) * 256) = (z : Int) := by rw [hz, hy]; exact low256 s.low
  have hcI : (s.low : Int) / 4294967296 = (c : Int) := by omega
  have hqI : (s.low : Int) / 16777216 = (q : Int) := by omega
  have hwq : IntKind.u8.wrap (q : Int) = (h2 : Int) := by rw [IntKind.wrap_u8]; omega
  have hc2 : c ≤ 1 := by omega
  have hwc : IntKind.u8.wrap (c : Int) = (c : Int) := by rw [IntKind.wrap_u8]; omega
  have HS : Hid (s.sh = { s with os := s.out, held := h2, many := 1, low := z }) := by
    show s.sh = _
    unfold RS.sh
    rw [if_pos (by omega), hh2, hz, hq, hy]
  have HSO : Hid (s.out = s.os ++ dg s.held s.many c) := by rw [hc]; exact rfl
  have HO : Hid (SHL w ((w.alloc (.cells #[.int .u64 (s.low : Int), .int .u32 (s.width : Int), .int .u8 (s.held : Int), .int .i64 (s.many : Int), .slice oa ol oc, .slice pa pl pc] 124)).alloc (.cells #[.int .u64 0, .int .u32 0, .int .u8 0, .int .i64 0, .slice none 0 0, .slice none 0 0] 124)) B w.heap.size s (s.os ++ (dg s.held s.many c).take 0) (.slice oa ol oc) (.slice pa pl pc)) := by
    rw [dg_take0, List.append_nil]
    refine ⟨(ho.alloc _).alloc _, (hp.alloc _).alloc _, ((Below.refl _ _).alloc hB _).alloc (by simp; omega) _, ?_, ?_, hB, Nat.le_refl _, ((Keep.refl _).alloc _).alloc _⟩
    · rw [Below.heap_alloc _ _ _ (by simp)]; exact heap_alloc_new w _
    · have h := heap_alloc_new (w.alloc (.cells #[.int .u64 (s.low : Int), .int .u32 (s.width : Int), .int .u8 (s.held : Int), .int .i64 (s.many : Int), .slice oa ol oc, .slice pa pl pc] 124)) (.cells #[.int .u64 0, .int .u32 0, .int .u8 0, .int .i64 0, .slice none 0 0, .slice none 0 0] 124)
      simpa using h
  clear ho hp c1 hy hz hc hq hh2 hl hs
  go_enter Try.func73, Try.ntmps73
  go_wp2_with fail
  go_loopw [4, 5] (fun t u wr => ∃ (j : Nat) (v : Value), j ≤ s.many ∧ u = .int .i64 (j : Int) ∧ t = .int .u8 ((if j = 0 then s.held else 255 : Nat) : Int) ∧ Hid (SHL w wr B w.heap.size s (s.os ++ (dg s.held s.many c).take j) v (.slice pa pl pc))) (fun _ u _ => s.many - natOfI u)
  case atStart => exact ⟨0, _, by omega, rfl, rfl, HO⟩
  case round =>
    clear HO
    obtain ⟨j, v, hj, rfl, rfl, HL⟩ := hrel
    have b3 : wr.cell? ⟨w.heap.size, 3, none⟩ = some (.int .i64 (s.many : Int)) := cell_of_row _ _ _ _ _ _ HL.out.box
    have b4 : wr.cell? ⟨w.heap.size, 4, none⟩ = some v := cell_of_row _ _ _ _ _ _ HL.out.box
    have z4 := frozen_of_row wr w.heap.size 4 _ _ HL.out.box
    by_cases hlt : j < s.many
    · have hltI : (j : Int) < (s.many : Int) := by omega
      have hBw : B ≤ wr.heap.size := Nat.le_trans hB (by have := HL.out.below.size; omega)
      obtain ⟨u, hu⟩ : ∃ u : Nat, u = if j = 0 then s.held else 255 := ⟨_, rfl⟩
      have hu2 : u < 256 := by rw [hu]; split <;> omega
      obtain ⟨x, hx⟩ : ∃ x : Nat, x = (u + c) % 256 := ⟨_, rfl⟩
      have hwx : IntKind.u8.wrap ((u : Int) + (c : Int)) = (x : Int) := by rw [IntKind.wrap_u8]; omega
      obtain ⟨L, hL⟩ : ∃ L, L = s.os ++ (dg s.held s.many c).take j := ⟨_, rfl⟩
      have hLL : L.length ≤ 900000 := by rw [hL, List.length_append, List.length_take]; omega
      have HD : Hid (s.os ++ (dg s.held s.many c).take (j + 1) = L ++ [x]) := by rw [dg_step _ _ _ _ hlt, ← List.append_assoc, ← hL, ← hu, ← hx]; exact rfl
      rw [← hu]
      rw [← hL] at HL
      clear hu hx hL
      go_wp2_with (at_builtin; (refine wpList_append_own _ rfl _ _ 25 rfl B 5 i0 _ 1 1 Try.underlying25 hi hz0 hz1 hz2 rfl (by decide) v L.length (byC L) rfl (HL.out.own.alloc _) ⟨wr.heap.size, 0, none⟩ 1 1 [_] rfl rfl (cell_one_new _ _ _) ?k2 ?k3 ?k4 ?k5 ?_))
      case k2 => intro u hu; simp at hu; subst hu; rfl
      case k3 => unfold maxLen; omega
      case k4 => omega
      case k5 => simp; omega
      intro v' w4 hown' hgrow _
      obtain ⟨ga, ca, rfl, _⟩ := owns_at hown' (by omega)
      have HN : Hid _ := HL.out.put _ hown' hgrow
      have HB : Hid _ := HL.out.box4 _ hgrow
      clear b3 b4 z4
      have b4 : w4.cell? ⟨w.heap.size, 4, none⟩ = some v := cell_of_row _ _ _ _ _ _ HB.out
      have z4 := frozen_of_row w4 w.heap.size 4 _ _ HB.out
      clear hown' hgrow HL
      go_wp2_with fail
      go_roundw
      case rel => exact ⟨j + 1, _, by omega, by go_num, by simp, by rw [HD.out]; exact HN⟩
      case measure => simp [natOfI]; omega
    · obtain rfl : j = s.many := by omega
      have HT : Hid ((dg s.held s.many c).take s.many = dg s.held s.many c) := List.take_of_length_le (by rw [dg_lenM _ _ _ hm]; exact Nat.le_refl _)
      rw [HT.out, ← HSO.out] at HL
      obtain ⟨va, vl, vc, rfl⟩ := own_slice HL.out.own
      obtain ⟨ud, hud⟩ : ∃ ud : Nat, ud = if s.many = 0 then s.held else 255 := ⟨_, rfl⟩
      rw [← hud]
      clear hud
      have b0 : wr.cell? ⟨w.heap.size, 0, none⟩ = some (.int .u64 (s.low : Int)) := cell_of_row _ _ _ _ _ _ HL.out.box
      have z0 := frozen_of_row wr w.heap.size 0 _ _ HL.out.box
      have z2 := frozen_of_row wr w.heap.size 2 _ _ HL.out.box
      have z3 := frozen_of_row wr w.heap.size 3 _ _ HL.out.box
      have b2 : wr.cell? ⟨w.heap.size, 2, none⟩ = some (.int .u8 (s.held : Int)) := cell_of_row _ _ _ _ _ _ HL.out.box
      have b1 : wr.cell? ⟨w.heap.size, 1, none⟩ = some (.int .u32 (s.width : Int)) := cell_of_row _ _ _ _ _ _ HL.out.box
      have b5 : wr.cell? ⟨w.heap.size, 5, none⟩ = some (.slice pa pl pc) := cell_of_row _ _ _ _ _ _ HL.out.box
      have r0 : wr.cell? ⟨w.heap.size + 1, 0, none⟩ = some (.int .u64 0) := cell_of_row _ _ _ _ _ _ HL.out.res
      have r1 : wr.cell? ⟨w.heap.size + 1, 1, none⟩ = some (.int .u32 0) := cell_of_row _ _ _ _ _ _ HL.out.res
      have r2 : wr.cell? ⟨w.heap.size + 1, 2, none⟩ = some (.int .u8 0) := cell_of_row _ _ _ _ _ _ HL.out.res
      have r3 : wr.cell? ⟨w.heap.size + 1, 3, none⟩ = some (.int .i64 0) := cell_of_row _ _ _ _ _ _ HL.out.res
      have r4 : wr.cell? ⟨w.heap.size + 1, 4, none⟩ = some (.slice none 0 0) := cell_of_row _ _ _ _ _ _ HL.out.res
      have r5 : wr.cell? ⟨w.heap.size + 1, 5, none⟩ = some (.slice none 0 0) := cell_of_row _ _ _ _ _ _ HL.out.res
      have y0 := frozen_of_row wr (w.heap.size + 1) 0 _ _ HL.out.res
      have y1 := frozen_of_row wr (w.heap.size + 1) 1 _ _ HL.out.res
      have y2 := frozen_of_row wr (w.heap.size + 1) 2 _ _ HL.out.res
      have y3 := frozen_of_row wr (w.heap.size + 1) 3 _ _ HL.out.res
      have y4 := frozen_of_row wr (w.heap.size + 1) 4 _ _ HL.out.res
      have y5 := frozen_of_row wr (w.heap.size + 1) 5 _ _ HL.out.res
      have HF : Hid _ := (((((((((((FINW.mk HL.out.own HL.out.pr HL.out.below HL.out.box HL.out.res HL.out.gB HL.out.gW HL.out.keep).setBox 3 (.int .i64 0)).setBox 2 (.int .u8 (h2 : Int))).setBox 3 (.int .i64 1)).setBox 0 (.int .u64 (z : Int))).setRes 0 (.int .u64 (z : Int))).setRes 1 (.int .u32 (s.width : Int))).setRes 2 (.int .u8 (h2 : Int))).setRes 3 (.int .i64 1)).setRes 4 (.slice va vl vc)).setRes 5 (.slice pa pl pc))
      clear HL
      go_wp2_with fail
      refine bodyPost_ret (results_cell_row rfl _ _ (w.heap.size + 1) 124 #[.int .u64 (z : Int), .int .u32 (s.width : Int), .int .u8 (h2 : Int), .int .i64 1, .slice va vl vc, .slice pa pl pc] (0, 0) _ rfl HF.out.res Try.underlying124 rfl ?_) rfl ⟨⟨_, .slice va vl vc, rfl, ?_⟩, HF.out.keep, HF.out.below⟩
      · kernel_rfl
      · rw [HS.out]
        exact ⟨rfl, HF.out.own, HF.out.pr⟩
theorem shift_any {w : World} {B : Nat} {s : RS} {V vo vp : Value} (h : ESV w B s V vo vp) (hB : B ≤ w.heap.size) (hs : s.low < 8589934592 ∧ s.held < 256 ∧ 1 ≤ s.many) (hN : s.os.length + s.many ≤ 900000) :
    Calls Try.prog 73 #[V] w fun e w' => (∃ V' vo', e = .returned V' ∧ ESV w' B s.sh V' vo' vp) ∧ Keep w w' ∧ Below B w w' := by
  by_cases c1 : s.low < 4278190080
  · exact shift_outA h hB hs hN c1
  · by_cases c2 : 4294967296 ≤ s.low
    · exact shift_outB h hB hs hN c2
    · exact shift_hold h hB hs hN (by omega) (by omega)
/-- how long what is written may be: a shift makes it one longer -/
theorem sh_len {s : RS} (hm : 1 ≤ s.many) : s.sh.os.length + s.sh.many = s.os.length + s.many + 1 := by
  unfold RS.sh
  split
  · show s.out.length + 1 = _
    unfold RS.out
    rw [List.length_append, dg_lenM _ _ _ hm]
  · show s.os.length + (s.many + 1) = _
    omega
end Go.Proofs.Ytibciflmalfbjaa
