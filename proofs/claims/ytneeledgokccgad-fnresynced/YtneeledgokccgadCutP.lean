/-
  Cuts of the code.
-/
import Derived.Test.YtneeledgokccgadCutI
import Derived.Maps.AppendAt
import Derived.RangeFuncBox
namespace Go.Proofs.Ytneeledgokccgad
open Go.RowKit Go.Shelf
attribute [local go_sem] Oper.semAt_some
set_option linter.unusedVariables false
theorem Try.infI : (Try.prog.info? 2).map (fun i => (i.zero, i.size, i.bytes)) = some (some (.int .i64 0), 1, 8) := by kernel_rfl
def cutC (l : List Nat) : List Value := l.map fun (c : Nat) => Value.int .i64 (c : Int)
theorem row_apart {w : World} {B n g0 : Nat} {e t : TypeId} {z : Nat} {v : Value} {xs : List Value} {cs : Array Value} {m : Nat × Nat} (hte : t ≠ e) (h : w.ownsRow B e z v n xs) (hb : w.heap[g0]? = some (.cells cs t m)) : some g0 ≠ v.ownBlock := by
  obtain ⟨hl, ⟨h0, hn⟩ | ⟨g, cap, cur, h1, h2, h3, _⟩⟩ := h
  · subst h0; intro c; cases c
  · subst h1
    intro c
    have c : some g0 = some g := c
    injection c with c
    subst c
    rw [h3] at hb
    cases hb
    exact hte rfl
theorem row_own {β : Type} (B : Nat) (o : Obj) (ho : o.isCells = true) : Own (fun (_ : β) W => W.heap[B]? = some o) := fun s X Y row hs hg hrow =>
  (hg.block B (lt_of_row hs) (fun e' => by obtain ⟨o', h1, h2⟩ := hrow B e'.symm; rw [hs] at h1; cases h1; rw [ho] at h2; cases h2)).trans hs
set_option maxRecDepth 100000 in
set_option maxHeartbeats 4000000 in
theorem cuts_any (L B M : Nat) (s : ByteArray) (hs4 : s.size ≤ 4000) (hL : 1 ≤ L ∧ L ≤ 1000) (hB : 1 ≤ B ∧ B ≤ 12) (hM : L ≤ M ∧ M ≤ 4000) (w : World) :
    Calls Try.prog 20 #[.string s, shpV L B M] w fun e w' => (∃ v, e = .returned (.tuple #[v, .bool true]) ∧ w'.ownsRow w.heap.size 2 1 v (cutL L B M 0 0 0 (lst s)).length (cutC (cutL L B M 0 0 0 (lst s)))) ∧ Below w.heap.size w w' := by
  obtain ⟨i0, hi, hz0, hz1, hz2⟩ := info_parts Try.infI
  have HA : Hid (∀ w, Calls Try.prog 44 #[.string s, shpV L B M] w fun e w' => e = .returned (.bool true) ∧ Below w.heap.size w w') := fun w => (cuttable_any s L B M (by omega) w).mono (by
    rintro e w' ⟨⟨q, rfl, hq⟩, hb⟩
    rw [hq.2 ⟨⟨by omega, by omega, by omega⟩, hs4⟩]
    exact ⟨rfl, hb⟩)
  have HO : Hid (∀ w, _) := fun w => cutsOf_any s L B M w
  unfold shpV at HA HO ⊢
  refine (callsIn_wide (n := 3)).1 ?_
  refine callsIn_of_wp_marks Try.func20 rfl trivial ?_ rfl
  simp only [Try.ntmps20, List.size_toArray, List.length_cons, List.length_nil, Nat.reduceAdd, Nat.reduceSub, Array.replicate_succ, Array.replicate_zero, List.push_toArray, List.append_toArray, List.nil_append, List.cons_append]
  have hr1 := heap_alloc_new w (.cells #[.int .i64 L, .int .i64 B, .int .i64 M] 34)
  have hp0 := cell_of_row _ w.heap.size 0 _ _ _ hr1
  have hp1 := cell_of_row _ w.heap.size 1 _ _ _ hr1
  have hp2 := cell_of_row _ w.heap.size 2 _ _ _ hr1
  gi_wp2_with fail
  refine ⟨trivial, callsIn_wide.2 ((HA.out _).mono ?_)⟩
  rintro e w2 ⟨rfl, hb⟩
  have hs2 : w.heap.size + 1 ≤ w2.heap.size := by have := hb.size; simpa using this
  have hB2 : Below w.heap.size w w2 := ((Below.refl _ w).alloc (Nat.le_refl _) _).trans (hb.mono (by simp))
  have hr2 : (w2.alloc (.cells #[.slice none 0 0] 40)).heap[w.heap.size]? = some (.cells #[.int .i64 L, .int .i64 B, .int .i64 M] 34 (0, 0)) := (Below.heap_alloc _ _ _ (by omega)).trans ((hb.block _ (by simp)).trans hr1)
  have q0 := cell_of_row _ w.heap.size 0 _ _ _ hr2
  have q1 := cell_of_row _ w.heap.size 1 _ _ _ hr2
  have q2 := cell_of_row _ w.heap.size 2 _ _ _ hr2
  clear hr1 hp0 hp1 hp2 hr2
  have HW : Hid (w.heap.size + 1 ≤ w2.heap.size ∧ Below w.heap.size w w2) := ⟨hs2, hB2⟩
  clear hb hs2 hB2
  gi_wp2_with fail
  refine ⟨trivial, callsIn_wide.2 ((HO.out _).mono ?_)⟩
  rintro e w3 ⟨rfl, rfl⟩
  gi_wp2_with fail
  have hbx := Boxed.new w2 40 (.slice none 0 0)
  have hrS : ((w2.alloc (.cells #[.slice none 0 0] 40)).alloc (.cells #[.string s] 9)).heap[w2.heap.size + 1]? = some (.cells #[.string s] 9 (0, 0)) := by
    have h := heap_alloc_new (w2.alloc (.cells #[.slice none 0 0] 40)) (.cells #[.string s] 9)
    rwa [World.size_alloc] at h
  have hrP : (((w2.alloc (.cells #[.slice none 0 0] 40)).alloc (.cells #[.string s] 9)).alloc (.cells #[.int .i64 L, .int .i64 B, .int .i64 M] 34)).heap[w2.heap.size + 1 + 1]? = some (.cells #[.int .i64 L, .int .i64 B, .int .i64 M] 34 (0, 0)) := by
    have h := heap_alloc_new ((w2.alloc (.cells #[.slice none 0 0] 40)).alloc (.cells #[.string s] 9)) (.cells #[.int .i64 L, .int .i64 B, .int .i64 M] 34)
    rwa [World.size_alloc, World.size_alloc] at h
  obtain ⟨hs2, hB2⟩ := HW.out
  obtain ⟨W5, hW5⟩ : ∃ W5, W5 = ((w2.alloc (.cells #[.slice none 0 0] 40)).alloc (.cells #[.string s] 9)).alloc (.cells #[.int .i64 L, .int .i64 B, .int .i64 M] 34) := ⟨_, rfl⟩
  have hrS5 : W5.heap[w2.heap.size + 1]? = some (.cells #[.string s] 9 (0, 0)) := by
    rw [hW5, Below.heap_alloc _ _ _ (by simp)]; exact hrS
  have hrP5 : W5.heap[w2.heap.size + 1 + 1]? = some (.cells #[.int .i64 L, .int .i64 B, .int .i64 M] 34 (0, 0)) := by rw [hW5]; exact hrP
  have hbx5 : Boxed W5 w2.heap.size 40 (.slice none 0 0) := by rw [hW5]; exact (hbx.alloc _).alloc _
  have hsz5 : W5.heap.size = w2.heap.size + 1 + 1 + 1 := by rw [hW5]; simp
  have hB5 : Below w.heap.size w W5 := by rw [hW5]; exact ((hB2.alloc (by omega) _).alloc (by simp; omega) _).alloc (by simp; omega) _
  rw [← hW5]
  clear hW5 hrS hrP hbx q0 q1 q2
  have hWS := hB2
  refine wpIn_rangeFunc_ownG rfl (by omega) (gf := 74) (lb := #[.pointer (some ⟨w2.heap.size + 1, 0, none⟩), .pointer (some ⟨w2.heap.size + 1 + 1, 0, none⟩)]) rfl trivial (enters_of Try.func74 (by kernel_rfl) rfl)
    (cuts_stops 2 (w2.heap.size + 1) (w2.heap.size + 1 + 1) L B M s hs4 hL hB hM W5 hrS5 hrP5) (fun h k => h.trans k)
    (fun W l o o' hl ho h1 h2 => ⟨(belowK_b (w := W5) (Nat.le_refl _) W l o o' hl ho h1 h2).block _ (by omega), (belowK_b (w := W5) (Nat.le_refl _) W l o o' hl ho h1 h2).block _ (by omega)⟩) (Below.refl _ _) (fun _ => rfl)
    (fun pre W => (∃ v, Boxed W w2.heap.size 40 v ∧ W.ownsRow w.heap.size 2 1 v pre.length (cutC pre) ∧ True) ∧ (W.heap[w2.heap.size + 1]? = some (.cells #[.string s] 9 (0, 0)) ∧ W.heap[w2.heap.size + 1 + 1]? = some (.cells #[.int .i64 L, .int .i64 B, .int .i64 M] 34 (0, 0))) ∧ Below w.heap.size w W)
    (fun _ _ _ => False)
    (OwnFrom.and (Own.from (holdsRow_own w.heap.size w2.heap.size 40 2 1 (fun pre => pre.length) (fun pre => cutC pre) (fun pre v => True)) _)
      (OwnFrom.and (OwnFrom.and (Own.from (row_own _ _ rfl) _) (Own.from (row_own _ _ rfl) _)) (ownFrom_below (Nat.le_refl _) (by omega))))
    (fun _ _ _ _ _ hs _ _ => hs)
    ⟨⟨_, hbx5, World.ownsRow_nil _ _ _ _, trivial⟩, ⟨hrS5, hrP5⟩, hB5⟩
    (fun x => { tmps := #[.string s, .agg #[.int .i64 L, .int .i64 B, .int .i64 M], undef, .pointer (some ⟨w.heap.size, 0, none⟩), .slice none 0 0, .bool false, .pointer (some ⟨w2.heap.size, 0, none⟩), .int .i64 (x : Int), .string s, .agg #[.int .i64 L, .int .i64 B, .int .i64 M], .bool true, .bool false, .string s, .agg #[.int .i64 L, .int .i64 B, .int .i64 M], .func (.func 74) #[] #[.pointer (some ⟨w2.heap.size + 1, 0, none⟩), .pointer (some ⟨w2.heap.size + 1 + 1, 0, none⟩)], .int .i64 (x : Int), undef, undef, undef, undef, undef], defers := [] }) ?assign ?body ?done ?stop
  case assign =>
    intro l x W K hK
    gi_wp2
    exact hK
  case body =>
    rintro l pre x W ⟨⟨v, hv, hrow, _⟩, ⟨hS, hP⟩, hBW⟩ hlt
    have hc := hv.cell
    have hlt4 : pre.length < 4000 := by omega
    have HSP : Hid (W.heap[w2.heap.size + 1]? = some (.cells #[.string s] 9 (0, 0)) ∧ W.heap[w2.heap.size + 1 + 1]? = some (.cells #[.int .i64 L, .int .i64 B, .int .i64 M] 34 (0, 0))) := ⟨hS, hP⟩
    clear hS hP hrS5 hrP5 hbx5 hB5 HW HA HO
    have hszW := hBW.size
    gi_wp2_with (gi_at_builtin; refine wpListIn_append_own _ rfl _ _ 40 rfl w.heap.size 2 i0 (.int .i64 0) 1 8 Try.underlying40 hi hz0 hz1 hz2 rfl (by decide) _ _ _ rfl (hrow.alloc _) ⟨W.heap.size, 0, none⟩ 1 1 [.int .i64 (x : Int)] rfl rfl (cell_one_new _ _ _) (by simp [Value.oneCell']) (by unfold maxLen; omega) (by omega) (by simp; omega) ?_; intro v' w1 hown' hgrow _; obtain ⟨g', cap', rfl⟩ := ownsRow_succ hown'; obtain ⟨hv1, hv2, hr2, hk2, hb2⟩ := hv.appended (by decide) hrow hszW (by omega) hown' hgrow; have hc1 := hv1.cell; have hf1 := hv1.frozen)
    have e1 : (w1.setCell ⟨w2.heap.size, 0, none⟩ (.slice (some ⟨g', 0, none⟩) (pre.length + 1) cap')).heap[w2.heap.size + 1]? = W.heap[w2.heap.size + 1]? :=
      (heap_setCell_other _ _ _ _ (by show w2.heap.size + 1 ≠ w2.heap.size; omega)).trans ((hgrow.block _ (by have := lt_of_row HSP.out.1; simp; omega) (row_apart (by decide) hrow HSP.out.1)).trans (Below.heap_alloc _ _ _ (lt_of_row HSP.out.1)))
    have e2 : (w1.setCell ⟨w2.heap.size, 0, none⟩ (.slice (some ⟨g', 0, none⟩) (pre.length + 1) cap')).heap[w2.heap.size + 1 + 1]? = W.heap[w2.heap.size + 1 + 1]? :=
      (heap_setCell_other _ _ _ _ (by show w2.heap.size + 1 + 1 ≠ w2.heap.size; omega)).trans ((hgrow.block _ (by have := lt_of_row HSP.out.2; simp; omega) (row_apart (by decide) hrow HSP.out.2)).trans (Below.heap_alloc _ _ _ (lt_of_row HSP.out.2)))
    have e3 : cutC (pre ++ [x]) = cutC pre ++ [Value.int .i64 (x : Int)] := by simp [cutC]
    exact ⟨hk2.from _, ⟨e1, e2⟩, ⟨⟨_, hv2, by rw [e3, List.length_append]; exact hr2, trivial⟩, ⟨e1.trans HSP.out.1, e2.trans HSP.out.2⟩, hBW.trans hb2⟩⟩
  case done =>
    rintro D ys W hD rfl ⟨⟨v, hv, hrow, _⟩, _, hBW⟩ hK
    have hc := hv.cell
    gi_wp2
    refine ⟨by simp, .inl ⟨_, _, rfl, run_takeDeferred hK, ?_⟩⟩
    exact ⟨_, results_tmp2 rfl _ _ _, ⟨v, rfl, ownsRow_putObj hrow _ hK rfl⟩, hBW.trans (belowK_b (w := w) (Nat.le_refl _) W D _ _ (by have := hWS.size; omega) hK rfl rfl)⟩
  case stop =>
    rintro D c pre W _ _ h _
    exact h.elim
set_option maxRecDepth 100000 in
set_option maxHeartbeats 4000000 in
theorem cuts_no (l b m : Int) (s : ByteArray) (hs : s.size < 140737488351232) (hp : ¬ (shpP l b m ∧ s.size ≤ 4000)) (w : World) :
    Calls Try.prog 20 #[.string s, shpV l b m] w fun e w' => e = .returned (.tuple #[.slice none 0 0, .bool false]) ∧ Below w.heap.size w w' := by
  have HA : Hid (∀ w, Calls Try.prog 44 #[.string s, shpV l b m] w fun e w' => e = .returned (.bool false) ∧ Below w.heap.size w w') := fun w => (cuttable_any s l b m hs w).mono (by
    rintro e w' ⟨⟨q, rfl, hq⟩, hb⟩
    cases q with
    | true => exact absurd (hq.1 rfl) hp
    | false => exact ⟨rfl, hb⟩)
  unfold shpV at HA ⊢
  have hr1 := heap_alloc_new w (.cells #[.int .i64 l, .int .i64 b, .int .i64 m] 34)
  have hp0 := cell_of_row _ w.heap.size 0 _ _ _ hr1
  have hp1 := cell_of_row _ w.heap.size 1 _ _ _ hr1
  have hp2 := cell_of_row _ w.heap.size 2 _ _ _ hr1
  clear hp
  go_enter Try.func20, Try.ntmps20
  go_wp2_with fail
  refine (HA.out _).mono ?_
  rintro e w2 ⟨rfl, hb⟩
  go_wp2_with fail
  go_ret2
  exact ⟨rfl, ((Below.refl _ w).alloc (Nat.le_refl _) _).trans (hb.mono (by simp))⟩
end Go.Proofs.Ytneeledgokccgad
