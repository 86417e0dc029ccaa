/-
  Chunks of the code.
-/
import Derived.Test.YtneeledgokccgadCutP
import Derived.Test.YtneeledgokccgadChkMath
import Derived.Test.YtneeledgokccgadClone
import Derived.Test.YtneeledgokccgadHeld
namespace Go.Proofs.Ytneeledgokccgad
open Go.RowKit Go.Shelf
attribute [local go_sem] Oper.semAt_some
set_option linter.unusedVariables false
set_option linter.unusedSimpArgs false
theorem owns_callJ {w w' : World} {B : Nat} {e : TypeId} {v : Value} {n : Nat} {xs : List Value} (h : w.ownsRow B e 1 v n xs) (hb : Below w.heap.size w w') : w'.ownsRow B e 1 v n xs := by
  obtain ⟨h0, h1 | ⟨g, cap, cur, h1, h2, h3, h4, h5, h6, h7⟩⟩ := h
  · exact ⟨h0, Or.inl h1⟩
  · exact ⟨h0, Or.inr ⟨g, cap, cur, h1, h2, (hb.block g (Array.getElem?_eq_some_iff.1 h3).1).trans h3, h4, h5, h6, h7⟩⟩
theorem owns_drew1 {w : World} {base : Nat} {e : TypeId} {size : Nat} {v : Value} {n : Nat} {xs : List Value} (h : w.ownsRow base e size v n xs) : w.drew.ownsRow base e size v n xs := h
theorem owns_baseJ {w : World} {B C : Nat} {e : TypeId} {v : Value} {n : Nat} {xs : List Value} (h : w.ownsRow B e 1 v n xs) (hC : C ≤ B) : w.ownsRow C e 1 v n xs := by
  obtain ⟨h0, h1 | ⟨g, cap, cur, h1, h2, h3, h4, h5, h6, h7⟩⟩ := h
  · exact ⟨h0, Or.inl h1⟩
  · exact ⟨h0, Or.inr ⟨g, cap, cur, h1, Nat.le_trans hC h2, h3, h4, h5, h6, h7⟩⟩
theorem below_row {w : World} {B k : Nat} {e : TypeId} {z : Nat} {v : Value} {n : Nat} {xs : List Value} (h : w.ownsRow B e z v n xs) (hk : k < B) : some k ≠ v.ownBlock := fun e' => by
  have := (h.lt k e'.symm).1
  omega
theorem cell_alloc_s {W : World} {a : Addr} {v : Value} (o : Obj) (h : W.cell? a = some v) : (W.alloc o).cell? a = some v := cell_kept h (World.grownBy_alloc W o none) (fun r e => by cases e)
theorem keeps_of_call {W W' : World} (hb : Below W.heap.size W W') : KeepsOthers W W' := ⟨hb.size, fun k o hk _ => (hb.block k (Array.getElem?_eq_some_iff.1 hk).1).trans hk⟩
/-- an append within a round -/
theorem wpIn_append_mine {F : Fence} {n : Nat} {P : Program} (w : World) {o : Oper} {a : Act} {K : Act → World → Prop} {Q : Exit → Act → World → Prop}
    (s x : Operand) (t : TypeId) (hop : o.op = Op.call { callee := Callee.builtin Builtin.append, args := #[s, x], argTypes := #[t, t] })
    (base : Nat) (e : TypeId) (i : TypeInfo) (z : Value) (size bytes : Nat) (h1 : P.underlying t = some (.slice e)) (h2 : P.info? e = some i) (h3 : i.zero = some z) (h4 : i.size = size) (h5 : i.bytes = bytes) (h6 : z.cells.size = size) (h7 : 0 < size)
    (v : Value) (k : Nat) (xs : List Value) (hs : a.eval s = v) (hown : w.ownsRow base e size v k xs) (ad : Addr) (m c : Nat) (news : List Value) (hx : a.eval x = .slice (some ad) m c) (hn : news.length = m * size)
    (hc : ∀ j u, news[j]? = some u → w.cell? (ad.add j) = some u) (h1c : ∀ u ∈ news, u.oneCell' = true) (b1 : k + m ≤ maxLen) (b2 : (k + m) * bytes ≤ 140737488355328) (b3 : base ≤ w.heap.size)
    (hK : ∀ v' w', w'.ownsRow base e size v' (k + m) (xs ++ news) → w.grownBy w' v.ownBlock → (v' = .slice none 0 0 ↔ v = .slice none 0 0 ∧ m = 0) → K (a.put o.dst v') w') :
    Oper.wpIn F n P o a w K Q := by
  obtain ⟨v', w', hrun, r1, r2, r3⟩ := run_append_own (P := P) w base t o.type e i z size bytes h1 h2 h3 h4 h5 h6 h7 v k xs hown ad m c news hn hc h1c b1 b2 b3
  refine ⟨by simp [Oper.about, hop, resolve, Target.leads, Sem.run_pure], ?_⟩
  rw [Oper.semAt_plain F _ _ (by rw [hop]; intro c hc'; cases hc')]
  simp [execOp, hop, resolve, invoke, builtin, hs, hx, hrun, Result.andThen]
  exact hK v' w' r1 r2 r3
theorem Try.infS : (Try.prog.info? 9).map (fun i => (i.zero, i.size, i.bytes)) = some (some (.string ByteArray.empty), 1, 16) := by kernel_rfl
/-- behind a round of Chunks' loop -/
theorem chk_end {w w2 W W8 : World} {s : ByteArray} {L B M B5 g cap fr x : Nat} {pre : List Nat} (hs2 : w.heap.size + 2 ≤ w2.heap.size)
    (H : W8.ownsRow (w2.heap.size + 4) 9 1 (.slice (some ⟨g, 0, none⟩) (pre.length + 1) cap) (pre.length + 1) (chkC (chkL s 0 pre) ++ [.string (s.extract fr x)]) ∧ Boxed W8 w2.heap.size 37 (.slice (some ⟨g, 0, none⟩) (pre.length + 1) cap) ∧ KeepsOthers W W8 ∧ Below w.heap.size W W8 ∧ Boxed W8 (w2.heap.size + 1) 3 (.int .i64 (fr : Int)))
    (R : W8.heap[w2.heap.size + 1 + 1]? = some (.cells #[.string s] 9 (0, 0)) ∧ W8.heap[w2.heap.size + 1 + 1 + 1]? = some (.cells #[.int .i64 L, .int .i64 B, .int .i64 M] 34 (0, 0)) ∧ W8.heap[w.heap.size]? = some (.cells #[.string s] 9 (0, 0)))
    (R0 : W.heap[w2.heap.size + 1 + 1]? = some (.cells #[.string s] 9 (0, 0)) ∧ W.heap[w2.heap.size + 1 + 1 + 1]? = some (.cells #[.int .i64 L, .int .i64 B, .int .i64 M] 34 (0, 0)) ∧ W.heap[w.heap.size]? = some (.cells #[.string s] 9 (0, 0)))
    (hch : chkC (chkL s 0 (pre ++ [x])) = chkC (chkL s 0 pre) ++ [Value.string (s.extract fr x)]) (hlc : lastC 0 (pre ++ [x]) = x) (hBW : Below w.heap.size w W) (hw : w.heap.size < w2.heap.size) {a : Act} :
    onlyOn B5 (Kq (w2.heap.size + 1 + 1) (w2.heap.size + 1 + 1 + 1))
      (fun pre W => (∃ v, Boxed W w2.heap.size 37 v ∧ W.ownsRow (w2.heap.size + 4) 9 1 v pre.length (chkC (chkL s 0 pre)) ∧ True) ∧ Boxed W (w2.heap.size + 1) 3 (.int .i64 ((lastC 0 pre : Nat) : Int)) ∧ ((W.heap[w2.heap.size + 1 + 1]? = some (.cells #[.string s] 9 (0, 0)) ∧ W.heap[w2.heap.size + 1 + 1 + 1]? = some (.cells #[.int .i64 L, .int .i64 B, .int .i64 M] 34 (0, 0))) ∧ W.heap[w.heap.size]? = some (.cells #[.string s] 9 (0, 0))) ∧ Below w.heap.size w W)
      (pre ++ [x]) W .normal a (W8.setCell ⟨w2.heap.size + 1, 0, none⟩ (.int .i64 (x : Int))) := by
  obtain ⟨hr, hv, hk, hb, hf⟩ := H
  have o : ∀ k, k ≠ w2.heap.size + 1 → (W8.setCell ⟨w2.heap.size + 1, 0, none⟩ (.int .i64 (x : Int))).heap[k]? = W8.heap[k]? := fun k hk => heap_setCell_other _ _ _ _ hk
  have hg : w2.heap.size + 4 ≤ g := (hr.lt g rfl).1
  refine ⟨rfl, (hk.trans (KeepsOthers.setCell _ _ _)).from _, ⟨(o _ (by omega)).trans (R.1.trans R0.1.symm), (o _ (by omega)).trans (R.2.1.trans R0.2.1.symm)⟩, ⟨_, hv.other (by omega) _, ?_, trivial⟩, ?_, ⟨⟨(o _ (by omega)).trans R.1, (o _ (by omega)).trans R.2.1⟩, (o _ (by omega)).trans R.2.2⟩, hBW.trans (hb.trans ((Below.refl _ W8).setCell (p := ⟨w2.heap.size + 1, 0, none⟩) (by show w.heap.size ≤ w2.heap.size + 1; omega) _))⟩
  · rw [hch, List.length_append]
    exact hr.kept (grownBy_setCell' _ _ _) (Or.inr (fun e => by have e2 : some g = some (w2.heap.size + 1) := e; injection e2; omega))
  · rw [hlc]; exact hf.set _
set_option maxRecDepth 100000 in
set_option maxHeartbeats 4000000 in
theorem chunks_any (L B M : Nat) (s : ByteArray) (hs4 : s.size ≤ 4000) (hL : 1 ≤ L ∧ L ≤ 1000) (hB : 1 ≤ B ∧ B ≤ 12) (hM : L ≤ M ∧ M ≤ 4000) (w : World) :
    Calls Try.prog 18 #[.string s, shpV L B M] w fun e w' => (∃ v, e = .returned (.tuple #[v, .bool true]) ∧ w'.ownsRow w.heap.size 9 1 v (cutL L B M 0 0 0 (lst s)).length (chkC (chkL s 0 (cutL L B M 0 0 0 (lst s))))) ∧ Below w.heap.size w w' := by
  obtain ⟨i0, hi, hz0, hz1, hz2⟩ := info_parts Try.infS
  have HA : Hid (∀ w, Calls Try.prog 44 #[.string s, shpV L B M] w fun e w' => e = .returned (.bool true) ∧ Below w.heap.size w w') := fun w => (cuttable_any s L B M (by omega) w).mono (by
    rintro e w' ⟨⟨q, rfl, hq⟩, hb⟩
    rw [hq.2 ⟨⟨by omega, by omega, by omega⟩, hs4⟩]
    exact ⟨rfl, hb⟩)
  have HO : Hid (∀ w, _) := fun w => cutsOf_any s L B M w
  have HSEQ : Hid (∀ (Bs Bp : Nat) (w : World), w.heap[Bs]? = some (.cells #[.string s] 9 (0, 0)) → w.heap[Bp]? = some (.cells #[.int .i64 L, .int .i64 B, .int .i64 M] 34 (0, 0)) →
      Tells Try.prog 2 74 #[.pointer (some ⟨Bs, 0, none⟩), .pointer (some ⟨Bp, 0, none⟩)] (fun x : Nat => Value.int .i64 (x : Int)) (Kq Bs Bp) (cutL L B M 0 0 0 (lst s)) w) := fun Bs Bp w h1 h2 => cuts_tells 2 Bs Bp L B M s hs4 hL hB hM w h1 h2
  have HCO : Hid (∀ pre x, pre ++ [x] <+: cutL L B M 0 0 0 (lst s) → lastC 0 pre < x ∧ x ≤ s.size ∧ pre.length < 4000) := fun pre x h => by
    obtain ⟨h1, h2⟩ := cut_order h
    have h3 := h.length_le
    have h4 := cutL_len (L := L) (B := B) (M := M) 0 0 0 (lst s)
    rw [lst_len] at h2 h4
    simp at h3
    exact ⟨h1, h2, by omega⟩
  generalize cutL L B M 0 0 0 (lst s) = tot at HSEQ HCO ⊢
  unfold shpV at HA HO ⊢
  refine (callsIn_wide (n := 3)).1 ?_
  refine callsIn_of_wp_marks Try.func18 rfl trivial ?_ rfl
  simp only [Try.ntmps18, List.size_toArray, List.length_cons, List.length_nil, Nat.reduceAdd, Nat.reduceSub, Array.replicate_succ, Array.replicate_zero, List.push_toArray, List.append_toArray, List.nil_append, List.cons_append]
  have hrD := heap_alloc_new w (.cells #[.string s] 9)
  have hr1 := heap_alloc_new (w.alloc (.cells #[.string s] 9)) (.cells #[.int .i64 L, .int .i64 B, .int .i64 M] 34)
  rw [World.size_alloc] at hr1
  have hrD2 := (Below.heap_alloc (w.alloc (.cells #[.string s] 9)) (.cells #[.int .i64 L, .int .i64 B, .int .i64 M] 34) w.heap.size (by simp)).trans hrD
  have hd0 := cell_of_row _ w.heap.size 0 _ _ _ hrD2
  have hp0 := cell_of_row _ (w.heap.size + 1) 0 _ _ _ hr1
  have hp1 := cell_of_row _ (w.heap.size + 1) 1 _ _ _ hr1
  have hp2 := cell_of_row _ (w.heap.size + 1) 2 _ _ _ hr1
  gi_wp2_with fail
  refine ⟨trivial, callsIn_wide.2 ((HA.out _).mono ?_)⟩
  rintro e w2 ⟨rfl, hb⟩
  have hs2 : w.heap.size + 2 ≤ w2.heap.size := by have := hb.size; simpa using this
  have hB2 : Below w.heap.size w w2 := (((Below.refl _ w).alloc (Nat.le_refl _) _).alloc (by simp) _).trans (hb.mono (by simp; omega))
  have hrD3 : w2.heap[w.heap.size]? = some (.cells #[.string s] 9 (0, 0)) := (hb.block _ (by simp; omega)).trans hrD2
  have hrP3 : w2.heap[w.heap.size + 1]? = some (.cells #[.int .i64 L, .int .i64 B, .int .i64 M] 34 (0, 0)) := (hb.block _ (by simp)).trans hr1
  clear hrD hr1 hrD2 hd0 hp0 hp1 hp2 hb
  obtain ⟨W3, hW3⟩ : ∃ W3, W3 = (w2.alloc (.cells #[.slice none 0 0] 37)).alloc (.cells #[.int .i64 0] 3) := ⟨_, rfl⟩
  have hD3 : W3.heap[w.heap.size]? = some (.cells #[.string s] 9 (0, 0)) := by rw [hW3, Below.heap_alloc _ _ _ (by simp; omega), Below.heap_alloc _ _ _ (by omega)]; exact hrD3
  have hP3 : W3.heap[w.heap.size + 1]? = some (.cells #[.int .i64 L, .int .i64 B, .int .i64 M] 34 (0, 0)) := by rw [hW3, Below.heap_alloc _ _ _ (by simp; omega), Below.heap_alloc _ _ _ (by omega)]; exact hrP3
  have hBL3 : Boxed W3 w2.heap.size 37 (.slice none 0 0) := by rw [hW3]; exact (Boxed.new w2 _ _).alloc _
  have hBF3 : Boxed W3 (w2.heap.size + 1) 3 (.int .i64 0) := by rw [hW3]; have h := Boxed.new (w2.alloc (.cells #[.slice none 0 0] 37)) 3 (.int .i64 0); rwa [World.size_alloc] at h
  have hsz3 : W3.heap.size = w2.heap.size + 2 := by rw [hW3]; simp
  have hB3 : Below w.heap.size w W3 := by rw [hW3]; exact (hB2.alloc (by omega) _).alloc (by simp; omega) _
  have HW : Hid (W3 = (w2.alloc (.cells #[.slice none 0 0] 37)).alloc (.cells #[.int .i64 0] 3) ∧ Boxed W3 w2.heap.size 37 (.slice none 0 0) ∧ Boxed W3 (w2.heap.size + 1) 3 (.int .i64 0) ∧ W3.heap.size = w2.heap.size + 2 ∧ Below w.heap.size w W3) := ⟨hW3, hBL3, hBF3, hsz3, hB3⟩
  have q0 := cell_of_row W3 w.heap.size 0 _ _ _ hD3
  have q1 := cell_of_row W3 (w.heap.size + 1) 0 _ _ _ hP3
  have q2 := cell_of_row W3 (w.heap.size + 1) 1 _ _ _ hP3
  have q3 := cell_of_row W3 (w.heap.size + 1) 2 _ _ _ hP3
  have HDP : Hid (W3.heap[w.heap.size]? = some (.cells #[.string s] 9 (0, 0))) := hD3
  rw [hW3] at q0 q1 q2 q3
  clear hBL3 hBF3 hsz3 hB3 hrD3 hrP3 hW3 hD3 hP3
  gi_wp2_with fail
  refine ⟨trivial, callsIn_wide.2 ((HO.out _).mono ?_)⟩
  rintro e w3 ⟨rfl, rfl⟩
  gi_wp2_with fail
  obtain ⟨hW3, hBL3, hBF3, hsz3, hB3⟩ := HW.out
  rw [← hW3]
  have hsz3' : W3.heap.size = w2.heap.size + 1 + 1 := hsz3
  obtain ⟨W5, hW5⟩ : ∃ W5, W5 = (W3.alloc (.cells #[.string s] 9)).alloc (.cells #[.int .i64 L, .int .i64 B, .int .i64 M] 34) := ⟨_, rfl⟩
  have hs5 : W5.heap.size = w2.heap.size + 4 := by rw [hW5]; simp; omega
  have hrS : W5.heap[w2.heap.size + 1 + 1]? = some (.cells #[.string s] 9 (0, 0)) := by
    rw [hW5, Below.heap_alloc _ _ _ (by simp; omega)]
    have h := heap_alloc_new W3 (.cells #[.string s] 9)
    rwa [hsz3'] at h
  have hrP : W5.heap[w2.heap.size + 1 + 1 + 1]? = some (.cells #[.int .i64 L, .int .i64 B, .int .i64 M] 34 (0, 0)) := by
    rw [hW5]
    have h := heap_alloc_new (W3.alloc (.cells #[.string s] 9)) (.cells #[.int .i64 L, .int .i64 B, .int .i64 M] 34)
    rwa [World.size_alloc, hsz3'] at h
  have hBL5 : Boxed W5 w2.heap.size 37 (.slice none 0 0) := by rw [hW5]; exact (hBL3.alloc _).alloc _
  have hBF5 : Boxed W5 (w2.heap.size + 1) 3 (.int .i64 0) := by rw [hW5]; exact (hBF3.alloc _).alloc _
  have hD5 : W5.heap[w.heap.size]? = some (.cells #[.string s] 9 (0, 0)) := by
    rw [hW5, Below.heap_alloc _ _ _ (by simp; omega), Below.heap_alloc _ _ _ (by omega)]; exact HDP.out
  have hB5 : Below w.heap.size w W5 := by rw [hW5]; exact (hB3.alloc (by omega) _).alloc (by simp; omega) _
  have hseq := HSEQ.out (w2.heap.size + 1 + 1) (w2.heap.size + 1 + 1 + 1) W5 hrS hrP
  rw [← hW5]
  clear hW5 HW HA HO HSEQ q0 q1 q2 q3 hW3 hBL3 hBF3 hsz3 hsz3' hB3 HDP
  refine range_told (by omega) (gf := 74) (lb := #[.pointer (some ⟨w2.heap.size + 1 + 1, 0, none⟩), .pointer (some ⟨w2.heap.size + 1 + 1 + 1, 0, none⟩)]) rfl (enters_of Try.func74 (by kernel_rfl) rfl)
    hseq (fun h k => h.trans k)
    (fun W l o o' hl ho h1 h2 => ⟨(belowK_b (w := W5) (Nat.le_refl _) W l o o' hl ho h1 h2).block _ (by omega), (belowK_b (w := W5) (Nat.le_refl _) W l o o' hl ho h1 h2).block _ (by omega)⟩)
    (fun pre W => (∃ v, Boxed W w2.heap.size 37 v ∧ W.ownsRow (w2.heap.size + 4) 9 1 v pre.length (chkC (chkL s 0 pre)) ∧ True) ∧ Boxed W (w2.heap.size + 1) 3 (.int .i64 ((lastC 0 pre : Nat) : Int)) ∧ ((W.heap[w2.heap.size + 1 + 1]? = some (.cells #[.string s] 9 (0, 0)) ∧ W.heap[w2.heap.size + 1 + 1 + 1]? = some (.cells #[.int .i64 L, .int .i64 B, .int .i64 M] 34 (0, 0))) ∧ W.heap[w.heap.size]? = some (.cells #[.string s] 9 (0, 0))) ∧ Below w.heap.size w W)
    (OwnFrom.and (Own.from (holdsRow_own (w2.heap.size + 4) w2.heap.size 37 9 1 (fun pre => pre.length) (fun pre => chkC (chkL s 0 pre)) (fun pre v => True)) _)
      (OwnFrom.and (Own.from (boxed_own (w2.heap.size + 1) 3 (fun pre => .int .i64 ((lastC 0 pre : Nat) : Int))) _)
        (OwnFrom.and (OwnFrom.and (OwnFrom.and (Own.from (row_own _ _ rfl) _) (Own.from (row_own _ _ rfl) _)) (Own.from (row_own _ _ rfl) _)) (ownFrom_below (Nat.le_refl _) (by omega)))))
    ⟨⟨_, hBL5, World.ownsRow_nil _ _ _ _, trivial⟩, hBF5, ⟨⟨hrS, hrP⟩, hD5⟩, hB5⟩
    (fun x => { tmps := #[.string s, .agg #[.int .i64 L, .int .i64 B, .int .i64 M], .pointer (some ⟨w.heap.size, 0, none⟩), .pointer (some ⟨w.heap.size + 1, 0, none⟩), .slice none 0 0, .bool false, .pointer (some ⟨w2.heap.size, 0, none⟩), .pointer (some ⟨w2.heap.size + 1, 0, none⟩), .int .i64 (x : Int), .string s, .agg #[.int .i64 L, .int .i64 B, .int .i64 M], .bool true, .bool false, .string s, .agg #[.int .i64 L, .int .i64 B, .int .i64 M], .func (.func 74) #[] #[.pointer (some ⟨w2.heap.size + 1 + 1, 0, none⟩), .pointer (some ⟨w2.heap.size + 1 + 1 + 1, 0, none⟩)], .int .i64 (x : Int), undef, undef, undef, undef, undef, undef, undef, undef, undef, undef], defers := [] }) ?assign ?body ?done
  case assign =>
    intro l x W K hK
    gi_wp2
    exact hK
  case body =>
    rintro l pre x W ⟨⟨v, hv, hrow, _⟩, hf, ⟨⟨hS, hP⟩, hD⟩, hBW⟩ htie
    obtain ⟨t1, t2, t3⟩ := HCO.out pre x htie
    have hc := hv.cell
    have hcf := hf.cell
    have hff := hf.frozen
    have hcd := cell_of_row W w.heap.size 0 _ _ _ hD
    clear hrS hrP hBL5 hBF5 hD5 hB5 hseq HCO htie
    have hszW := hBW.size
    have hszW4 : w2.heap.size + 4 ≤ W.heap.size := by have := lt_of_row hP; omega
    have hmix : Try.prog.follows .mixedOrders = true := by kernel_rfl
    have hlim : (s.extract (lastC 0 pre) x).size ≤ 281474976710656 := by rw [ByteArray.size_extract]; omega
    have HCH : Hid (chkC (chkL s 0 (pre ++ [x])) = chkC (chkL s 0 pre) ++ [Value.string (s.extract (lastC 0 pre) x)]) := by show _ = _; rw [chkL_snoc]; simp [chkC]
    have HLC : Hid (lastC 0 (pre ++ [x]) = x) := lastC_snoc _ _ _
    have HSP : Hid (W.heap[w2.heap.size + 1 + 1]? = some (.cells #[.string s] 9 (0, 0)) ∧ W.heap[w2.heap.size + 1 + 1 + 1]? = some (.cells #[.int .i64 L, .int .i64 B, .int .i64 M] 34 (0, 0)) ∧ W.heap[w.heap.size]? = some (.cells #[.string s] 9 (0, 0))) := ⟨hS, hP, hD⟩
    clear hS hP hD
    generalize hfr : lastC 0 pre = fr at *
    have hfx : (fr : Int) ≤ (x : Int) := by omega
    have hxs : (x : Int) ≤ (s.size : Int) := by omega
    obtain ⟨S, hSS⟩ : ∃ S : World → Prop, S = fun w' => w'.cell? ⟨w.heap.size, 0, none⟩ = some (.string s) ∧ w'.cell? ⟨w2.heap.size + 1, 0, none⟩ = some (.int .i64 (fr : Int)) := ⟨_, rfl⟩
    have hSb : ∀ w', Below W.heap.size W w' → S w' := fun w' h => by rw [hSS]; exact ⟨(h.cell (p := ⟨w.heap.size, 0, none⟩) (lt_of_row HSP.out.2.2)).trans hcd, (h.cell (p := ⟨w2.heap.size + 1, 0, none⟩) hf.lt).trans hcf⟩
    have HSB : Hid _ := hSb
    have hSd : S W.drew := hSb _ (Below.refl _ W).drew
    have HS : Hid (S = fun w' => w'.cell? ⟨w.heap.size, 0, none⟩ = some (.string s) ∧ w'.cell? ⟨w2.heap.size + 1, 0, none⟩ = some (.int .i64 (fr : Int))) := hSS
    have HXF : Hid (∀ w', S w' → w'.cell? ⟨w2.heap.size + 1, 0, none⟩ = some (.int .i64 (fr : Int))) := fun w' h => by rw [hSS] at h; exact h.2
    have HXD : Hid (∀ w', S w' → w'.cell? ⟨w.heap.size, 0, none⟩ = some (.string s)) := fun w' h => by rw [hSS] at h; exact h.1
    have HCL : Hid (∀ w3, Below (World.drew W).heap.size (World.drew W) w3 → Calls Try.prog 46 #[.string (s.extract fr x)] w3 fun e w' => e = .returned (.string (s.extract fr x)) ∧ Below w3.heap.size w3 w') := fun w3 _ => clone_any (s.extract fr x) _ hlim
    clear hSS hSb hcf hcd
    gi_wp2_with fail
    refine region_round (S := S) hmix (by kernel_rfl) ?hlo ?_
    case hlo => rintro ⟨a0, w0, h⟩; exact absurd (show Exit.outgrown = Exit.normal from h.1) (by intro c; cases c)
    change wpAnyH _ _ _ _ _ _ _ _ (World.drew _)
    refine wpAnyH_take (i := 1) (v := .string s) rfl (by kernel_rfl) (by kernel_rfl) (by kernel_rfl) (fun _ _ _ h => h) (Or.inl ⟨by rfl, by intro w' hS'; have hxx := HXD.out w' hS'; go_simp <;> (first | omega | (rw [IntKind.wrap_i64]; omega) | (rw [IntKind.wrap_u64]; omega) | (rw [IntKind.wrap_u32]; omega) | (rw [Int.tmod_eq_emod_of_nonneg (by omega)]))⟩) hSd ?_
    (try simp only [List.getElem_toArray, List.getElem_cons_succ, List.getElem_cons_zero, Act.put, List.setIfInBounds_toArray, List.set_cons_zero, List.set_cons_succ])
    refine wpAnyH_take (i := 2) (v := .int .i64 (fr : Int)) rfl (by kernel_rfl) (by kernel_rfl) (by kernel_rfl) (fun _ _ _ h => h) (Or.inl ⟨by rfl, by intro w' hS'; have hxx := HXF.out w' hS'; go_simp <;> (first | omega | (rw [IntKind.wrap_i64]; omega) | (rw [IntKind.wrap_u64]; omega) | (rw [IntKind.wrap_u32]; omega) | (rw [Int.tmod_eq_emod_of_nonneg (by omega)]))⟩) hSd ?_
    (try simp only [List.getElem_toArray, List.getElem_cons_succ, List.getElem_cons_zero, Act.put, List.setIfInBounds_toArray, List.set_cons_zero, List.set_cons_succ])
    refine wpAnyH_take (i := 3) (v := .int .i64 (x : Int)) rfl (by kernel_rfl) (by kernel_rfl) (by kernel_rfl) (fun _ _ _ h => h) (Or.inl ⟨by rfl, by intro w' hS'; go_simp <;> (first | omega | (rw [IntKind.wrap_i64]; omega) | (rw [IntKind.wrap_u64]; omega) | (rw [IntKind.wrap_u32]; omega) | (rw [Int.tmod_eq_emod_of_nonneg (by omega)]))⟩) hSd ?_
    (try simp only [List.getElem_toArray, List.getElem_cons_succ, List.getElem_cons_zero, Act.put, List.setIfInBounds_toArray, List.set_cons_zero, List.set_cons_succ])
    refine wpAnyH_take (i := 4) (v := .string (s.extract fr x)) rfl (by kernel_rfl) (by kernel_rfl) (by kernel_rfl) (fun _ _ _ h => h) (Or.inl ⟨by rfl, by intro w' hS'; go_simp <;> (first | omega | (rw [IntKind.wrap_i64]; omega) | (rw [IntKind.wrap_u64]; omega) | (rw [IntKind.wrap_u32]; omega) | (rw [Int.tmod_eq_emod_of_nonneg (by omega)]))⟩) hSd ?_
    (try simp only [List.getElem_toArray, List.getElem_cons_succ, List.getElem_cons_zero, Act.put, List.setIfInBounds_toArray, List.set_cons_zero, List.set_cons_succ])
    refine held_two (i := 0) (k := 5) (by kernel_rfl) rfl rfl (by rfl) (by rfl) ?_ ?_
    · go_simp
      refine ⟨hSd, ?_⟩
      (try simp only [List.getElem_toArray, List.getElem_cons_succ, List.getElem_cons_zero, Act.put, List.setIfInBounds_toArray, List.set_cons_zero, List.set_cons_succ])
      refine held_stepS (i := 5) (by kernel_rfl) rfl (by rfl) ?_
      go_simp
      refine (HCL.out _ (Below.refl _ _)).mono ?_
      rintro e w3 ⟨rfl, hb3⟩
      have hb4 : Below W.heap.size W w3 := ((Below.refl _ W).drew).trans hb3
      clear hb3
      have hL3 : w3.cell? ⟨w2.heap.size, 0, none⟩ = some v := (hb4.cell (p := ⟨w2.heap.size, 0, none⟩) hv.lt).trans hc
      refine ⟨HSB.out _ hb4, ?_⟩
      (try simp only [List.getElem_toArray, List.getElem_cons_succ, List.getElem_cons_zero, Act.put, List.setIfInBounds_toArray, List.set_cons_zero, List.set_cons_succ])
      refine held_stepS (i := 6) (by kernel_rfl) rfl (by rfl) ?_
      go_simp
      refine ⟨HSB.out _ (hb4.alloc hb4.size _), ?_⟩
      (try simp only [List.getElem_toArray, List.getElem_cons_succ, List.getElem_cons_zero, Act.put, List.setIfInBounds_toArray, List.set_cons_zero, List.set_cons_succ])
      refine held_stepS (i := 7) (by kernel_rfl) rfl (by rfl) ?_
      refine wp_append_own _ (.tmp 17) (.tmp 23) 37 rfl (w2.heap.size + 4) 9 i0 (.string ByteArray.empty) 1 16 Try.underlying37 hi hz0 hz1 hz2 rfl (by decide) v pre.length (chkC (chkL s 0 pre)) rfl ((owns_callJ hrow hb4).alloc _) ⟨w3.heap.size, 0, none⟩ 1 1 [.string (s.extract fr x)] rfl rfl (cell_one_new _ _ _) (by simp [Value.oneCell']) (by unfold maxLen; omega) (by omega) (by have := hb4.size; simp; omega) ?_
      intro v' w1 hown' hgrow _
      obtain ⟨g', cap', rfl⟩ := ownsRow_succ hown'
      have hr3 := owns_callJ hrow hb4
      have hv3 : Boxed w3 w2.heap.size 37 v := (hb4.block _ hv.lt).trans hv
      have hsz3 : w.heap.size ≤ w3.heap.size := Nat.le_trans hszW hb4.size
      obtain ⟨hv1, hv2, _, hk2, hb2⟩ := hv3.appended (by decide) (owns_baseJ hr3 (show w.heap.size ≤ w2.heap.size + 4 by omega)) hsz3 (by omega) (owns_baseJ hown' (show w.heap.size ≤ w2.heap.size + 4 by omega)) hgrow
      have hg4 : w2.heap.size + 4 ≤ g' := (hown'.lt g' rfl).1
      have hc1 := hv1.cell
      have hf1 := hv1.frozen
      have s1 : ∀ {k : Nat} {o : Obj}, W.heap[k]? = some o → k < w2.heap.size + 4 → w1.heap[k]? = some o := fun {k o} hk hlt => (hgrow.block _ (by have := lt_of_row hk; have := hb4.size; simp; omega) (below_row hr3 hlt)).trans ((Below.heap_alloc _ _ _ (Nat.lt_of_lt_of_le (lt_of_row hk) hb4.size)).trans ((hb4.block _ (lt_of_row hk)).trans hk))
      obtain ⟨W8, hW8⟩ : ∃ W8, W8 = w1.setCell ⟨w2.heap.size, 0, none⟩ (.slice (some ⟨g', 0, none⟩) (pre.length + 1) cap') := ⟨_, rfl⟩
      have s8 : ∀ {k : Nat} {o : Obj}, W.heap[k]? = some o → k < w2.heap.size + 4 → k ≠ w2.heap.size → W8.heap[k]? = some o := fun hk hlt hne => by rw [hW8]; exact (heap_setCell_other _ _ _ _ hne).trans (s1 hk hlt)
      have hd1 := s1 HSP.out.2.2 (by omega)
      have hff1 := s1 hf (by omega)
      have hd8 := s8 HSP.out.2.2 (by omega) (by omega)
      have hff8 : Boxed W8 (w2.heap.size + 1) 3 (.int .i64 (fr : Int)) := s8 hf (by omega) (by omega)
      have hr8 : W8.ownsRow (w2.heap.size + 4) 9 1 (.slice (some ⟨g', 0, none⟩) (pre.length + 1) cap') (pre.length + 1) (chkC (chkL s 0 pre) ++ [.string (s.extract fr x)]) := by rw [hW8]; exact hown'.kept (grownBy_setCell' _ _ _) (Or.inr (fun e => by have e2 : some g' = some w2.heap.size := e; injection e2; omega))
      have hv8 : Boxed W8 w2.heap.size 37 (.slice (some ⟨g', 0, none⟩) (pre.length + 1) cap') := by rw [hW8]; exact hv2
      have hk8 : KeepsOthers W W8 := by rw [hW8]; exact (keeps_of_call hb4).trans hk2
      have hb8 : Below w.heap.size W W8 := by rw [hW8]; exact (hb4.mono hszW).trans hb2
      have hS8 := s8 HSP.out.1 (by omega) (by omega)
      have hP8 := s8 HSP.out.2.1 (by omega) (by omega)
      refine ⟨by rw [HS.out]; exact ⟨cell_of_row _ _ 0 _ _ _ hd1, cell_of_row _ _ 0 _ _ _ hff1⟩, ?_⟩
      (try simp only [List.getElem_toArray, List.getElem_cons_succ, List.getElem_cons_zero, Act.put, List.setIfInBounds_toArray, List.set_cons_zero, List.set_cons_succ])
      refine held_stepS (i := 8) (by kernel_rfl) rfl (by rfl) ?_
      go_simp
      rw [← hW8]
      refine ⟨by rw [HS.out]; exact ⟨cell_of_row _ _ 0 _ _ _ hd8, cell_of_row _ _ 0 _ _ _ hff8⟩, ?_⟩
      (try simp only [List.getElem_toArray, List.getElem_cons_succ, List.getElem_cons_zero, Act.put, List.setIfInBounds_toArray, List.set_cons_zero, List.set_cons_succ])
      refine wpAnyH_done (by kernel_rfl) ?_ _
      have hcf8 := hff8.cell
      have hff9 := hff8.frozen
      have HE8 : Hid (W8.ownsRow (w2.heap.size + 4) 9 1 (.slice (some ⟨g', 0, none⟩) (pre.length + 1) cap') (pre.length + 1) (chkC (chkL s 0 pre) ++ [.string (s.extract fr x)]) ∧ Boxed W8 w2.heap.size 37 (.slice (some ⟨g', 0, none⟩) (pre.length + 1) cap') ∧ KeepsOthers W W8 ∧ Below w.heap.size W W8 ∧ Boxed W8 (w2.heap.size + 1) 3 (.int .i64 (fr : Int))) := ⟨hr8, hv8, hk8, hb8, hff8⟩
      have HR8 : Hid (W8.heap[w2.heap.size + 1 + 1]? = some (.cells #[.string s] 9 (0, 0)) ∧ W8.heap[w2.heap.size + 1 + 1 + 1]? = some (.cells #[.int .i64 L, .int .i64 B, .int .i64 M] 34 (0, 0)) ∧ W8.heap[w.heap.size]? = some (.cells #[.string s] 9 (0, 0))) := ⟨hS8, hP8, hd8⟩
      clear hr8 hv8 hk8 hb8 hff8 hS8 hP8 hd8 hff1 hd1 hW8 hv1 hv2 hk2 hb2 hc1 hf1 hown' hgrow hr3 hv3 hb4 s1 s8
      gi_wp2_with fail
      exact chk_end hs2 HE8.out HR8.out HSP.out HCH.out HLC.out hBW (by omega)
    · go_simp
      refine (HCL.out _ (Below.refl _ _)).mono ?_
      rintro e w3 ⟨rfl, hb3⟩
      have hb4 : Below W.heap.size W w3 := ((Below.refl _ W).drew).trans hb3
      clear hb3
      have hL3 : w3.cell? ⟨w2.heap.size, 0, none⟩ = some v := (hb4.cell (p := ⟨w2.heap.size, 0, none⟩) hv.lt).trans hc
      refine ⟨HSB.out _ hb4, ?_⟩
      (try simp only [List.getElem_toArray, List.getElem_cons_succ, List.getElem_cons_zero, Act.put, List.setIfInBounds_toArray, List.set_cons_zero, List.set_cons_succ])
      refine held_two (i := 0) (k := 6) (by kernel_rfl) rfl rfl (by rfl) (by rfl) ?_ ?_
      · go_simp
        refine ⟨HSB.out _ hb4, ?_⟩
        (try simp only [List.getElem_toArray, List.getElem_cons_succ, List.getElem_cons_zero, Act.put, List.setIfInBounds_toArray, List.set_cons_zero, List.set_cons_succ])
        refine held_stepS (i := 6) (by kernel_rfl) rfl (by rfl) ?_
        go_simp
        refine ⟨HSB.out _ (hb4.alloc hb4.size _), ?_⟩
        (try simp only [List.getElem_toArray, List.getElem_cons_succ, List.getElem_cons_zero, Act.put, List.setIfInBounds_toArray, List.set_cons_zero, List.set_cons_succ])
        refine held_stepS (i := 7) (by kernel_rfl) rfl (by rfl) ?_
        refine wp_append_own _ (.tmp 17) (.tmp 23) 37 rfl (w2.heap.size + 4) 9 i0 (.string ByteArray.empty) 1 16 Try.underlying37 hi hz0 hz1 hz2 rfl (by decide) v pre.length (chkC (chkL s 0 pre)) rfl ((owns_callJ hrow hb4).alloc _) ⟨w3.heap.size, 0, none⟩ 1 1 [.string (s.extract fr x)] rfl rfl (cell_one_new _ _ _) (by simp [Value.oneCell']) (by unfold maxLen; omega) (by omega) (by have := hb4.size; simp; omega) ?_
        intro v' w1 hown' hgrow _
        obtain ⟨g', cap', rfl⟩ := ownsRow_succ hown'
        have hr3 := owns_callJ hrow hb4
        have hv3 : Boxed w3 w2.heap.size 37 v := (hb4.block _ hv.lt).trans hv
        have hsz3 : w.heap.size ≤ w3.heap.size := Nat.le_trans hszW hb4.size
        obtain ⟨hv1, hv2, _, hk2, hb2⟩ := hv3.appended (by decide) (owns_baseJ hr3 (show w.heap.size ≤ w2.heap.size + 4 by omega)) hsz3 (by omega) (owns_baseJ hown' (show w.heap.size ≤ w2.heap.size + 4 by omega)) hgrow
        have hg4 : w2.heap.size + 4 ≤ g' := (hown'.lt g' rfl).1
        have hc1 := hv1.cell
        have hf1 := hv1.frozen
        have s1 : ∀ {k : Nat} {o : Obj}, W.heap[k]? = some o → k < w2.heap.size + 4 → w1.heap[k]? = some o := fun {k o} hk hlt => (hgrow.block _ (by have := lt_of_row hk; have := hb4.size; simp; omega) (below_row hr3 hlt)).trans ((Below.heap_alloc _ _ _ (Nat.lt_of_lt_of_le (lt_of_row hk) hb4.size)).trans ((hb4.block _ (lt_of_row hk)).trans hk))
        obtain ⟨W8, hW8⟩ : ∃ W8, W8 = w1.setCell ⟨w2.heap.size, 0, none⟩ (.slice (some ⟨g', 0, none⟩) (pre.length + 1) cap') := ⟨_, rfl⟩
        have s8 : ∀ {k : Nat} {o : Obj}, W.heap[k]? = some o → k < w2.heap.size + 4 → k ≠ w2.heap.size → W8.heap[k]? = some o := fun hk hlt hne => by rw [hW8]; exact (heap_setCell_other _ _ _ _ hne).trans (s1 hk hlt)
        have hd1 := s1 HSP.out.2.2 (by omega)
        have hff1 := s1 hf (by omega)
        have hd8 := s8 HSP.out.2.2 (by omega) (by omega)
        have hff8 : Boxed W8 (w2.heap.size + 1) 3 (.int .i64 (fr : Int)) := s8 hf (by omega) (by omega)
        have hr8 : W8.ownsRow (w2.heap.size + 4) 9 1 (.slice (some ⟨g', 0, none⟩) (pre.length + 1) cap') (pre.length + 1) (chkC (chkL s 0 pre) ++ [.string (s.extract fr x)]) := by rw [hW8]; exact hown'.kept (grownBy_setCell' _ _ _) (Or.inr (fun e => by have e2 : some g' = some w2.heap.size := e; injection e2; omega))
        have hv8 : Boxed W8 w2.heap.size 37 (.slice (some ⟨g', 0, none⟩) (pre.length + 1) cap') := by rw [hW8]; exact hv2
        have hk8 : KeepsOthers W W8 := by rw [hW8]; exact (keeps_of_call hb4).trans hk2
        have hb8 : Below w.heap.size W W8 := by rw [hW8]; exact (hb4.mono hszW).trans hb2
        have hS8 := s8 HSP.out.1 (by omega) (by omega)
        have hP8 := s8 HSP.out.2.1 (by omega) (by omega)
        refine ⟨by rw [HS.out]; exact ⟨cell_of_row _ _ 0 _ _ _ hd1, cell_of_row _ _ 0 _ _ _ hff1⟩, ?_⟩
        (try simp only [List.getElem_toArray, List.getElem_cons_succ, List.getElem_cons_zero, Act.put, List.setIfInBounds_toArray, List.set_cons_zero, List.set_cons_succ])
        refine held_stepS (i := 8) (by kernel_rfl) rfl (by rfl) ?_
        go_simp
        rw [← hW8]
        refine ⟨by rw [HS.out]; exact ⟨cell_of_row _ _ 0 _ _ _ hd8, cell_of_row _ _ 0 _ _ _ hff8⟩, ?_⟩
        (try simp only [List.getElem_toArray, List.getElem_cons_succ, List.getElem_cons_zero, Act.put, List.setIfInBounds_toArray, List.set_cons_zero, List.set_cons_succ])
        refine wpAnyH_done (by kernel_rfl) ?_ _
        have hcf8 := hff8.cell
        have hff9 := hff8.frozen
        have HE8 : Hid (W8.ownsRow (w2.heap.size + 4) 9 1 (.slice (some ⟨g', 0, none⟩) (pre.length + 1) cap') (pre.length + 1) (chkC (chkL s 0 pre) ++ [.string (s.extract fr x)]) ∧ Boxed W8 w2.heap.size 37 (.slice (some ⟨g', 0, none⟩) (pre.length + 1) cap') ∧ KeepsOthers W W8 ∧ Below w.heap.size W W8 ∧ Boxed W8 (w2.heap.size + 1) 3 (.int .i64 (fr : Int))) := ⟨hr8, hv8, hk8, hb8, hff8⟩
        have HR8 : Hid (W8.heap[w2.heap.size + 1 + 1]? = some (.cells #[.string s] 9 (0, 0)) ∧ W8.heap[w2.heap.size + 1 + 1 + 1]? = some (.cells #[.int .i64 L, .int .i64 B, .int .i64 M] 34 (0, 0)) ∧ W8.heap[w.heap.size]? = some (.cells #[.string s] 9 (0, 0))) := ⟨hS8, hP8, hd8⟩
        clear hr8 hv8 hk8 hb8 hff8 hS8 hP8 hd8 hff1 hd1 hW8 hv1 hv2 hk2 hb2 hc1 hf1 hown' hgrow hr3 hv3 hb4 s1 s8
        gi_wp2_with fail
        exact chk_end hs2 HE8.out HR8.out HSP.out HCH.out HLC.out hBW (by omega)
      · go_simp
        refine ⟨HSB.out _ (hb4.alloc hb4.size _), ?_⟩
        (try simp only [List.getElem_toArray, List.getElem_cons_succ, List.getElem_cons_zero, Act.put, List.setIfInBounds_toArray, List.set_cons_zero, List.set_cons_succ])
        refine held_stepS (i := 0) (by kernel_rfl) rfl (by rfl) ?_
        have hL4 : (w3.alloc (.cells #[.string (s.extract fr x)] 9)).cell? ⟨w2.heap.size, 0, none⟩ = some v := cell_alloc_s _ hL3
        go_simp
        refine ⟨HSB.out _ (hb4.alloc hb4.size _), ?_⟩
        (try simp only [List.getElem_toArray, List.getElem_cons_succ, List.getElem_cons_zero, Act.put, List.setIfInBounds_toArray, List.set_cons_zero, List.set_cons_succ])
        refine held_stepS (i := 7) (by kernel_rfl) rfl (by rfl) ?_
        refine wp_append_own _ (.tmp 17) (.tmp 23) 37 rfl (w2.heap.size + 4) 9 i0 (.string ByteArray.empty) 1 16 Try.underlying37 hi hz0 hz1 hz2 rfl (by decide) v pre.length (chkC (chkL s 0 pre)) rfl ((owns_callJ hrow hb4).alloc _) ⟨w3.heap.size, 0, none⟩ 1 1 [.string (s.extract fr x)] rfl rfl (cell_one_new _ _ _) (by simp [Value.oneCell']) (by unfold maxLen; omega) (by omega) (by have := hb4.size; simp; omega) ?_
        intro v' w1 hown' hgrow _
        obtain ⟨g', cap', rfl⟩ := ownsRow_succ hown'
        have hr3 := owns_callJ hrow hb4
        have hv3 : Boxed w3 w2.heap.size 37 v := (hb4.block _ hv.lt).trans hv
        have hsz3 : w.heap.size ≤ w3.heap.size := Nat.le_trans hszW hb4.size
        obtain ⟨hv1, hv2, _, hk2, hb2⟩ := hv3.appended (by decide) (owns_baseJ hr3 (show w.heap.size ≤ w2.heap.size + 4 by omega)) hsz3 (by omega) (owns_baseJ hown' (show w.heap.size ≤ w2.heap.size + 4 by omega)) hgrow
        have hg4 : w2.heap.size + 4 ≤ g' := (hown'.lt g' rfl).1
        have hc1 := hv1.cell
        have hf1 := hv1.frozen
        have s1 : ∀ {k : Nat} {o : Obj}, W.heap[k]? = some o → k < w2.heap.size + 4 → w1.heap[k]? = some o := fun {k o} hk hlt => (hgrow.block _ (by have := lt_of_row hk; have := hb4.size; simp; omega) (below_row hr3 hlt)).trans ((Below.heap_alloc _ _ _ (Nat.lt_of_lt_of_le (lt_of_row hk) hb4.size)).trans ((hb4.block _ (lt_of_row hk)).trans hk))
        obtain ⟨W8, hW8⟩ : ∃ W8, W8 = w1.setCell ⟨w2.heap.size, 0, none⟩ (.slice (some ⟨g', 0, none⟩) (pre.length + 1) cap') := ⟨_, rfl⟩
        have s8 : ∀ {k : Nat} {o : Obj}, W.heap[k]? = some o → k < w2.heap.size + 4 → k ≠ w2.heap.size → W8.heap[k]? = some o := fun hk hlt hne => by rw [hW8]; exact (heap_setCell_other _ _ _ _ hne).trans (s1 hk hlt)
        have hd1 := s1 HSP.out.2.2 (by omega)
        have hff1 := s1 hf (by omega)
        have hd8 := s8 HSP.out.2.2 (by omega) (by omega)
        have hff8 : Boxed W8 (w2.heap.size + 1) 3 (.int .i64 (fr : Int)) := s8 hf (by omega) (by omega)
        have hr8 : W8.ownsRow (w2.heap.size + 4) 9 1 (.slice (some ⟨g', 0, none⟩) (pre.length + 1) cap') (pre.length + 1) (chkC (chkL s 0 pre) ++ [.string (s.extract fr x)]) := by rw [hW8]; exact hown'.kept (grownBy_setCell' _ _ _) (Or.inr (fun e => by have e2 : some g' = some w2.heap.size := e; injection e2; omega))
        have hv8 : Boxed W8 w2.heap.size 37 (.slice (some ⟨g', 0, none⟩) (pre.length + 1) cap') := by rw [hW8]; exact hv2
        have hk8 : KeepsOthers W W8 := by rw [hW8]; exact (keeps_of_call hb4).trans hk2
        have hb8 : Below w.heap.size W W8 := by rw [hW8]; exact (hb4.mono hszW).trans hb2
        have hS8 := s8 HSP.out.1 (by omega) (by omega)
        have hP8 := s8 HSP.out.2.1 (by omega) (by omega)
        refine ⟨by rw [HS.out]; exact ⟨cell_of_row _ _ 0 _ _ _ hd1, cell_of_row _ _ 0 _ _ _ hff1⟩, ?_⟩
        (try simp only [List.getElem_toArray, List.getElem_cons_succ, List.getElem_cons_zero, Act.put, List.setIfInBounds_toArray, List.set_cons_zero, List.set_cons_succ])
        refine held_stepS (i := 8) (by kernel_rfl) rfl (by rfl) ?_
        go_simp
        rw [← hW8]
        refine ⟨by rw [HS.out]; exact ⟨cell_of_row _ _ 0 _ _ _ hd8, cell_of_row _ _ 0 _ _ _ hff8⟩, ?_⟩
        (try simp only [List.getElem_toArray, List.getElem_cons_succ, List.getElem_cons_zero, Act.put, List.setIfInBounds_toArray, List.set_cons_zero, List.set_cons_succ])
        refine wpAnyH_done (by kernel_rfl) ?_ _
        have hcf8 := hff8.cell
        have hff9 := hff8.frozen
        have HE8 : Hid (W8.ownsRow (w2.heap.size + 4) 9 1 (.slice (some ⟨g', 0, none⟩) (pre.length + 1) cap') (pre.length + 1) (chkC (chkL s 0 pre) ++ [.string (s.extract fr x)]) ∧ Boxed W8 w2.heap.size 37 (.slice (some ⟨g', 0, none⟩) (pre.length + 1) cap') ∧ KeepsOthers W W8 ∧ Below w.heap.size W W8 ∧ Boxed W8 (w2.heap.size + 1) 3 (.int .i64 (fr : Int))) := ⟨hr8, hv8, hk8, hb8, hff8⟩
        have HR8 : Hid (W8.heap[w2.heap.size + 1 + 1]? = some (.cells #[.string s] 9 (0, 0)) ∧ W8.heap[w2.heap.size + 1 + 1 + 1]? = some (.cells #[.int .i64 L, .int .i64 B, .int .i64 M] 34 (0, 0)) ∧ W8.heap[w.heap.size]? = some (.cells #[.string s] 9 (0, 0))) := ⟨hS8, hP8, hd8⟩
        clear hr8 hv8 hk8 hb8 hff8 hS8 hP8 hd8 hff1 hd1 hW8 hv1 hv2 hk2 hb2 hc1 hf1 hown' hgrow hr3 hv3 hb4 s1 s8
        gi_wp2_with fail
        exact chk_end hs2 HE8.out HR8.out HSP.out HCH.out HLC.out hBW (by omega)
  case done =>
    rintro D W hD ⟨⟨v, hv, hrow, _⟩, _, _, hBW⟩ hK
    have hc := hv.cell
    gi_wp2
    refine ⟨by simp, .inl ⟨_, _, rfl, run_takeDeferred hK, ?_⟩⟩
    exact ⟨_, results_tmp2 rfl _ _ _, ⟨v, rfl, owns_baseJ (ownsRow_putObj hrow _ hK rfl) (by omega)⟩, hBW.trans (belowK_b (w := w) (Nat.le_refl _) W D _ _ (by omega) hK rfl rfl)⟩
set_option maxRecDepth 100000 in
set_option maxHeartbeats 4000000 in
theorem chunks_no (l b m : Int) (s : ByteArray) (hs : s.size < 140737488351232) (hp : ¬ (shpP l b m ∧ s.size ≤ 4000)) (w : World) :
    Calls Try.prog 18 #[.string s, shpV l b m] w fun e w' => e = .returned (.tuple #[.slice none 0 0, .bool false]) ∧ Below w.heap.size w w' := by
  have HA : Hid (∀ w, Calls Try.prog 44 #[.string s, shpV l b m] w fun e w' => e = .returned (.bool false) ∧ Below w.heap.size w w') := fun w => (cuttable_any s l b m hs w).mono (by
    rintro e w' ⟨⟨q, rfl, hq⟩, hb⟩
    cases q with
    | true => exact absurd (hq.1 rfl) hp
    | false => exact ⟨rfl, hb⟩)
  unfold shpV at HA ⊢
  have hrD := heap_alloc_new w (.cells #[.string s] 9)
  have hr1 := heap_alloc_new (w.alloc (.cells #[.string s] 9)) (.cells #[.int .i64 l, .int .i64 b, .int .i64 m] 34)
  rw [World.size_alloc] at hr1
  have hrD2 := (Below.heap_alloc (w.alloc (.cells #[.string s] 9)) (.cells #[.int .i64 l, .int .i64 b, .int .i64 m] 34) w.heap.size (by simp)).trans hrD
  have hd0 := cell_of_row _ w.heap.size 0 _ _ _ hrD2
  have hp0 := cell_of_row _ (w.heap.size + 1) 0 _ _ _ hr1
  have hp1 := cell_of_row _ (w.heap.size + 1) 1 _ _ _ hr1
  have hp2 := cell_of_row _ (w.heap.size + 1) 2 _ _ _ hr1
  clear hp hrD hr1 hrD2
  go_enter Try.func18, Try.ntmps18
  go_wp2_with fail
  refine (HA.out _).mono ?_
  rintro e w2 ⟨rfl, hb⟩
  go_wp2_with fail
  go_ret2
  exact ⟨rfl, (((Below.refl _ w).alloc (Nat.le_refl _) _).alloc (by simp) _).trans (hb.mono (by simp; omega))⟩
end Go.Proofs.Ytneeledgokccgad
