/-
  What a closure that is handed on may turn; an append at a list that may be nil; the closure that notes a choice.
-/
import Derived.Test.YtmckchklebohmanChC
import Derived.Test.YtmckchklebohmanAppF
import Derived.Test.YtmckchklebohmanConv
import Derived.Below
namespace Go.Proofs.Ytmckchklebohman
open Go.RowKit
set_option linter.unusedVariables false
set_option linter.unusedSimpArgs false
/-- all but the blocks D lies as it lay, and what is turned next is one of these or new -/
structure Kpt (D : Nat → Prop) (w : World) (D' : Nat → Prop) (w' : World) : Prop where
  os : w'.os = w.os
  tape : w'.tape = w.tape
  output : w'.output = w.output
  size : w.heap.size ≤ w'.heap.size
  block : ∀ k, k < w.heap.size → ¬ D k → w'.heap[k]? = w.heap[k]?
  sub : ∀ k, D' k → D k ∨ w.heap.size ≤ k
theorem Kpt.refl (D : Nat → Prop) (w : World) : Kpt D w D w := ⟨rfl, rfl, rfl, Nat.le_refl _, fun _ _ _ => rfl, fun _ h => Or.inl h⟩
theorem Kpt.trans {D D' D'' : Nat → Prop} {w w' w'' : World} (h : Kpt D w D' w') (k : Kpt D' w' D'' w'') : Kpt D w D'' w'' :=
  ⟨k.os.trans h.os, k.tape.trans h.tape, k.output.trans h.output, Nat.le_trans h.size k.size, fun i hi hn => (k.block i (Nat.lt_of_lt_of_le hi h.size) (fun c => by rcases h.sub i c with c | c; exact hn c; omega)).trans (h.block i hi hn),
    fun i hi => by rcases k.sub i hi with c | c; exact h.sub i c; exact Or.inr (Nat.le_trans h.size c)⟩
theorem Kpt.below {D : Nat → Prop} {w w' : World} (h : Below w.heap.size w w') : Kpt D w D w' := ⟨h.os, h.tape, h.output, h.size, fun k hk _ => h.block k hk, fun _ h => Or.inl h⟩
theorem Kpt.toBelow {D D' : Nat → Prop} {w w' : World} {B : Nat} (h : Kpt D w D' w') (hB : B ≤ w.heap.size) (hD : ∀ k, D k → B ≤ k) : Below B w w' :=
  ⟨h.os, h.tape, h.output, h.size, fun k hk => h.block k (by omega) (fun c => by have := hD k c; omega)⟩
theorem Kpt.out {D D' : Nat → Prop} {w w' : World} {k : Nat} (h : Kpt D w D' w') (hk : k < w.heap.size) (hn : ¬ D k) : ¬ D' k := fun c => by rcases h.sub k c with c | c; exact hn c; omega
theorem Kpt.setNew {D D' : Nat → Prop} {w w' : World} {b t : Nat} {v : Value} (h : Kpt D w D' w') (hb : w.heap.size ≤ b) : Kpt D w D' (w'.setCell ⟨b, t, none⟩ v) :=
  ⟨h.os, h.tape, h.output, by simpa using h.size, fun k hk hn => (heap_setCell_other _ _ _ _ (by show k ≠ b; omega)).trans (h.block k hk hn), h.sub⟩
theorem owns_row_of {w w' : World} {B n : Nat} {e : TypeId} {z : Nat} {v : Value} {xs : List Value} (h : w.ownsRow B e z v n xs) (hk : ∀ k, v.ownBlock = some k → w'.heap[k]? = w.heap[k]?) : w'.ownsRow B e z v n xs := by
  obtain ⟨h0, h1 | ⟨g, cap, cur, h1, h2, h3, h4⟩⟩ := h
  · exact ⟨h0, Or.inl h1⟩
  · exact ⟨h0, Or.inr ⟨g, cap, cur, h1, h2, (hk g (by rw [h1]; rfl)).trans h3, h4⟩⟩
theorem run_append_fr2 {P : Program} (w : World) (base : Nat) (t ty e : TypeId) (i : TypeInfo) (z : Value) (size bytes : Nat) (ht : P.underlying t = some (.slice e)) (hi : P.info? e = some i) (hz : i.zero = some z)
    (hsize : i.size = size) (hby : i.bytes = bytes) (hzs : z.cells.size = size) (hsz : 0 < size) (v : Value) (n : Nat) (xs : List Value) (hown : w.ownsRow base e size v n xs)
    (a : Addr) (m c : Nat) (news : List Value) (hl : news.length = m * size) (hnews : ∀ j u, news[j]? = some u → w.cell? (a.add j) = some u) (h1 : ∀ u ∈ news, u.oneCell' = true)
    (h63 : n + m ≤ maxLen) (hbytes : (n + m) * bytes ≤ 140737488355328) (hbase : base ≤ w.heap.size) :
    ∃ v' w', (Builtin.append_ #[t, t] ty #[v, .slice (some a) m c]).run P w = .ok v' w' ∧ w'.ownsRow base e size v' (n + m) (xs ++ news) ∧ w.grownBy w' v.ownBlock ∧ (∀ k, v'.ownBlock = some k → v.ownBlock = some k ∨ w.heap.size ≤ k) := by
  have hown0 := hown
  obtain ⟨h0, ⟨h2, h3⟩ | ⟨g, cp, cur, h2, h3, h4, h5, h6, h7, h8⟩⟩ := hown
  · subst h2
    subst h3
    obtain rfl : xs = [] := List.eq_nil_of_length_eq_zero (by simpa using h0)
    obtain ⟨v', w', hr, o1, o2, _⟩ := run_append_own (P := P) w w.heap.size t ty e i z size bytes ht hi hz hsize hby hzs hsz _ 0 [] (World.ownsRow_nil w w.heap.size e size) a m c news hl hnews h1 h63 hbytes (Nat.le_refl _)
    exact ⟨v', w', hr, owns_lower o1 hbase, o2, fun k hk => Or.inr (o1.lt k hk).1⟩
  · subst h2
    obtain ⟨g', c', w', hr, o1, o2, o3⟩ := run_append_fr (P := P) w base t ty e i z size bytes ht hi hz hsize hby hzs hsz g cp n xs hown0 a m c news hl hnews h1 h63 hbytes hbase
    refine ⟨_, w', hr, o1, o2, fun k hk => ?_⟩
    have hk : g' = k := Option.some.inj hk
    subst hk
    rcases o3 with h | h
    · exact Or.inl (by rw [h]; rfl)
    · exact Or.inr h
theorem wpList_append_fr2 {P : Program} (w : World) {ops : Array Oper} {rest : List Oper} {o : Oper} {a : Act} {Q : Exit → Act → World → Prop} (hgd : o.guard = none) (s x : Operand) (t : TypeId)
    (ho : o.op = .call { callee := .builtin .append, args := #[s, x], argTypes := #[t, t] })
    (base : Nat) (e : TypeId) (i : TypeInfo) (z : Value) (size bytes : Nat) (ht : P.underlying t = some (.slice e)) (hi : P.info? e = some i) (hz : i.zero = some z)
    (hsize : i.size = size) (hby : i.bytes = bytes) (hzs : z.cells.size = size) (hsz : 0 < size)
    (v : Value) (n : Nat) (xs : List Value) (hs : a.eval s = v) (hown : w.ownsRow base e size v n xs)
    (ad : Addr) (m c : Nat) (news : List Value) (hx : a.eval x = .slice (some ad) m c) (hl : news.length = m * size) (hnews : ∀ j u, news[j]? = some u → w.cell? (ad.add j) = some u) (h1 : ∀ u ∈ news, u.oneCell' = true)
    (h63 : n + m ≤ maxLen) (hbytes : (n + m) * bytes ≤ 140737488355328) (hbase : base ≤ w.heap.size)
    (h : ∀ v' w', w'.ownsRow base e size v' (n + m) (xs ++ news) → w.grownBy w' v.ownBlock → (∀ k, v'.ownBlock = some k → v.ownBlock = some k ∨ w.heap.size ≤ k) → wpList P ops Q rest (a.put o.dst v') w') : wpList P ops Q (o :: rest) a w :=
  wpList_plain hgd fun _ hK => by
    obtain ⟨v', w', hr, h2, h3, h4⟩ := run_append_fr2 (P := P) w base t o.type e i z size bytes ht hi hz hsize hby hzs hsz v n xs hown ad m c news hl hnews h1 h63 hbytes hbase
    unfold Oper.wp execOp
    simp only [ho, resolve, invoke, builtin, Sem.run_bind, Sem.run_pure, Result.andThen_ok, List.map_toArray, List.map_cons, List.map_nil, hs, hx, hr]
    exact hK _ _ (h v' w' h2 h3 h4)
theorem Try.infCho : (Try.prog.info? 61).map (fun i => (i.zero, i.size, i.bytes)) = some (some (.agg #[.int .i64 0, .int .i64 0]), 2, 16) := by kernel_rfl
/-- the noted choices, in the variable at block bx -/
def NS (B bx : Nat) (w : World) (L : List (Nat × Nat)) (D : Nat → Prop) : Prop := ∃ v, w.heap[bx]? = some (.cells #[v] 34 (0, 0)) ∧ w.ownsRow B 61 2 v L.length (cC L) ∧ B ≤ bx ∧ D = (fun k => k = bx ∨ v.ownBlock = some k)
theorem NS.stay {B bx : Nat} {w w' : World} {L : List (Nat × Nat)} {D : Nat → Prop} (h : NS B bx w L D) (hk : ∀ k, D k → w'.heap[k]? = w.heap[k]?) : NS B bx w' L D := by
  obtain ⟨v, h1, h2, h3, rfl⟩ := h
  exact ⟨v, (hk bx (Or.inl rfl)).trans h1, owns_row_of h2 (fun k h => hk k (Or.inr h)), h3, rfl⟩
theorem NS.lt {B bx : Nat} {w : World} {L : List (Nat × Nat)} {D : Nat → Prop} (h : NS B bx w L D) : ∀ k, D k → B ≤ k ∧ k < w.heap.size := by
  obtain ⟨v, h1, h2, h3, rfl⟩ := h
  intro k hk
  rcases hk with rfl | hk
  · exact ⟨h3, (Array.getElem?_eq_some_iff.1 h1).1⟩
  · exact h2.lt k hk
set_option maxRecDepth 100000 in
set_option maxHeartbeats 1000000 in
theorem note_any (B bx : Nat) (w : World) (L : List (Nat × Nat)) (D : Nat → Prop) (c t : Nat) (h : NS B bx w L D) (hL : L.length ≤ 100000) (hBw : B ≤ w.heap.size) :
    Calls Try.prog 39 #[.int .i64 (c : Int), .int .i64 (t : Int), .pointer (some ⟨bx, 0, none⟩)] w fun e w' => e = .returned (.int .i64 (t : Int)) ∧ ∃ D', NS B bx w' (L ++ [(c, t)]) D' ∧ Kpt D w D' w' := by
  obtain ⟨i0, hi0, hz0, hz1, hz2⟩ := info_parts Try.infCho
  obtain ⟨v, h1, h2, h3, hD⟩ := h
  have x0 : w.cell? ⟨bx, 0, none⟩ = some v := cell_of_row _ _ _ _ _ _ h1
  have hbl := (Array.getElem?_eq_some_iff.1 h1).1
  have hne : some bx ≠ v.ownBlock := by
    obtain ⟨_, ⟨h0, _⟩ | ⟨g, cap, cur, h0, _, h5, _⟩⟩ := h2
    · rw [h0]; intro c; cases c
    · rw [h0]; intro c
      have c : bx = g := Option.some.inj c
      subst c
      rw [h5] at h1
      cases h1
  have HN : Hid (some bx ≠ v.ownBlock) := hne
  have HR : Hid (w.heap[bx]? = some (.cells #[v] 34 (0, 0))) := h1
  have HO : Hid (w.ownsRow B 61 2 v L.length (cC L)) := h2
  have HSN : Hid (cC (L ++ [(c, t)]) = cC L ++ [.int .i64 (c : Int), .int .i64 (t : Int)]) := cC_snoc _ _ _
  have HBL : Hid (bx < w.heap.size ∧ B ≤ bx) := ⟨hbl, h3⟩
  have HD : Hid (D = fun k => k = bx ∨ v.ownBlock = some k) := hD
  clear h1 h2 h3 hne hbl hD
  go_enter Try.func39, Try.ntmps39
  go_wp2_with (at_builtin; refine wpList_append_fr2 _ rfl _ _ 34 rfl B 61 i0 (.agg #[.int .i64 0, .int .i64 0]) 2 16 Try.underlying34 hi0 hz0 hz1 hz2 rfl (by decide) v L.length _ rfl (HO.out.alloc _) ⟨w.heap.size, 0, none⟩ 1 1 [_, _] rfl rfl cell_two ?c2 ?c3 ?c4 ?c5 ?_)
  case c2 => first | exact ⟨rfl, rfl⟩ | (intro u hu; simp at hu; rcases hu with rfl | rfl <;> rfl)
  case c3 => unfold maxLen; omega
  case c4 => omega
  case c5 => first | omega | (simp; omega)
  intro v' w3 ho hg hf
  have hr3 : w3.heap[bx]? = some (.cells #[v] 34 (0, 0)) := (hg.block bx (by simp; have := HBL.out.1; omega) HN.out).trans ((Below.heap_alloc _ _ _ HBL.out.1).trans HR.out)
  have y0 : w3.cell? ⟨bx, 0, none⟩ = some v := cell_of_row _ _ _ _ _ _ hr3
  have z0 := frozen_of_row w3 bx 0 _ _ hr3
  have hsz := hg.size
  have HF : Hid (∃ D', NS B bx (w3.setCell ⟨bx, 0, none⟩ v') (L ++ [(c, t)]) D' ∧ Kpt D w D' (w3.setCell ⟨bx, 0, none⟩ v')) := by
    have hsz' : w.heap.size + 1 ≤ w3.heap.size := by simpa using hsz
    have hf' : ∀ k, v'.ownBlock = some k → v.ownBlock = some k ∨ w.heap.size + 1 ≤ k := fun k hk => by
      rcases hf k hk with h | h
      · exact Or.inl h
      · exact Or.inr (by simpa using h)
    have hnb : ∀ k, v'.ownBlock = some k → k ≠ bx := fun k hk e => by
      subst e
      rcases hf' _ hk with h | h
      · exact HN.out h.symm
      · have := HBL.out.1; omega
    refine ⟨fun k => k = bx ∨ v'.ownBlock = some k, ⟨v', heap_setCell_same _ _ _ _ _ _ hr3, ?_, HBL.out.2, rfl⟩, ⟨hg.os, hg.tape, hg.output, by simpa using (by omega : w.heap.size ≤ w3.heap.size), fun k hk hn => ?_, fun k hk => ?_⟩⟩
    · refine owns_row_of (w := w3) ?_ (fun k hk => heap_setCell_other _ _ _ _ (hnb k hk))
      rw [HSN.out, List.length_append]; exact ho
    · rw [HD.out] at hn
      have hn1 : k ≠ bx := fun e => hn (Or.inl e)
      have hn2 : some k ≠ v.ownBlock := fun e => hn (Or.inr e.symm)
      rw [heap_setCell_other _ _ _ _ hn1]
      exact (hg.block k (by simp; omega) hn2).trans (Below.heap_alloc _ _ _ hk)
    · rw [HD.out]
      rcases hk with h | h
      · exact Or.inl (Or.inl h)
      · rcases hf' k h with h | h
        · exact Or.inl (Or.inr h)
        · exact Or.inr (by omega)
  obtain ⟨gq, cq, hvq⟩ : ∃ gq cq, v' = .slice (some ⟨gq, 0, none⟩) (L.length + 1) cq := by
    obtain ⟨_, ⟨_, h0⟩ | ⟨g, cap, cur, h0, _⟩⟩ := ho
    · omega
    · exact ⟨g, cap, h0⟩
  subst hvq
  clear ho hg hf hr3 hsz
  go_wp2_with fail
  go_ret
  exact ⟨rfl, HF.out⟩
end Go.Proofs.Ytmckchklebohman
