/-
  Pieces behind pieces; Compose as plain mathematics.
-/
import Derived.Test.YtadimakdjndcdaeCmC
import Derived.Laws.AppendOwnNone
import Derived.Test.YtadimakdjndcdaeHeld
namespace Go.Proofs.Ytadimakdjndcdae
open Go.RowKit
set_option linter.unusedVariables false
set_option linter.unusedSimpArgs false
theorem pcC_app (L M : List PcI) : pcC L ++ pcC M = pcC (L ++ M) := by simp [pcC]
theorem pcC_one (L : List PcI) : ∀ u ∈ pcC L, u.oneCell' = true := by
  intro u hu
  obtain ⟨p, _, hp⟩ := List.mem_flatMap.1 hu
  exact three_one _ _ _ u hp
theorem own3_src {w : World} {C : Nat} {v : Value} {M : List PcI} (h : w.ownsRow C 43 3 v M.length (pcC M)) : (v = .slice none 0 0 ∧ M = []) ∨ ∃ ad c, v = .slice (some ad) M.length c ∧ ∀ (j : Nat) (u : Value), (pcC M)[j]? = some u → w.cell? (ad.add j) = some u := by
  obtain ⟨hl, ⟨h0, hn⟩ | ⟨g, cap, cur, h1, h2, h3, h4, h5, h6, h7⟩⟩ := h
  · exact Or.inl ⟨h0, List.eq_nil_of_length_eq_zero hn⟩
  · refine Or.inr ⟨_, _, h1, fun j u hj => ?_⟩
    have ea : (⟨g, 0, none⟩ : Addr).add j = ⟨g, j, none⟩ := by
      unfold Addr.add
      by_cases h0 : j = 0
      · subst h0; simp
      · simp [h0]
    rw [ea, cell_of_row w g j _ _ _ h3]
    rw [← h7, List.getElem?_take] at hj
    split at hj
    · simpa using hj
    · cases hj
theorem wp_append_pcs {P : Program} {w : World} {o : Oper} {a : Act} {K : Act → World → Prop} {Q : Exit → Act → World → Prop} (s x : Operand) (t : TypeId)
    (ho : o.op = .call { callee := .builtin .append, args := #[s, x], argTypes := #[t, t] })
    (base : Nat) (i : TypeInfo) (z : Value) (bytes : Nat) (ht : P.underlying t = some (.slice 43)) (hi : P.info? 43 = some i) (hz : i.zero = some z)
    (hsize : i.size = 3) (hby : i.bytes = bytes) (hzs : z.cells.size = 3)
    (v vx : Value) (L M : List PcI) (C : Nat) (hs : a.eval s = v) (hown : w.ownsRow base 43 3 v L.length (pcC L)) (hx : a.eval x = vx) (hsrc : w.ownsRow C 43 3 vx M.length (pcC M))
    (h63 : L.length + M.length ≤ maxLen) (hbytes : (L.length + M.length) * bytes ≤ 140737488355328) (hbase : base ≤ w.heap.size)
    (h : ∀ v' w', w'.ownsRow base 43 3 v' (L ++ M).length (pcC (L ++ M)) → w.grownBy w' v.ownBlock → K (a.put o.dst v') w') : o.wp P a w K Q := by
  rcases own3_src hsrc with ⟨he, rfl⟩ | ⟨ad, c, he, hc⟩
  · have hrun := run_append_owned_none (P := P) (w := w) base t o.type 43 i 3 ht hi v L.length (pcC L) hown
    have h2 := h v w (by rw [List.append_nil]; exact hown) (World.grownBy.refl _ _)
    unfold Oper.wp
    simp [execOp, ho, resolve, invoke, builtin, hs, hx, he, hrun, Result.andThen]
    exact h2
  · exact wp_append_own w s x t ho base 43 i z 3 bytes ht hi hz hsize hby hzs (by decide) v L.length (pcC L) hs hown ad M.length c (pcC M) (hx.trans he) ((pcC_len M).trans (Nat.mul_comm _ _)) hc (pcC_one M) h63 hbytes hbase
      (fun v' w' h1 h2 _ => h v' w' (by rw [← pcC_app, List.length_append]; exact h1) h2)
theorem wpList_append_pcs {P : Program} {w : World} {ops : Array Oper} {rest : List Oper} {o : Oper} {a : Act} {Q : Exit → Act → World → Prop} (hgd : o.guard = none) (s x : Operand) (t : TypeId)
    (ho : o.op = .call { callee := .builtin .append, args := #[s, x], argTypes := #[t, t] })
    (base : Nat) (i : TypeInfo) (z : Value) (bytes : Nat) (ht : P.underlying t = some (.slice 43)) (hi : P.info? 43 = some i) (hz : i.zero = some z)
    (hsize : i.size = 3) (hby : i.bytes = bytes) (hzs : z.cells.size = 3)
    (v vx : Value) (L M : List PcI) (C : Nat) (hs : a.eval s = v) (hown : w.ownsRow base 43 3 v L.length (pcC L)) (hx : a.eval x = vx) (hsrc : w.ownsRow C 43 3 vx M.length (pcC M))
    (h63 : L.length + M.length ≤ maxLen) (hbytes : (L.length + M.length) * bytes ≤ 140737488355328) (hbase : base ≤ w.heap.size)
    (h : ∀ v' w', w'.ownsRow base 43 3 v' (L ++ M).length (pcC (L ++ M)) → w.grownBy w' v.ownBlock → wpList P ops Q rest (a.put o.dst v') w') : wpList P ops Q (o :: rest) a w :=
  wpList_plain hgd fun _ hK => wp_append_pcs s x t ho base i z bytes ht hi hz hsize hby hzs v vx L M C hs hown hx hsrc h63 hbytes hbase fun v' w' h1 h2 => hK _ _ (h v' w' h1 h2)
theorem own3_made1 (W : World) (B : Nat) (p : PcI) (hB : B ≤ W.heap.size) : (W.alloc (.cells #[.int .i64 p.f, .int .i64 p.l, .string p.d] 43)).ownsRow B 43 3 (.slice (some ⟨W.heap.size, 0, none⟩) 1 1) [p].length (pcC [p]) :=
  ⟨rfl, .inr ⟨W.heap.size, 1, _, rfl, hB, heap_alloc_new W _, Nat.le_refl _, by unfold maxLen; decide, rfl, rfl⟩⟩
/-- the pieces that two deltas are together -/
noncomputable def stepC (Fa : Nat → PcI) (na : Nat) (p : PcI) : List PcI := open Classical in if p.d = ⟨#[]⟩ then prtL Fa p.f (p.f + p.l) na else [p]
theorem stepC_no {Fa : Nat → PcI} {na : Nat} {p : PcI} (h : p.d = ⟨#[]⟩) : stepC Fa na p = prtL Fa p.f (p.f + p.l) na := by unfold stepC; rw [if_pos h]
theorem stepC_yes {Fa : Nat → PcI} {na : Nat} {p : PcI} (h : p.d ≠ ⟨#[]⟩) : stepC Fa na p = [p] := by unfold stepC; rw [if_neg h]
noncomputable def cmL (Fa : Nat → PcI) (na : Nat) (Fb : Nat → PcI) : Nat → List PcI
  | 0 => []
  | j + 1 => cmL Fa na Fb j ++ stepC Fa na (Fb j)
theorem cmL_mono (Fa : Nat → PcI) (na : Nat) (Fb : Nat → PcI) {i j : Nat} (h : i ≤ j) : (cmL Fa na Fb i).length ≤ (cmL Fa na Fb j).length := by
  induction j with
  | zero =>
    obtain rfl : i = 0 := by omega
    exact Nat.le_refl _
  | succ j ih =>
    by_cases e : i = j + 1
    · subst e; exact Nat.le_refl _
    · have := ih (by omega)
      show _ ≤ (cmL Fa na Fb j ++ stepC Fa na (Fb j)).length
      rw [List.length_append]; omega
theorem stepC_len (Fa : Nat → PcI) (na : Nat) (p : PcI) : (stepC Fa na p).length ≤ na + 1 := by
  by_cases h : p.d = ⟨#[]⟩
  · rw [stepC_no h]; have := prtL_len Fa p.f (p.f + p.l) na; omega
  · rw [stepC_yes h]; simp
theorem cmL_len (Fa : Nat → PcI) (na : Nat) (Fb : Nat → PcI) (hn : na ≤ 500) (j : Nat) : (cmL Fa na Fb j).length ≤ j * 501 := by
  induction j with
  | zero => exact Nat.le_refl 0
  | succ j ih =>
    have := stepC_len Fa na (Fb j)
    show (cmL Fa na Fb j ++ stepC Fa na (Fb j)).length ≤ _
    rw [List.length_append]; omega
def cmP (Fa : Nat → PcI) (na : Nat) (Fb : Nat → PcI) (nb : Nat) : Prop := (pcR Fa na 4000 ∧ pcR Fb nb (pcSum Fa na)) ∧ (cmL Fa na Fb nb).length ≤ 500
noncomputable def cmR (Fa : Nat → PcI) (na : Nat) (Fb : Nat → PcI) (nb : Nat) : Option (List PcI) := open Classical in if cmP Fa na Fb nb then some (cmL Fa na Fb nb) else none
theorem cmR_yes {Fa : Nat → PcI} {na : Nat} {Fb : Nat → PcI} {nb : Nat} (h : cmP Fa na Fb nb) : cmR Fa na Fb nb = some (cmL Fa na Fb nb) := by unfold cmR; rw [if_pos h]
theorem cmR_no {Fa : Nat → PcI} {na : Nat} {Fb : Nat → PcI} {nb : Nat} (h : ¬ cmP Fa na Fb nb) : cmR Fa na Fb nb = none := by unfold cmR; rw [if_neg h]
/-- what a part is asked of, where all is right -/
theorem prtIn_of {Fa : Nat → PcI} {na : Nat} {Fb : Nat → PcI} {nb j : Nat} (ha : pcR Fa na 4000) (hb : pcR Fb nb (pcSum Fa na)) (hF : PcLe Fa na) (hj : j < nb) (hd : (Fb j).d = ⟨#[]⟩) : PrtIn Fa na (Fb j).f ((Fb j).f + (Fb j).l) := by
  have h1 := ha.2.2.2.2
  rcases hb.2.2.2.1 j hj with ⟨_, c1, c2, c3, c4⟩ | ⟨c, _⟩
  · exact ⟨ha.2.2.1, ha.2.2.2.1, hF.d, h1, c3, by omega, by omega⟩
  · exact absurd hd c
end Go.Proofs.Ytadimakdjndcdae
