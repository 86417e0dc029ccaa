/-
  Lists of files as values; a whole list behind another one.
-/
import Derived.Test.YtanlggglbpibfaaFlW
import Derived.Laws.AppendOwnNone
namespace Go.Proofs.Ytanlggglbpibfaa
open Go.RowKit
set_option linter.unusedVariables false
set_option linter.unusedSimpArgs false
/-- a value that is a list of files -/
def FlV (w : World) (v : Value) (L : List FlI) : Prop := (v = .slice none 0 0 ∧ L = []) ∨ ∃ g c, v = .slice (some ⟨g, 0, none⟩) L.length c ∧ FlRow w g L.length (flF L)
theorem FlV.arg {w : World} {v : Value} {L : List FlI} (h : FlV w v L) : FlArg w v L.length (flF L) := by
  rcases h with ⟨rfl, rfl⟩ | ⟨g, c, rfl, hr⟩
  · exact ⟨none, 0, rfl, fun h => absurd h (by simp)⟩
  · exact ⟨_, c, rfl, fun _ => ⟨g, rfl, hr⟩⟩
theorem FlV.below {w w' : World} {v : Value} {L : List FlI} (h : FlV w v L) (hb : Below w.heap.size w w') : FlV w' v L := by
  rcases h with h | ⟨g, c, e, hr⟩
  · exact Or.inl h
  · exact Or.inr ⟨g, c, e, hr.below hb hr.lt⟩
theorem FlV.of_own {w : World} {B : Nat} {v : Value} {L : List FlI} (h : w.ownsRow B 88 2 v L.length (flC L)) : FlV w v L := by
  obtain ⟨_, ⟨h0, hn⟩ | ⟨g, cap, cur, h1, h2, h3, _, _, _, h7⟩⟩ := h
  · exact Or.inl ⟨h0, List.length_eq_zero_iff.1 hn⟩
  · refine Or.inr ⟨g, cap, h1, (Array.getElem?_eq_some_iff.1 h3).1, fun i hi => ?_, fun i hi => ?_⟩
    · rw [cell_of_row _ _ _ _ _ _ h3]
      have := (flC_at L i hi).1
      rw [← h7, List.getElem?_take] at this
      split at this
      · simpa using this
      · cases this
    · rw [cell_of_row _ _ _ _ _ _ h3]
      have := (flC_at L i hi).2
      rw [← h7, List.getElem?_take] at this
      split at this
      · simpa using this
      · cases this
theorem FlW.v {B : Nat} {w wr : World} {v : Value} {L : List FlI} (h : FlW B w wr v L) : FlV wr v L := FlV.of_own h.own
theorem FlW.from {w w1 w' : World} {v : Value} {L : List FlI} (h : FlW w1.heap.size w1 w' v L) (hb : Below w.heap.size w w1) : FlW w.heap.size w w' v L :=
  ⟨ownF_base h.own hb.size, blFl hb h.bel hb.size, Nat.le_refl _, (blFl hb h.bel hb.size).size⟩
theorem flC_one : ∀ (L : List FlI), ∀ u ∈ flC L, u.oneCell' = true
  | [], u, h => by cases h
  | p :: L, u, h => by
    have e : flC (p :: L) = [.string p.a, .string p.d] ++ flC L := rfl
    rw [e] at h
    rcases List.mem_append.1 h with h | h
    · exact two_fl _ _ u h
    · exact flC_one L u h
theorem flC_cells {w : World} {g : Nat} {L : List FlI} (h : FlRow w g L.length (flF L)) : ∀ j u, (flC L)[j]? = some u → w.cell? ((⟨g, 0, none⟩ : Addr).add j) = some u := by
  intro j u hj
  have hl := (List.getElem?_eq_some_iff.1 hj).1
  rw [flC_len] at hl
  have ea : (⟨g, 0, none⟩ : Addr).add j = ⟨g, j, none⟩ := by
    unfold Addr.add
    by_cases h0 : j = 0
    · subst h0; simp
    · simp [h0]
  rw [ea]
  obtain ⟨i, hi | hi⟩ : ∃ i, j = 2 * i ∨ j = 2 * i + 1 := ⟨j / 2, by omega⟩
  · subst hi
    rw [h.c0 i (by omega)]
    rw [(flC_at L i (by omega)).1] at hj
    exact hj
  · subst hi
    rw [h.c1 i (by omega)]
    rw [(flC_at L i (by omega)).2] at hj
    exact hj
theorem flC_app (L M : List FlI) : flC (L ++ M) = flC L ++ flC M := by simp [flC]
theorem append_fls {P : Program} {w : World} {ops : Array Oper} {rest : List Oper} {o : Oper} {a : Act} {Q : Exit → Act → World → Prop} (hgd : o.guard = none) (s x : Operand) (t : TypeId)
    (ho : o.op = .call { callee := .builtin .append, args := #[s, x], argTypes := #[t, t] })
    (base : Nat) (i : TypeInfo) (z : Value) (ht : P.underlying t = some (.slice 88)) (hi : P.info? 88 = some i) (hz : i.zero = some z)
    (hsize : i.size = 2) (hby : i.bytes = 32) (hzs : z.cells.size = 2)
    (v u : Value) (L M : List FlI) (hs : a.eval s = v) (hown : w.ownsRow base 88 2 v L.length (flC L)) (hx : a.eval x = u) (hv : FlV w u M)
    (hn : L.length + M.length ≤ 4000000) (hbase : base ≤ w.heap.size)
    (h : ∀ v' w', w'.ownsRow base 88 2 v' (L ++ M).length (flC (L ++ M)) → w.grownBy w' v.ownBlock → wpList P ops Q rest (a.put o.dst v') w') : wpList P ops Q (o :: rest) a w := by
  rcases hv with ⟨he, rfl⟩ | ⟨g, c, he, hc⟩
  · exact wpList_append_own_none hgd s x t ho base 88 i 2 ht hi v L.length (flC L) hs hown (hx.trans he) (h v w (by rw [List.append_nil]; exact hown) (World.grownBy.refl _ _))
  · exact wpList_append_own w hgd s x t ho base 88 i z 2 32 ht hi hz hsize hby hzs (by decide) v L.length (flC L) hs hown ⟨g, 0, none⟩ M.length c (flC M) (hx.trans he) (by rw [flC_len]; omega) (flC_cells hc) (flC_one M) (by unfold maxLen; omega) (by omega) hbase
      (fun v' w' h1 h2 _ => h v' w' (by rw [flC_app, List.length_append]; exact h1) h2)
end Go.Proofs.Ytanlggglbpibfaa
