/-
  Several texts of this seat as one: ChD, CpD, Mrg.
-/
import Derived.Test.YtanlggglbpibfaaSfG

/-!   A region whose chains of steps come in whatever order; rows that are made and filled. -/
namespace Go.Proofs.Ytanlggglbpibfaa
open Go.RowKit
set_option linter.unusedVariables false
set_option linter.unusedSimpArgs false
/-- a region is walked by what holds at each state of it, in whatever order its steps come -/
theorem anyH_walk {P : Program} {md : Region.Mode} {ops : Array Oper} {Q : Exit → Act → World → Prop} {S : World → Prop} (fin : Nat) (K : Array Bool → Act → World → Prop) (μ : Array Bool → Nat)
    (hend : ∀ l a w, K l a w → μ l = 0 → wpAnyH P md ops Q S fin l a w)
    (hstep : ∀ l a w, K l a w → 0 < μ l → Region.ready md ops l ≠ [] ∧ ∀ i ∈ Region.ready md ops l, μ (l.setIfInBounds i true) + 1 = μ l ∧ wpOp P ops Q i (fun a' w' => S w' ∧ K (l.setIfInBounds i true) a' w') a w) :
    ∀ n l a w, μ l = n → K l a w → wpAnyH P md ops Q S (fin + n) l a w
  | 0, l, a, w, hn, h => hend l a w h hn
  | n + 1, l, a, w, hn, h => by
    obtain ⟨h1, h2⟩ := hstep l a w h (by omega)
    refine ⟨fun h0 => absurd h0 h1, fun i hi => ?_⟩
    obtain ⟨h3, h4⟩ := h2 i hi
    exact wpOp_mono (fun a' w' hk => ⟨hk.1, anyH_walk fin K μ hend hstep n _ a' w' (by omega) hk.2⟩) h4
/-- append of a list of files, as one operation -/
theorem append_fls2 {P : Program} {w : World} {o : Oper} {a : Act} {K : Act → World → Prop} {Q : Exit → Act → World → Prop} (s x : Operand) (t : TypeId)
    (ho : o.op = .call { callee := .builtin .append, args := #[s, x], argTypes := #[t, t] })
    (base : Nat) (i : TypeInfo) (z : Value) (ht : P.underlying t = some (.slice 88)) (hi : P.info? 88 = some i) (hz : i.zero = some z)
    (hsize : i.size = 2) (hby : i.bytes = 32) (hzs : z.cells.size = 2)
    (v u : Value) (L M : List FlI) (hs : a.eval s = v) (hown : w.ownsRow base 88 2 v L.length (flC L)) (hx : a.eval x = u) (hv : FlV w u M)
    (hn : L.length + M.length ≤ 4000000) (hbase : base ≤ w.heap.size)
    (h : ∀ v' w', w'.ownsRow base 88 2 v' (L ++ M).length (flC (L ++ M)) → w.grownBy w' v.ownBlock → K (a.put o.dst v') w') : o.wp P a w K Q := by
  rcases hv with ⟨he, rfl⟩ | ⟨g, c, he, hc⟩
  · have hrun := run_append_owned_none (P := P) (w := w) base t o.type 88 i 2 ht hi v L.length (flC L) hown
    unfold Oper.wp
    simp [execOp, ho, resolve, invoke, builtin, hs, hx.trans he, hrun, Result.andThen]
    exact h v w (by rw [List.append_nil]; exact hown) (World.grownBy.refl _ _)
  · exact wp_append_own w s x t ho base 88 i z 2 32 ht hi hz hsize hby hzs (by decide) v L.length (flC L) hs hown ⟨g, 0, none⟩ M.length c (flC M) (hx.trans he) (by rw [flC_len]; omega) (flC_cells hc) (flC_one M) (by unfold maxLen; omega) (by omega) hbase
      (fun v' w' h1 h2 _ => h v' w' (by rw [flC_app, List.length_append]; exact h1) h2)
theorem four_dq2 (m : Int) (a p d : ByteArray) : ∀ u ∈ [Value.int .i64 m, .string a, .string p, .string d], u.oneCell' = true := by
  intro u hu
  rcases List.mem_cons.1 hu with rfl | hu
  · rfl
  · rcases List.mem_cons.1 hu with rfl | hu
    · rfl
    · rcases List.mem_cons.1 hu with rfl | hu
      · rfl
      · rcases List.mem_cons.1 hu with rfl | hu
        · rfl
        · cases hu
theorem dqC_one : ∀ (L : List DqI), ∀ u ∈ dqC L, u.oneCell' = true
  | [], u, h => by cases h
  | p :: L, u, h => by
    have e : dqC (p :: L) = [.int .i64 p.m, .string p.a, .string p.p, .string p.d] ++ dqC L := rfl
    rw [e] at h
    rcases List.mem_append.1 h with h | h
    · exact four_dq2 _ _ _ _ u h
    · exact dqC_one L u h
theorem dqC_cells {w : World} {g : Nat} {L : List DqI} (h : DqRow w g L.length (dqF L)) : ∀ j u, (dqC L)[j]? = some u → w.cell? ((⟨g, 0, none⟩ : Addr).add j) = some u := by
  intro j u hj
  have hl := (List.getElem?_eq_some_iff.1 hj).1
  rw [dqC_len] at hl
  have ea : (⟨g, 0, none⟩ : Addr).add j = ⟨g, j, none⟩ := by
    unfold Addr.add
    by_cases h0 : j = 0
    · subst h0; simp
    · simp [h0]
  rw [ea]
  obtain ⟨i, hi | hi | hi | hi⟩ : ∃ i, j = 4 * i ∨ j = 4 * i + 1 ∨ j = 4 * i + 2 ∨ j = 4 * i + 3 := ⟨j / 4, by omega⟩
  · subst hi
    rw [h.c0 i (by omega)]
    rw [(dqC_at L i (by omega)).1] at hj
    exact hj
  · subst hi
    rw [h.c1 i (by omega)]
    rw [(dqC_at L i (by omega)).2.1] at hj
    exact hj
  · subst hi
    rw [h.c2 i (by omega)]
    rw [(dqC_at L i (by omega)).2.2.1] at hj
    exact hj
  · subst hi
    rw [h.c3 i (by omega)]
    rw [(dqC_at L i (by omega)).2.2.2] at hj
    exact hj
theorem dqC_app (L M : List DqI) : dqC (L ++ M) = dqC L ++ dqC M := by simp [dqC]
/-- append of a list of ops, as one operation -/
theorem append_dqs2 {P : Program} {w : World} {o : Oper} {a : Act} {K : Act → World → Prop} {Q : Exit → Act → World → Prop} (s x : Operand) (t : TypeId)
    (ho : o.op = .call { callee := .builtin .append, args := #[s, x], argTypes := #[t, t] })
    (base : Nat) (i : TypeInfo) (z : Value) (ht : P.underlying t = some (.slice 36)) (hi : P.info? 36 = some i) (hz : i.zero = some z)
    (hsize : i.size = 4) (hby : i.bytes = 56) (hzs : z.cells.size = 4)
    (v u : Value) (L M : List DqI) (hs : a.eval s = v) (hown : w.ownsRow base 36 4 v L.length (dqC L)) (hx : a.eval x = u) (hv : DqV w u M)
    (hn : L.length + M.length ≤ 4000000) (hbase : base ≤ w.heap.size)
    (h : ∀ v' w', w'.ownsRow base 36 4 v' (L ++ M).length (dqC (L ++ M)) → w.grownBy w' v.ownBlock → K (a.put o.dst v') w') : o.wp P a w K Q := by
  rcases hv with ⟨he, rfl⟩ | ⟨g, c, he, hc⟩
  · have hrun := run_append_owned_none (P := P) (w := w) base t o.type 36 i 4 ht hi v L.length (dqC L) hown
    unfold Oper.wp
    simp [execOp, ho, resolve, invoke, builtin, hs, hx.trans he, hrun, Result.andThen]
    exact h v w (by rw [List.append_nil]; exact hown) (World.grownBy.refl _ _)
  · exact wp_append_own w s x t ho base 36 i z 4 56 ht hi hz hsize hby hzs (by decide) v L.length (dqC L) hs hown ⟨g, 0, none⟩ M.length c (dqC M) (hx.trans he) (by rw [dqC_len]; omega) (dqC_cells hc) (dqC_one M) (by unfold maxLen; omega) (by omega) hbase
      (fun v' w' h1 h2 _ => h v' w' (by rw [dqC_app, List.length_append]; exact h1) h2)
theorem ownK_keep2 {w w' : World} {B z n : Nat} {e : TypeId} {v : Value} {xs : List Value} (h : w.ownsRow B e z v n xs) (hb : ∀ k, v.ownBlock = some k → w'.heap[k]? = w.heap[k]?) : w'.ownsRow B e z v n xs := by
  obtain ⟨h0, h1 | ⟨g, cap, cur, h1, h2, h3, h4, h5, h6, h7⟩⟩ := h
  · exact ⟨h0, Or.inl h1⟩
  · exact ⟨h0, Or.inr ⟨g, cap, cur, h1, h2, (hb g (by rw [h1]; rfl)).trans h3, h4, h5, h6, h7⟩⟩
theorem ownK_at2 {w : World} {B z n : Nat} {e : TypeId} {v : Value} {xs : List Value} (h : w.ownsRow B e z v n xs) {k : Nat} (hk : v.ownBlock = some k) : B ≤ k ∧ ∃ cur, w.heap[k]? = some (.cells cur e (0, 0)) := by
  obtain ⟨h0, ⟨h1, _⟩ | ⟨g, cap, cur, h1, h2, h3, _⟩⟩ := h
  · subst h1; cases hk
  · subst h1
    have e : g = k := Option.some.inj hk
    subst e
    exact ⟨h2, cur, h3⟩
/-- a row that was just made holds nothing -/
theorem own_made0 {w : World} {k z : Nat} {e : TypeId} (h : w.heap[k]? = some (.cells #[] e (0, 0))) : w.ownsRow k e z (.slice (some ⟨k, 0, none⟩) 0 0) 0 [] :=
  ⟨by simp, Or.inr ⟨k, 0, #[], rfl, Nat.le_refl _, h, Nat.le_refl _, by unfold maxLen; omega, by simp, by simp⟩⟩
theorem cell_none0 {w : World} {k j : Nat} {e : TypeId} (h : w.heap[k]? = some (.cells #[] e (0, 0))) : w.cell? ⟨k, j, none⟩ = none := by
  rw [cell_of_row _ _ j _ _ _ h]; rfl
/-- a list lies where no empty row is grown -/
theorem FlV.grown0 {w w' : World} {v : Value} {L : List FlI} {k : Nat} {e : TypeId} (h : FlV w v L) (hk : w.heap[k]? = some (.cells #[] e (0, 0))) (hg : w.grownBy w' (some k)) : FlV w' v L := by
  rcases h with h | ⟨g, c, e, hr⟩
  · exact Or.inl h
  · refine Or.inr ⟨g, c, e, ?_⟩
    by_cases h0 : 0 < L.length
    · have hne : g ≠ k := by
        rintro rfl
        have h1 := hr.c0 0 h0
        rw [cell_none0 hk] at h1
        cases h1
      have hb := hg.block g hr.lt (fun c => hne (Option.some.inj c))
      have hc : ∀ o, w'.cell? ⟨g, o, none⟩ = w.cell? ⟨g, o, none⟩ := fun o => by
        simp [World.cell?, hb]
      exact ⟨Nat.lt_of_lt_of_le hr.lt hg.size, fun i hi => (hc _).trans (hr.c0 i hi), fun i hi => (hc _).trans (hr.c1 i hi)⟩
    · exact ⟨Nat.lt_of_lt_of_le hr.lt hg.size, fun i hi => absurd hi (by omega), fun i hi => absurd hi (by omega)⟩
theorem held_three {P : Program} {md : Region.Mode} {ops : Array Oper} {Q : Exit → Act → World → Prop} {S : World → Prop} {i j k : Nat} {o u x : Oper} {fuel : Nat} {listed : Array Bool} {a : Act} {w : World}
    (hr : Region.ready md ops listed = [i, j, k]) (hi : ops[i]? = some o) (hj : ops[j]? = some u) (hk : ops[k]? = some x) (hw : Region.wanted o (yielded ops a.tmps) = true) (hv : Region.wanted u (yielded ops a.tmps) = true) (hz : Region.wanted x (yielded ops a.tmps) = true)
    (h1 : Oper.wp P o a w (fun a' w' => S w' ∧ wpAnyH P md ops Q S fuel (listed.setIfInBounds i true) a' w') Q)
    (h2 : Oper.wp P u a w (fun a' w' => S w' ∧ wpAnyH P md ops Q S fuel (listed.setIfInBounds j true) a' w') Q)
    (h3 : Oper.wp P x a w (fun a' w' => S w' ∧ wpAnyH P md ops Q S fuel (listed.setIfInBounds k true) a' w') Q) : wpAnyH P md ops Q S (fuel + 1) listed a w :=
  wpAnyH_all hr (by simp) (fun m hm => by
    have e : m = i ∨ m = j ∨ m = k := by simpa using hm
    rcases e with rfl | rfl | rfl
    · unfold wpOp
      simp only [hi, hw, if_true]
      exact Or.inl h1
    · unfold wpOp
      simp only [hj, hv, if_true]
      exact Or.inl h2
    · unfold wpOp
      simp only [hk, hz, if_true]
      exact Or.inl h3)
def set3b (w : World) (k : Nat) (a b c : Value) : World := ((w.setCell ⟨k, 0, none⟩ a).setCell ⟨k, 1, none⟩ b).setCell ⟨k, 2, none⟩ c
theorem set3b_other {w : World} {k j : Nat} (a b c : Value) (h : j ≠ k) : (set3b w k a b c).heap[j]? = w.heap[j]? :=
  (heap_setCell_other _ _ _ _ h).trans ((heap_setCell_other _ _ _ _ h).trans (heap_setCell_other _ _ _ _ h))
theorem set3b_size (w : World) (k : Nat) (a b c : Value) : (set3b w k a b c).heap.size = w.heap.size := by simp [set3b]
theorem FlV.keepB {w w' : World} {v : Value} {L : List FlI} (h : FlV w v L) (hz : w.heap.size ≤ w'.heap.size) (hb : ∀ g, 0 < L.length → v = .slice (some ⟨g, 0, none⟩) L.length (match v with | .slice _ _ c => c | _ => 0) → w.cell? ⟨g, 0, none⟩ = some (.string (flF L 0).a) → w'.heap[g]? = w.heap[g]?) : FlV w' v L := by
  rcases h with h | ⟨g, c, rfl, hr⟩
  · exact Or.inl h
  · refine Or.inr ⟨g, c, rfl, ?_⟩
    by_cases h0 : 0 < L.length
    · have hb := hb g h0 rfl (hr.c0 0 h0)
      have hc : ∀ o, w'.cell? ⟨g, o, none⟩ = w.cell? ⟨g, o, none⟩ := fun o => by
        simp [World.cell?, hb]
      exact ⟨Nat.lt_of_lt_of_le hr.lt hz, fun i hi => (hc _).trans (hr.c0 i hi), fun i hi => (hc _).trans (hr.c1 i hi)⟩
    · exact ⟨Nat.lt_of_lt_of_le hr.lt hz, fun i hi => absurd hi (by omega), fun i hi => absurd hi (by omega)⟩
theorem FlV.set3b {w : World} {v a b c : Value} {L : List FlI} {k : Nat} {p : Option Addr} {n m : Nat} {x y : Value} {e : TypeId} (h : FlV w v L) (hk : w.heap[k]? = some (.cells #[.slice p n m, x, y] e (0, 0))) : FlV (set3b w k a b c) v L :=
  h.keepB (Nat.le_of_eq (set3b_size _ _ _ _ _).symm) fun g _ _ hg => set3b_other _ _ _ (by
    rintro rfl
    rw [cell_of_row _ _ 0 _ _ _ hk] at hg
    cases hg)
theorem own_set3b {w : World} {v a b c : Value} {B z n k : Nat} {xs : List Value} {e t : TypeId} {cs : Array Value} (h : w.ownsRow B t z v n xs) (hk : w.heap[k]? = some (.cells cs e (0, 0))) (hne : t ≠ e) : (set3b w k a b c).ownsRow B t z v n xs :=
  ownK_keep2 h fun g hg => set3b_other _ _ _ (by
    rintro rfl
    obtain ⟨_, cur, h2⟩ := ownK_at2 h hg
    rw [hk] at h2
    injection h2 with h2
    injection h2 with _ h2 _
    exact hne h2.symm)
theorem own_grown0 {w w' : World} {v : Value} {B z n k : Nat} {xs : List Value} {e t : TypeId} (h : w.ownsRow B t z v n xs) (hk : w.heap[k]? = some (.cells #[] e (0, 0))) (hne : t ≠ e) (hg : w.grownBy w' (some k)) : w'.ownsRow B t z v n xs :=
  ownK_keep2 h fun g h1 => hg.block g (h.lt g h1).2 (fun c => by
    have c := Option.some.inj c
    subst c
    obtain ⟨_, cur, h2⟩ := ownK_at2 h h1
    rw [hk] at h2
    injection h2 with h2
    injection h2 with _ h2 _
    exact hne h2.symm)
/-- a list of files in a row of files -/
def FlT (w : World) (v : Value) (L : List FlI) : Prop := FlV w v L ∧ ∀ g, 0 < L.length → v.ownBlock = some g → ∃ cur, w.heap[g]? = some (.cells cur 88 (0, 0))
theorem FlV.lt2 {w : World} {v : Value} {L : List FlI} (h : FlV w v L) {g : Nat} (hg : v.ownBlock = some g) : g < w.heap.size := by
  rcases h with ⟨rfl, _⟩ | ⟨k, c, rfl, hr⟩
  · cases hg
  · cases hg; exact hr.lt
theorem FlV.cell0 {w : World} {v : Value} {L : List FlI} (h : FlV w v L) (h0 : 0 < L.length) {g : Nat} (hg : v.ownBlock = some g) : w.cell? ⟨g, 0, none⟩ = some (.string (flF L 0).a) := by
  rcases h with ⟨rfl, _⟩ | ⟨k, c, rfl, hr⟩
  · cases hg
  · cases hg; exact hr.c0 0 h0
theorem FlT.below {w w' : World} {v : Value} {L : List FlI} (h : FlT w v L) (hb : Below w.heap.size w w') : FlT w' v L :=
  ⟨h.1.below hb, fun g h0 hg => by obtain ⟨cur, hc⟩ := h.2 g h0 hg; exact ⟨cur, (hb.block g (h.1.lt2 hg)).trans hc⟩⟩
theorem FlT.of_own {w : World} {B : Nat} {v : Value} {L : List FlI} (h : w.ownsRow B 88 2 v L.length (flC L)) : FlT w v L :=
  ⟨FlV.of_own h, fun g _ hg => (ownK_at2 h hg).2⟩
theorem FlT.grown0 {w w' : World} {v : Value} {L : List FlI} {k : Nat} {e : TypeId} (h : FlT w v L) (hk : w.heap[k]? = some (.cells #[] e (0, 0))) (hg : w.grownBy w' (some k)) : FlT w' v L :=
  ⟨h.1.grown0 hk hg, fun g h0 hv => by
    obtain ⟨cur, hc⟩ := h.2 g h0 hv
    exact ⟨cur, (hg.block g (h.1.lt2 hv) (fun c => by
      have c := Option.some.inj c
      subst c
      have := h.1.cell0 h0 hv
      rw [cell_none0 hk] at this
      cases this)).trans hc⟩⟩
theorem FlT.set3b {w : World} {v a b c : Value} {L : List FlI} {k : Nat} {p : Option Addr} {n m : Nat} {x y : Value} {e : TypeId} (h : FlT w v L) (hk : w.heap[k]? = some (.cells #[.slice p n m, x, y] e (0, 0))) : FlT (set3b w k a b c) v L :=
  ⟨h.1.set3b hk, fun g h0 hv => by
    obtain ⟨cur, hc⟩ := h.2 g h0 hv
    exact ⟨cur, (set3b_other _ _ _ (by
      rintro rfl
      have := h.1.cell0 h0 hv
      rw [cell_of_row _ _ 0 _ _ _ hk] at this
      cases this)).trans hc⟩⟩
theorem FlT.slice {w : World} {v : Value} {L : List FlI} (h : FlT w v L) : ∃ a c, v = .slice a L.length c := h.1.slice
/-- it lies where a row of another kind is grown -/
theorem FlT.grownK {w w' : World} {v u : Value} {L : List FlI} {B z n : Nat} {e : TypeId} {xs : List Value} (h : FlT w v L) (hu : w.ownsRow B e z u n xs) (hne : 88 ≠ e) (hg : w.grownBy w' u.ownBlock) : FlT w' v L := by
  have hb : ∀ g, 0 < L.length → v.ownBlock = some g → w'.heap[g]? = w.heap[g]? := fun g h0 hv => hg.block g (h.1.lt2 hv) (fun c => by
    obtain ⟨cur, hc⟩ := h.2 g h0 hv
    obtain ⟨_, cur2, hc2⟩ := ownK_at2 hu c.symm
    rw [hc] at hc2
    injection hc2 with hc2
    injection hc2 with _ hc2 _
    exact hne hc2)
  refine ⟨h.1.keepB hg.size fun g h0 hv _ => hb g h0 (by rw [hv]; rfl), fun g h0 hv => ?_⟩
  obtain ⟨cur, hc⟩ := h.2 g h0 hv
  exact ⟨cur, (hb g h0 hv).trans hc⟩
theorem FlT.keep {w w' : World} {v : Value} {L : List FlI} (h : FlT w v L) (hz : w.heap.size ≤ w'.heap.size) (hb : ∀ g, v.ownBlock = some g → w'.heap[g]? = w.heap[g]?) : FlT w' v L :=
  ⟨h.1.keepB hz fun g h0 hv _ => hb g (by rw [hv]; rfl), fun g h0 hv => by
    obtain ⟨cur, hc⟩ := h.2 g h0 hv
    exact ⟨cur, (hb g hv).trans hc⟩⟩
end Go.Proofs.Ytanlggglbpibfaa

/-!   A disk that is copied: the specification's way. -/
namespace Go.Proofs.Ytanlggglbpibfaa
open Go.RowKit
set_option linter.unusedVariables false
set_option linter.unusedSimpArgs false
set_option maxRecDepth 100000 in
set_option maxHeartbeats 4000000 in
theorem scopy15_any (vL vS vO : Value) (L S : List FlI) (O : List DqI) (w : World) (hL : FlLe L) (hS : FlLe S) (hO : DqLe O) (h1 : FlV w vL L) (h2 : FlV w vS S) (h3 : DqV w vO O) :
    Calls Try.prog 65 #[.agg #[vL, vS, vO]] w fun e w' => (∃ a b c, e = .returned (.agg #[a, b, c]) ∧ FlT w' a L ∧ FlT w' b S ∧ w'.ownsRow w.heap.size 36 4 c O.length (dqC O)) ∧ Below w.heap.size w w' := by
  have HV : Hid (∀ w', Below w.heap.size w w' → FlV w' vL L ∧ FlV w' vS S ∧ DqV w' vO O) := fun w' hb => ⟨h1.below hb, h2.below hb, h3.below hb⟩
  obtain ⟨al, cl, rfl⟩ := h1.slice
  obtain ⟨a2, cs, rfl⟩ := h2.slice
  obtain ⟨ao, co, rfl⟩ := h3.slice
  have HX1 : Hid (((w.alloc (.cells #[.slice al L.length cl, .slice a2 S.length cs, .slice ao O.length co] 27)).alloc (.cells #[.slice none 0 0, .slice none 0 0, .slice none 0 0] 27)).heap[w.heap.size]? = some (.cells #[.slice al L.length cl, .slice a2 S.length cs, .slice ao O.length co] 27 (0, 0)) ∧ ((w.alloc (.cells #[.slice al L.length cl, .slice a2 S.length cs, .slice ao O.length co] 27)).alloc (.cells #[.slice none 0 0, .slice none 0 0, .slice none 0 0] 27)).heap[w.heap.size + 1]? = some (.cells #[.slice none 0 0, .slice none 0 0, .slice none 0 0] 27 (0, 0))) := by
    refine ⟨?_, ?_⟩
    · rw [Below.heap_alloc _ _ _ (by simp), heap_alloc_new]
    · have := heap_alloc_new (w.alloc (.cells #[.slice al L.length cl, .slice a2 S.length cs, .slice ao O.length co] 27)) (.cells #[.slice none 0 0, .slice none 0 0, .slice none 0 0] 27)
      rw [World.size_alloc] at this
      exact this
  have HB1 : Hid (Below w.heap.size w ((w.alloc (.cells #[.slice al L.length cl, .slice a2 S.length cs, .slice ao O.length co] 27)).alloc (.cells #[.slice none 0 0, .slice none 0 0, .slice none 0 0] 27))) := ((Below.refl _ _).alloc (Nat.le_refl _) _).alloc (by simp) _
  have HLN : Hid (L.length ≤ 1100000 ∧ S.length ≤ 1100000 ∧ O.length ≤ 1100000) := ⟨hL.len, hS.len, hO.len⟩
  clear hL hS hO h1 h2 h3
  go_enter Try.func65, Try.ntmps65
  go_wp2_with fail
  generalize (w.alloc (.cells #[.slice al L.length cl, .slice a2 S.length cs, .slice ao O.length co] 27)).alloc (.cells #[.slice none 0 0, .slice none 0 0, .slice none 0 0] 27) = w2 at HB1 HX1 ⊢
  obtain ⟨bk, hbk⟩ : ∃ bk, bk = w.heap.size := ⟨_, rfl⟩
  obtain ⟨rk, hrk⟩ : ∃ rk, rk = w.heap.size + 1 := ⟨_, rfl⟩
  have HBK : Hid (bk = w.heap.size ∧ rk = w.heap.size + 1) := ⟨hbk, hrk⟩
  rw [← hrk, ← hbk] at HX1 ⊢
  clear hbk hrk
  obtain ⟨SS, hS⟩ : ∃ SS : World → Prop, SS = fun w' => Below w.heap.size w w' ∧ w'.heap[bk]? = some (.cells #[.slice al L.length cl, .slice a2 S.length cs, .slice ao O.length co] 27 (0, 0)) ∧ ∃ p n m q r, w'.heap[rk]? = some (.cells #[.slice p n m, q, r] 27 (0, 0)) := ⟨_, rfl⟩
  have hSd : SS w2.drew := by rw [hS]; exact ⟨HB1.out.drew, HX1.out.1, _, _, _, _, _, HX1.out.2⟩
  have HSX : Hid (∀ w', SS w' → w'.cell? ⟨bk, 0, none⟩ = some (.slice al L.length cl) ∧ w'.cell? ⟨bk, 1, none⟩ = some (.slice a2 S.length cs) ∧ w'.cell? ⟨bk, 2, none⟩ = some (.slice ao O.length co)) := fun w' hq => by
    rw [hS] at hq
    exact ⟨cell_of_row _ _ 0 _ _ _ hq.2.1, cell_of_row _ _ 1 _ _ _ hq.2.1, cell_of_row _ _ 2 _ _ _ hq.2.1⟩
  have HSV : Hid (∀ w', SS w' → FlV w' (.slice al L.length cl) L ∧ FlV w' (.slice a2 S.length cs) S ∧ DqV w' (.slice ao O.length co) O) := fun w' hq => by
    rw [hS] at hq
    exact HV.out _ hq.1
  have h3 : w.heap.size ≤ rk := by have := HBK.out; omega
  have HSE : Hid (∀ w', SS w' → Below w.heap.size w w' ∧ rk < w'.heap.size ∧ ∃ p n m q r, w'.heap[rk]? = some (.cells #[.slice p n m, q, r] 27 (0, 0))) := fun w' hq => by
    rw [hS] at hq
    exact ⟨hq.1, (let ⟨_, _, _, _, _, h⟩ := hq.2.2; (Array.getElem?_eq_some_iff.1 h).1), hq.2.2⟩
  have HSI : Hid (∀ w' w'', SS w' → Below w'.heap.size w' w'' → SS w'') := fun w' w'' h1 hb => by
    rw [hS] at h1 ⊢
    obtain ⟨h1, h2, p, n, m, q, r, h3⟩ := h1
    exact ⟨blFl h1 hb h1.size, (hb.block _ (Array.getElem?_eq_some_iff.1 h2).1).trans h2, p, n, m, q, r, (hb.block _ (Array.getElem?_eq_some_iff.1 h3).1).trans h3⟩
  have HSG : Hid (∀ w' w'' (k : Nat), SS w' → w'.grownBy w'' (some k) → rk < k → SS w'') := fun w' w'' k h1 hg hk => by
    rw [hS] at h1 ⊢
    obtain ⟨h1, h2, p, n, m, q, r, h3⟩ := h1
    have hbk := HBK.out
    exact ⟨h1.grown hg h1.size (fun j hj => by have e := Option.some.inj hj; omega), (hg.block _ (Array.getElem?_eq_some_iff.1 h2).1 (fun c => by have e := Option.some.inj c; omega)).trans h2, p, n, m, q, r, (hg.block _ (Array.getElem?_eq_some_iff.1 h3).1 (fun c => by have e := Option.some.inj c; omega)).trans h3⟩
  have HSB : Hid (∀ w' p n m b c, SS w' → SS (set3b w' rk (.slice p n m) b c)) := fun w' p n m b c h => by
    rw [hS] at h ⊢
    obtain ⟨h1, h2, p, n, m, q, r, h4⟩ := h
    exact ⟨((h1.setCell (p := ⟨rk, 0, none⟩) h3 _).setCell (p := ⟨rk, 1, none⟩) h3 _).setCell (p := ⟨rk, 2, none⟩) h3 _, (set3b_other _ _ _ (by have := HBK.out; omega)).trans h2, _, _, _, _, _, heap_setCell_same _ _ _ _ _ _ (heap_setCell_same _ _ _ _ _ _ (heap_setCell_same _ _ _ _ _ _ h4))⟩
  obtain ⟨i0, hi0, hz0, hz1, hz2⟩ := info_parts Try.infFl
  obtain ⟨j0, hj0, hy0, hy1, hy2⟩ := info_parts Try.infDq
  clear HX1 HB1 hS
  refine wp_region_held (S := SS) (by kernel_rfl) ?_
  change wpAnyH _ _ _ _ _ _ _ _ (World.drew _)
  generalize hX2 : w2.drew = X0 at hSd ⊢
  clear hX2
  refine wpAnyH_take (i := 1) (v := .pointer (some ⟨bk, 0, none⟩)) rfl (by kernel_rfl) (by kernel_rfl) (by kernel_rfl) (fun _ _ _ h => h) (Or.inl ⟨by rfl, by intro w' hS';  go_simp <;> (first | omega | rfl | (rw [IntKind.wrap_i64]; omega))⟩) hSd ?_
  (try simp only [List.getElem_toArray, List.getElem_cons_succ, List.getElem_cons_zero, Act.put, List.setIfInBounds_toArray, List.set_cons_zero, List.set_cons_succ])
  refine wpAnyH_take (i := 2) (v := .slice al L.length cl) rfl (by kernel_rfl) (by kernel_rfl) (by kernel_rfl) (fun _ _ _ h => h) (Or.inl ⟨by rfl, by intro w' hS'; obtain ⟨q0, q1, q2⟩ := HSX.out w' hS'; go_simp <;> (first | omega | rfl | (rw [IntKind.wrap_i64]; omega))⟩) hSd ?_
  (try simp only [List.getElem_toArray, List.getElem_cons_succ, List.getElem_cons_zero, Act.put, List.setIfInBounds_toArray, List.set_cons_zero, List.set_cons_succ])
  refine wpAnyH_take (i := 5) (v := .pointer (some ⟨bk, 1, none⟩)) rfl (by kernel_rfl) (by kernel_rfl) (by kernel_rfl) (fun _ _ _ h => h) (Or.inl ⟨by rfl, by intro w' hS';  go_simp <;> (first | omega | rfl | (rw [IntKind.wrap_i64]; omega))⟩) hSd ?_
  (try simp only [List.getElem_toArray, List.getElem_cons_succ, List.getElem_cons_zero, Act.put, List.setIfInBounds_toArray, List.set_cons_zero, List.set_cons_succ])
  refine wpAnyH_take (i := 6) (v := .slice a2 S.length cs) rfl (by kernel_rfl) (by kernel_rfl) (by kernel_rfl) (fun _ _ _ h => h) (Or.inl ⟨by rfl, by intro w' hS'; obtain ⟨q0, q1, q2⟩ := HSX.out w' hS'; go_simp <;> (first | omega | rfl | (rw [IntKind.wrap_i64]; omega))⟩) hSd ?_
  (try simp only [List.getElem_toArray, List.getElem_cons_succ, List.getElem_cons_zero, Act.put, List.setIfInBounds_toArray, List.set_cons_zero, List.set_cons_succ])
  refine wpAnyH_take (i := 9) (v := .pointer (some ⟨bk, 2, none⟩)) rfl (by kernel_rfl) (by kernel_rfl) (by kernel_rfl) (fun _ _ _ h => h) (Or.inl ⟨by rfl, by intro w' hS';  go_simp <;> (first | omega | rfl | (rw [IntKind.wrap_i64]; omega))⟩) hSd ?_
  (try simp only [List.getElem_toArray, List.getElem_cons_succ, List.getElem_cons_zero, Act.put, List.setIfInBounds_toArray, List.set_cons_zero, List.set_cons_succ])
  refine wpAnyH_take (i := 10) (v := .slice ao O.length co) rfl (by kernel_rfl) (by kernel_rfl) (by kernel_rfl) (fun _ _ _ h => h) (Or.inl ⟨by rfl, by intro w' hS'; obtain ⟨q0, q1, q2⟩ := HSX.out w' hS'; go_simp <;> (first | omega | rfl | (rw [IntKind.wrap_i64]; omega))⟩) hSd ?_
  (try simp only [List.getElem_toArray, List.getElem_cons_succ, List.getElem_cons_zero, Act.put, List.setIfInBounds_toArray, List.set_cons_zero, List.set_cons_succ])
  refine held_three (i := 0) (j := 4) (k := 8) (by kernel_rfl) rfl rfl rfl (by rfl) (by rfl) (by rfl) ?_ ?_ ?_
  · go_simp
    have hS1 := HSI.out _ _ hSd ((Below.refl _ _).alloc (Nat.le_refl _) (.cells #[] 88))
    have RA0_1 : Hid ((X0.alloc (.cells #[] 88)).heap[X0.heap.size]? = some (.cells #[] 88 (0, 0))) := heap_alloc_new _ _
    have HK0 : Hid (rk < X0.heap.size) := (HSE.out _ hSd).2.1
    have HB1 : Hid (Below X0.heap.size X0 (X0.alloc (.cells #[] 88))) := (Below.refl _ _).alloc (Nat.le_refl _) _
    refine ⟨hS1, ?_⟩
    (try simp only [List.getElem_toArray, List.getElem_cons_succ, List.getElem_cons_zero, Act.put, List.setIfInBounds_toArray, List.set_cons_zero, List.set_cons_succ])
    generalize hY : X0.alloc (.cells #[] 88) = x1 at hS1 RA0_1 HB1 ⊢
    clear hY
    obtain ⟨k1, hk⟩ : ∃ k1, k1 = X0.heap.size := ⟨_, rfl⟩
    have HE1 : Hid (k1 = X0.heap.size) := hk
    rw [← hk] at RA0_1 HK0 ⊢
    clear hk
    refine held_three (i := 3) (j := 4) (k := 8) (by kernel_rfl) rfl rfl rfl (by rfl) (by rfl) (by rfl) ?_ ?_ ?_
    · refine append_fls2 _ _ 24 rfl k1 i0 _ Try.underlying24 hi0 hz0 hz1 hz2 rfl _ _ [] L rfl (own_made0 RA0_1.out) rfl (HSV.out _ hS1).1 (by have := HLN.out; simp; omega) (Nat.le_of_lt (Array.getElem?_eq_some_iff.1 RA0_1.out).1) ?_
      intro v2 x2 hown hgrow
      obtain ⟨g2, c2, rfl⟩ := ownF_slice hown
      have HF0_2 : Hid (FlT x2 (.slice g2 L.length c2) L) := FlT.of_own (show x2.ownsRow k1 88 2 (.slice g2 L.length c2) L.length (flC L) by simpa using hown)
      have HG2 : Hid (x1.grownBy x2 (some k1)) := hgrow
      have hS2 := HSG.out _ _ k1 hS1 hgrow HK0.out
      refine ⟨hS2, ?_⟩
      (try simp only [List.getElem_toArray, List.getElem_cons_succ, List.getElem_cons_zero, Act.put, List.setIfInBounds_toArray, List.set_cons_zero, List.set_cons_succ])
      clear hown hgrow
      refine held_two (i := 4) (k := 8) (by kernel_rfl) rfl rfl (by rfl) (by rfl) ?_ ?_
      · go_simp
        have hS3 := HSI.out _ _ hS2 ((Below.refl _ _).alloc (Nat.le_refl _) (.cells #[] 88))
        have RA1_3 : Hid ((x2.alloc (.cells #[] 88)).heap[x2.heap.size]? = some (.cells #[] 88 (0, 0))) := heap_alloc_new _ _
        have HK1 : Hid (rk < x2.heap.size) := (HSE.out _ hS2).2.1
        have HB3 : Hid (Below x2.heap.size x2 (x2.alloc (.cells #[] 88))) := (Below.refl _ _).alloc (Nat.le_refl _) _
        refine ⟨hS3, ?_⟩
        (try simp only [List.getElem_toArray, List.getElem_cons_succ, List.getElem_cons_zero, Act.put, List.setIfInBounds_toArray, List.set_cons_zero, List.set_cons_succ])
        generalize hY : x2.alloc (.cells #[] 88) = x3 at hS3 RA1_3 HB3 ⊢
        clear hY
        obtain ⟨k3, hk⟩ : ∃ k3, k3 = x2.heap.size := ⟨_, rfl⟩
        have HE3 : Hid (k3 = x2.heap.size) := hk
        rw [← hk] at RA1_3 HK1 ⊢
        clear hk
        have HF0_3 := hidF (HF0_2.out.below HB3.out)
        refine held_two (i := 7) (k := 8) (by kernel_rfl) rfl rfl (by rfl) (by rfl) ?_ ?_
        · refine append_fls2 _ _ 24 rfl k3 i0 _ Try.underlying24 hi0 hz0 hz1 hz2 rfl _ _ [] S rfl (own_made0 RA1_3.out) rfl (HSV.out _ hS3).2.1 (by have := HLN.out; simp; omega) (Nat.le_of_lt (Array.getElem?_eq_some_iff.1 RA1_3.out).1) ?_
          intro v4 x4 hown hgrow
          obtain ⟨g4, c4, rfl⟩ := ownF_slice hown
          have HF1_4 : Hid (FlT x4 (.slice g4 S.length c4) S) := FlT.of_own (show x4.ownsRow k3 88 2 (.slice g4 S.length c4) S.length (flC S) by simpa using hown)
          have HG4 : Hid (x3.grownBy x4 (some k3)) := hgrow
          have hS4 := HSG.out _ _ k3 hS3 hgrow HK1.out
          refine ⟨hS4, ?_⟩
          (try simp only [List.getElem_toArray, List.getElem_cons_succ, List.getElem_cons_zero, Act.put, List.setIfInBounds_toArray, List.set_cons_zero, List.set_cons_succ])
          clear hown hgrow
          have HF0_4 := hidF (HF0_3.out.grown0 RA1_3.out HG4.out)
          refine held_stepS (i := 8) (by kernel_rfl) rfl (by rfl) ?_
          go_simp
          have hS5 := HSI.out _ _ hS4 ((Below.refl _ _).alloc (Nat.le_refl _) (.cells #[] 36))
          have RA2_5 : Hid ((x4.alloc (.cells #[] 36)).heap[x4.heap.size]? = some (.cells #[] 36 (0, 0))) := heap_alloc_new _ _
          have HK2 : Hid (rk < x4.heap.size) := (HSE.out _ hS4).2.1
          have HB5 : Hid (Below x4.heap.size x4 (x4.alloc (.cells #[] 36))) := (Below.refl _ _).alloc (Nat.le_refl _) _
          refine ⟨hS5, ?_⟩
          (try simp only [List.getElem_toArray, List.getElem_cons_succ, List.getElem_cons_zero, Act.put, List.setIfInBounds_toArray, List.set_cons_zero, List.set_cons_succ])
          generalize hY : x4.alloc (.cells #[] 36) = x5 at hS5 RA2_5 HB5 ⊢
          clear hY
          obtain ⟨k5, hk⟩ : ∃ k5, k5 = x4.heap.size := ⟨_, rfl⟩
          have HE5 : Hid (k5 = x4.heap.size) := hk
          rw [← hk] at RA2_5 HK2 ⊢
          clear hk
          have HF0_5 := hidF (HF0_4.out.below HB5.out)
          have HF1_5 := hidF (HF1_4.out.below HB5.out)
          refine held_stepS (i := 11) (by kernel_rfl) rfl (by rfl) ?_
          refine append_dqs2 _ _ 25 rfl k5 j0 _ Try.underlying25 hj0 hy0 hy1 hy2 rfl _ _ [] O rfl (own_made0 RA2_5.out) rfl (HSV.out _ hS5).2.2 (by have := HLN.out; simp; omega) (Nat.le_of_lt (Array.getElem?_eq_some_iff.1 RA2_5.out).1) ?_
          intro v6 x6 hown hgrow
          obtain ⟨g6, c6, rfl⟩ := ownQ_slice hown
          have HF2_6 : Hid (x6.ownsRow k5 36 4 (.slice g6 O.length c6) O.length (dqC O)) := (show x6.ownsRow k5 36 4 (.slice g6 O.length c6) O.length (dqC O) by simpa using hown)
          have HG6 : Hid (x5.grownBy x6 (some k5)) := hgrow
          have hS6 := HSG.out _ _ k5 hS5 hgrow HK2.out
          refine ⟨hS6, ?_⟩
          (try simp only [List.getElem_toArray, List.getElem_cons_succ, List.getElem_cons_zero, Act.put, List.setIfInBounds_toArray, List.set_cons_zero, List.set_cons_succ])
          clear hown hgrow
          have HF0_6 := hidF (HF0_5.out.grown0 RA2_5.out HG6.out)
          have HF1_6 := hidF (HF1_5.out.grown0 RA2_5.out HG6.out)
          refine wpAnyH_take (i := 12) (v := .agg #[.slice g2 L.length c2, .slice g4 S.length c4, .slice g6 O.length c6]) rfl (by kernel_rfl) (by kernel_rfl) (by kernel_rfl) (fun _ _ _ h => h) (Or.inl ⟨by rfl, by intro w' hS';  go_simp <;> (first | omega | rfl | (rw [IntKind.wrap_i64]; omega))⟩) hS6 ?_
          (try simp only [List.getElem_toArray, List.getElem_cons_succ, List.getElem_cons_zero, Act.put, List.setIfInBounds_toArray, List.set_cons_zero, List.set_cons_succ])
          obtain ⟨hb7, _, p9, n9, m9, q9, r9, hz4⟩ := HSE.out _ hS6
          have HB9 : Hid (Below w.heap.size w (set3b x6 rk (.slice g2 L.length c2) (.slice g4 S.length c4) (.slice g6 O.length c6))) := ((hb7.setCell (p := ⟨rk, 0, none⟩) h3 _).setCell (p := ⟨rk, 1, none⟩) h3 _).setCell (p := ⟨rk, 2, none⟩) h3 _
          have HR9 : Hid ((set3b x6 rk (.slice g2 L.length c2) (.slice g4 S.length c4) (.slice g6 O.length c6)).heap[rk]? = some (.cells #[.slice g2 L.length c2, .slice g4 S.length c4, .slice g6 O.length c6] 27 (0, 0))) := heap_setCell_same _ _ _ _ _ _ (heap_setCell_same _ _ _ _ _ _ (heap_setCell_same _ _ _ _ _ _ hz4))
          have HO9 : Hid (FlT (set3b x6 rk (.slice g2 L.length c2) (.slice g4 S.length c4) (.slice g6 O.length c6)) (.slice g2 L.length c2) L ∧ FlT (set3b x6 rk (.slice g2 L.length c2) (.slice g4 S.length c4) (.slice g6 O.length c6)) (.slice g4 S.length c4) S ∧ (set3b x6 rk (.slice g2 L.length c2) (.slice g4 S.length c4) (.slice g6 O.length c6)).ownsRow w.heap.size 36 4 (.slice g6 O.length c6) O.length (dqC O)) := ⟨HF0_6.out.set3b hz4, HF1_6.out.set3b hz4, own_set3b (ownF_base HF2_6.out (by have := HK2.out; have := HBK.out; omega)) hz4 (by decide)⟩
          have z0 := cell_of_row _ _ 0 _ _ _ hz4
          have z1 := cell_of_row _ _ 1 _ _ _ hz4
          have z2 := cell_of_row _ _ 2 _ _ _ hz4
          have f0 := frozen_of_row _ _ 0 _ _ hz4
          have f1 := frozen_of_row _ _ 1 _ _ hz4
          have f2 := frozen_of_row _ _ 2 _ _ hz4
          clear hz4 hb7
          refine held_stepS (i := 13) (by kernel_rfl) rfl (by rfl) ?_
          go_simp
          refine ⟨HSB.out _ _ _ _ _ _ hS6, ?_⟩
          (try simp only [List.getElem_toArray, List.getElem_cons_succ, List.getElem_cons_zero, Act.put, List.setIfInBounds_toArray, List.set_cons_zero, List.set_cons_succ])
          clear hS6 HSX HSI HSE HSB HSG HSV z0 z1 z2 f0 f1 f2
          refine wpAnyH_done (by kernel_rfl) ?_ _
          go_wp2_with fail
          exact bodyPost_ret (results_cell_row rfl _ _ rk 27 #[.slice g2 L.length c2, .slice g4 S.length c4, .slice g6 O.length c6] (0, 0) _ rfl HR9.out Try.underlying27 rfl (by kernel_rfl)) rfl ⟨⟨_, _, _, rfl, HO9.out⟩, HB9.out⟩
        · go_simp
          have hS7 := HSI.out _ _ hS3 ((Below.refl _ _).alloc (Nat.le_refl _) (.cells #[] 36))
          have RA2_7 : Hid ((x3.alloc (.cells #[] 36)).heap[x3.heap.size]? = some (.cells #[] 36 (0, 0))) := heap_alloc_new _ _
          have HK2 : Hid (rk < x3.heap.size) := (HSE.out _ hS3).2.1
          have HB7 : Hid (Below x3.heap.size x3 (x3.alloc (.cells #[] 36))) := (Below.refl _ _).alloc (Nat.le_refl _) _
          refine ⟨hS7, ?_⟩
          (try simp only [List.getElem_toArray, List.getElem_cons_succ, List.getElem_cons_zero, Act.put, List.setIfInBounds_toArray, List.set_cons_zero, List.set_cons_succ])
          generalize hY : x3.alloc (.cells #[] 36) = x7 at hS7 RA2_7 HB7 ⊢
          clear hY
          obtain ⟨k7, hk⟩ : ∃ k7, k7 = x3.heap.size := ⟨_, rfl⟩
          have HE7 : Hid (k7 = x3.heap.size) := hk
          rw [← hk] at RA2_7 HK2 ⊢
          clear hk
          have HF0_7 := hidF (HF0_3.out.below HB7.out)
          have RA1_7 : Hid (x7.heap[k3]? = some (.cells #[] 88 (0, 0))) := (HB7.out.block _ (Array.getElem?_eq_some_iff.1 RA1_3.out).1).trans RA1_3.out
          have HD12_7 : Hid (k3 ≠ k7) := by have := (Array.getElem?_eq_some_iff.1 RA1_3.out).1; have := HE7.out; show _ ≠ _; omega
          refine held_stepS (i := 7) (by kernel_rfl) rfl (by rfl) ?_
          refine append_fls2 _ _ 24 rfl k3 i0 _ Try.underlying24 hi0 hz0 hz1 hz2 rfl _ _ [] S rfl (own_made0 RA1_7.out) rfl (HSV.out _ hS7).2.1 (by have := HLN.out; simp; omega) (Nat.le_of_lt (Array.getElem?_eq_some_iff.1 RA1_7.out).1) ?_
          intro v8 x8 hown hgrow
          obtain ⟨g8, c8, rfl⟩ := ownF_slice hown
          have HF1_8 : Hid (FlT x8 (.slice g8 S.length c8) S) := FlT.of_own (show x8.ownsRow k3 88 2 (.slice g8 S.length c8) S.length (flC S) by simpa using hown)
          have HG8 : Hid (x7.grownBy x8 (some k3)) := hgrow
          have hS8 := HSG.out _ _ k3 hS7 hgrow HK1.out
          refine ⟨hS8, ?_⟩
          (try simp only [List.getElem_toArray, List.getElem_cons_succ, List.getElem_cons_zero, Act.put, List.setIfInBounds_toArray, List.set_cons_zero, List.set_cons_succ])
          clear hown hgrow
          have HF0_8 := hidF (HF0_7.out.grown0 RA1_7.out HG8.out)
          have RA2_8 : Hid (x8.heap[k7]? = some (.cells #[] 36 (0, 0))) := (HG8.out.block _ (Array.getElem?_eq_some_iff.1 RA2_7.out).1 (fun c => by have e := Option.some.inj c; have e2 := HD12_7.out; omega)).trans RA2_7.out
          refine held_stepS (i := 11) (by kernel_rfl) rfl (by rfl) ?_
          refine append_dqs2 _ _ 25 rfl k7 j0 _ Try.underlying25 hj0 hy0 hy1 hy2 rfl _ _ [] O rfl (own_made0 RA2_8.out) rfl (HSV.out _ hS8).2.2 (by have := HLN.out; simp; omega) (Nat.le_of_lt (Array.getElem?_eq_some_iff.1 RA2_8.out).1) ?_
          intro v9 x9 hown hgrow
          obtain ⟨g9, c9, rfl⟩ := ownQ_slice hown
          have HF2_9 : Hid (x9.ownsRow k7 36 4 (.slice g9 O.length c9) O.length (dqC O)) := (show x9.ownsRow k7 36 4 (.slice g9 O.length c9) O.length (dqC O) by simpa using hown)
          have HG9 : Hid (x8.grownBy x9 (some k7)) := hgrow
          have hS9 := HSG.out _ _ k7 hS8 hgrow HK2.out
          refine ⟨hS9, ?_⟩
          (try simp only [List.getElem_toArray, List.getElem_cons_succ, List.getElem_cons_zero, Act.put, List.setIfInBounds_toArray, List.set_cons_zero, List.set_cons_succ])
          clear hown hgrow
          have HF0_9 := hidF (HF0_8.out.grown0 RA2_8.out HG9.out)
          have HF1_9 := hidF (HF1_8.out.grown0 RA2_8.out HG9.out)
          refine wpAnyH_take (i := 12) (v := .agg #[.slice g2 L.length c2, .slice g8 S.length c8, .slice g9 O.length c9]) rfl (by kernel_rfl) (by kernel_rfl) (by kernel_rfl) (fun _ _ _ h => h) (Or.inl ⟨by rfl, by intro w' hS';  go_simp <;> (first | omega | rfl | (rw [IntKind.wrap_i64]; omega))⟩) hS9 ?_
          (try simp only [List.getElem_toArray, List.getElem_cons_succ, List.getElem_cons_zero, Act.put, List.setIfInBounds_toArray, List.set_cons_zero, List.set_cons_succ])
          obtain ⟨hb7, _, p9, n9, m9, q9, r9, hz4⟩ := HSE.out _ hS9
          have HB9 : Hid (Below w.heap.size w (set3b x9 rk (.slice g2 L.length c2) (.slice g8 S.length c8) (.slice g9 O.length c9))) := ((hb7.setCell (p := ⟨rk, 0, none⟩) h3 _).setCell (p := ⟨rk, 1, none⟩) h3 _).setCell (p := ⟨rk, 2, none⟩) h3 _
          have HR9 : Hid ((set3b x9 rk (.slice g2 L.length c2) (.slice g8 S.length c8) (.slice g9 O.length c9)).heap[rk]? = some (.cells #[.slice g2 L.length c2, .slice g8 S.length c8, .slice g9 O.length c9] 27 (0, 0))) := heap_setCell_same _ _ _ _ _ _ (heap_setCell_same _ _ _ _ _ _ (heap_setCell_same _ _ _ _ _ _ hz4))
          have HO9 : Hid (FlT (set3b x9 rk (.slice g2 L.length c2) (.slice g8 S.length c8) (.slice g9 O.length c9)) (.slice g2 L.length c2) L ∧ FlT (set3b x9 rk (.slice g2 L.length c2) (.slice g8 S.length c8) (.slice g9 O.length c9)) (.slice g8 S.length c8) S ∧ (set3b x9 rk (.slice g2 L.length c2) (.slice g8 S.length c8) (.slice g9 O.length c9)).ownsRow w.heap.size 36 4 (.slice g9 O.length c9) O.length (dqC O)) := ⟨HF0_9.out.set3b hz4, HF1_9.out.set3b hz4, own_set3b (ownF_base HF2_9.out (by have := HK2.out; have := HBK.out; omega)) hz4 (by decide)⟩
          have z0 := cell_of_row _ _ 0 _ _ _ hz4
          have z1 := cell_of_row _ _ 1 _ _ _ hz4
          have z2 := cell_of_row _ _ 2 _ _ _ hz4
          have f0 := frozen_of_row _ _ 0 _ _ hz4
          have f1 := frozen_of_row _ _ 1 _ _ hz4
          have f2 := frozen_of_row _ _ 2 _ _ hz4
          clear hz4 hb7
          refine held_stepS (i := 13) (by kernel_rfl) rfl (by rfl) ?_
          go_simp
          refine ⟨HSB.out _ _ _ _ _ _ hS9, ?_⟩
          (try simp only [List.getElem_toArray, List.getElem_cons_succ, List.getElem_cons_zero, Act.put, List.setIfInBounds_toArray, List.set_cons_zero, List.set_cons_succ])
          clear hS9 HSX HSI HSE HSB HSG HSV z0 z1 z2 f0 f1 f2
          refine wpAnyH_done (by kernel_rfl) ?_ _
          go_wp2_with fail
          exact bodyPost_ret (results_cell_row rfl _ _ rk 27 #[.slice g2 L.length c2, .slice g8 S.length c8, .slice g9 O.length c9] (0, 0) _ rfl HR9.out Try.underlying27 rfl (by kernel_rfl)) rfl ⟨⟨_, _, _, rfl, HO9.out⟩, HB9.out⟩
      · go_simp
        have hS10 := HSI.out _ _ hS2 ((Below.refl _ _).alloc (Nat.le_refl _) (.cells #[] 36))
        have RA2_10 : Hid ((x2.alloc (.cells #[] 36)).heap[x2.heap.size]? = some (.cells #[] 36 (0, 0))) := heap_alloc_new _ _
        have HK2 : Hid (rk < x2.heap.size) := (HSE.out _ hS2).2.1
        have HB10 : Hid (Below x2.heap.size x2 (x2.alloc (.cells #[] 36))) := (Below.refl _ _).alloc (Nat.le_refl _) _
        refine ⟨hS10, ?_⟩
        (try simp only [List.getElem_toArray, List.getElem_cons_succ, List.getElem_cons_zero, Act.put, List.setIfInBounds_toArray, List.set_cons_zero, List.set_cons_succ])
        generalize hY : x2.alloc (.cells #[] 36) = x10 at hS10 RA2_10 HB10 ⊢
        clear hY
        obtain ⟨k10, hk⟩ : ∃ k10, k10 = x2.heap.size := ⟨_, rfl⟩
        have HE10 : Hid (k10 = x2.heap.size) := hk
        rw [← hk] at RA2_10 HK2 ⊢
        clear hk
        have HF0_10 := hidF (HF0_2.out.below HB10.out)
        refine held_stepS (i := 4) (by kernel_rfl) rfl (by rfl) ?_
        go_simp
        have hS11 := HSI.out _ _ hS10 ((Below.refl _ _).alloc (Nat.le_refl _) (.cells #[] 88))
        have RA1_11 : Hid ((x10.alloc (.cells #[] 88)).heap[x10.heap.size]? = some (.cells #[] 88 (0, 0))) := heap_alloc_new _ _
        have HK1 : Hid (rk < x10.heap.size) := (HSE.out _ hS10).2.1
        have HB11 : Hid (Below x10.heap.size x10 (x10.alloc (.cells #[] 88))) := (Below.refl _ _).alloc (Nat.le_refl _) _
        refine ⟨hS11, ?_⟩
        (try simp only [List.getElem_toArray, List.getElem_cons_succ, List.getElem_cons_zero, Act.put, List.setIfInBounds_toArray, List.set_cons_zero, List.set_cons_succ])
        generalize hY : x10.alloc (.cells #[] 88) = x11 at hS11 RA1_11 HB11 ⊢
        clear hY
        obtain ⟨k11, hk⟩ : ∃ k11, k11 = x10.heap.size := ⟨_, rfl⟩
        have HE11 : Hid (k11 = x10.heap.size) := hk
        rw [← hk] at RA1_11 HK1 ⊢
        clear hk
        have HF0_11 := hidF (HF0_10.out.below HB11.out)
        have RA2_11 : Hid (x11.heap[k10]? = some (.cells #[] 36 (0, 0))) := (HB11.out.block _ (Array.getElem?_eq_some_iff.1 RA2_10.out).1).trans RA2_10.out
        have HD21_11 : Hid (k10 ≠ k11) := by have := (Array.getElem?_eq_some_iff.1 RA2_10.out).1; have := HE11.out; show _ ≠ _; omega
        refine held_stepS (i := 7) (by kernel_rfl) rfl (by rfl) ?_
        refine append_fls2 _ _ 24 rfl k11 i0 _ Try.underlying24 hi0 hz0 hz1 hz2 rfl _ _ [] S rfl (own_made0 RA1_11.out) rfl (HSV.out _ hS11).2.1 (by have := HLN.out; simp; omega) (Nat.le_of_lt (Array.getElem?_eq_some_iff.1 RA1_11.out).1) ?_
        intro v12 x12 hown hgrow
        obtain ⟨g12, c12, rfl⟩ := ownF_slice hown
        have HF1_12 : Hid (FlT x12 (.slice g12 S.length c12) S) := FlT.of_own (show x12.ownsRow k11 88 2 (.slice g12 S.length c12) S.length (flC S) by simpa using hown)
        have HG12 : Hid (x11.grownBy x12 (some k11)) := hgrow
        have hS12 := HSG.out _ _ k11 hS11 hgrow HK1.out
        refine ⟨hS12, ?_⟩
        (try simp only [List.getElem_toArray, List.getElem_cons_succ, List.getElem_cons_zero, Act.put, List.setIfInBounds_toArray, List.set_cons_zero, List.set_cons_succ])
        clear hown hgrow
        have HF0_12 := hidF (HF0_11.out.grown0 RA1_11.out HG12.out)
        have RA2_12 : Hid (x12.heap[k10]? = some (.cells #[] 36 (0, 0))) := (HG12.out.block _ (Array.getElem?_eq_some_iff.1 RA2_11.out).1 (fun c => by have e := Option.some.inj c; have e2 := HD21_11.out; omega)).trans RA2_11.out
        refine held_stepS (i := 11) (by kernel_rfl) rfl (by rfl) ?_
        refine append_dqs2 _ _ 25 rfl k10 j0 _ Try.underlying25 hj0 hy0 hy1 hy2 rfl _ _ [] O rfl (own_made0 RA2_12.out) rfl (HSV.out _ hS12).2.2 (by have := HLN.out; simp; omega) (Nat.le_of_lt (Array.getElem?_eq_some_iff.1 RA2_12.out).1) ?_
        intro v13 x13 hown hgrow
        obtain ⟨g13, c13, rfl⟩ := ownQ_slice hown
        have HF2_13 : Hid (x13.ownsRow k10 36 4 (.slice g13 O.length c13) O.length (dqC O)) := (show x13.ownsRow k10 36 4 (.slice g13 O.length c13) O.length (dqC O) by simpa using hown)
        have HG13 : Hid (x12.grownBy x13 (some k10)) := hgrow
        have hS13 := HSG.out _ _ k10 hS12 hgrow HK2.out
        refine ⟨hS13, ?_⟩
        (try simp only [List.getElem_toArray, List.getElem_cons_succ, List.getElem_cons_zero, Act.put, List.setIfInBounds_toArray, List.set_cons_zero, List.set_cons_succ])
        clear hown hgrow
        have HF0_13 := hidF (HF0_12.out.grown0 RA2_12.out HG13.out)
        have HF1_13 := hidF (HF1_12.out.grown0 RA2_12.out HG13.out)
        refine wpAnyH_take (i := 12) (v := .agg #[.slice g2 L.length c2, .slice g12 S.length c12, .slice g13 O.length c13]) rfl (by kernel_rfl) (by kernel_rfl) (by kernel_rfl) (fun _ _ _ h => h) (Or.inl ⟨by rfl, by intro w' hS';  go_simp <;> (first | omega | rfl | (rw [IntKind.wrap_i64]; omega))⟩) hS13 ?_
        (try simp only [List.getElem_toArray, List.getElem_cons_succ, List.getElem_cons_zero, Act.put, List.setIfInBounds_toArray, List.set_cons_zero, List.set_cons_succ])
        obtain ⟨hb7, _, p9, n9, m9, q9, r9, hz4⟩ := HSE.out _ hS13
        have HB9 : Hid (Below w.heap.size w (set3b x13 rk (.slice g2 L.length c2) (.slice g12 S.length c12) (.slice g13 O.length c13))) := ((hb7.setCell (p := ⟨rk, 0, none⟩) h3 _).setCell (p := ⟨rk, 1, none⟩) h3 _).setCell (p := ⟨rk, 2, none⟩) h3 _
        have HR9 : Hid ((set3b x13 rk (.slice g2 L.length c2) (.slice g12 S.length c12) (.slice g13 O.length c13)).heap[rk]? = some (.cells #[.slice g2 L.length c2, .slice g12 S.length c12, .slice g13 O.length c13] 27 (0, 0))) := heap_setCell_same _ _ _ _ _ _ (heap_setCell_same _ _ _ _ _ _ (heap_setCell_same _ _ _ _ _ _ hz4))
        have HO9 : Hid (FlT (set3b x13 rk (.slice g2 L.length c2) (.slice g12 S.length c12) (.slice g13 O.length c13)) (.slice g2 L.length c2) L ∧ FlT (set3b x13 rk (.slice g2 L.length c2) (.slice g12 S.length c12) (.slice g13 O.length c13)) (.slice g12 S.length c12) S ∧ (set3b x13 rk (.slice g2 L.length c2) (.slice g12 S.length c12) (.slice g13 O.length c13)).ownsRow w.heap.size 36 4 (.slice g13 O.length c13) O.length (dqC O)) := ⟨HF0_13.out.set3b hz4, HF1_13.out.set3b hz4, own_set3b (ownF_base HF2_13.out (by have := HK2.out; have := HBK.out; omega)) hz4 (by decide)⟩
        have z0 := cell_of_row _ _ 0 _ _ _ hz4
        have z1 := cell_of_row _ _ 1 _ _ _ hz4
        have z2 := cell_of_row _ _ 2 _ _ _ hz4
        have f0 := frozen_of_row _ _ 0 _ _ hz4
        have f1 := frozen_of_row _ _ 1 _ _ hz4
        have f2 := frozen_of_row _ _ 2 _ _ hz4
        clear hz4 hb7
        refine held_stepS (i := 13) (by kernel_rfl) rfl (by rfl) ?_
        go_simp
        refine ⟨HSB.out _ _ _ _ _ _ hS13, ?_⟩
        (try simp only [List.getElem_toArray, List.getElem_cons_succ, List.getElem_cons_zero, Act.put, List.setIfInBounds_toArray, List.set_cons_zero, List.set_cons_succ])
        clear hS13 HSX HSI HSE HSB HSG HSV z0 z1 z2 f0 f1 f2
        refine wpAnyH_done (by kernel_rfl) ?_ _
        go_wp2_with fail
        exact bodyPost_ret (results_cell_row rfl _ _ rk 27 #[.slice g2 L.length c2, .slice g12 S.length c12, .slice g13 O.length c13] (0, 0) _ rfl HR9.out Try.underlying27 rfl (by kernel_rfl)) rfl ⟨⟨_, _, _, rfl, HO9.out⟩, HB9.out⟩
    · go_simp
      have hS14 := HSI.out _ _ hS1 ((Below.refl _ _).alloc (Nat.le_refl _) (.cells #[] 88))
      have RA1_14 : Hid ((x1.alloc (.cells #[] 88)).heap[x1.heap.size]? = some (.cells #[] 88 (0, 0))) := heap_alloc_new _ _
      have HK1 : Hid (rk < x1.heap.size) := (HSE.out _ hS1).2.1
      have HB14 : Hid (Below x1.heap.size x1 (x1.alloc (.cells #[] 88))) := (Below.refl _ _).alloc (Nat.le_refl _) _
      refine ⟨hS14, ?_⟩
      (try simp only [List.getElem_toArray, List.getElem_cons_succ, List.getElem_cons_zero, Act.put, List.setIfInBounds_toArray, List.set_cons_zero, List.set_cons_succ])
      generalize hY : x1.alloc (.cells #[] 88) = x14 at hS14 RA1_14 HB14 ⊢
      clear hY
      obtain ⟨k14, hk⟩ : ∃ k14, k14 = x1.heap.size := ⟨_, rfl⟩
      have HE14 : Hid (k14 = x1.heap.size) := hk
      rw [← hk] at RA1_14 HK1 ⊢
      clear hk
      have RA0_14 : Hid (x14.heap[k1]? = some (.cells #[] 88 (0, 0))) := (HB14.out.block _ (Array.getElem?_eq_some_iff.1 RA0_1.out).1).trans RA0_1.out
      have HD01_14 : Hid (k1 ≠ k14) := by have := (Array.getElem?_eq_some_iff.1 RA0_1.out).1; have := HE14.out; show _ ≠ _; omega
      refine held_two (i := 3) (k := 8) (by kernel_rfl) rfl rfl (by rfl) (by rfl) ?_ ?_
      · refine append_fls2 _ _ 24 rfl k1 i0 _ Try.underlying24 hi0 hz0 hz1 hz2 rfl _ _ [] L rfl (own_made0 RA0_14.out) rfl (HSV.out _ hS14).1 (by have := HLN.out; simp; omega) (Nat.le_of_lt (Array.getElem?_eq_some_iff.1 RA0_14.out).1) ?_
        intro v15 x15 hown hgrow
        obtain ⟨g15, c15, rfl⟩ := ownF_slice hown
        have HF0_15 : Hid (FlT x15 (.slice g15 L.length c15) L) := FlT.of_own (show x15.ownsRow k1 88 2 (.slice g15 L.length c15) L.length (flC L) by simpa using hown)
        have HG15 : Hid (x14.grownBy x15 (some k1)) := hgrow
        have hS15 := HSG.out _ _ k1 hS14 hgrow HK0.out
        refine ⟨hS15, ?_⟩
        (try simp only [List.getElem_toArray, List.getElem_cons_succ, List.getElem_cons_zero, Act.put, List.setIfInBounds_toArray, List.set_cons_zero, List.set_cons_succ])
        clear hown hgrow
        have RA1_15 : Hid (x15.heap[k14]? = some (.cells #[] 88 (0, 0))) := (HG15.out.block _ (Array.getElem?_eq_some_iff.1 RA1_14.out).1 (fun c => by have e := Option.some.inj c; have e2 := HD01_14.out; omega)).trans RA1_14.out
        refine held_two (i := 7) (k := 8) (by kernel_rfl) rfl rfl (by rfl) (by rfl) ?_ ?_
        · refine append_fls2 _ _ 24 rfl k14 i0 _ Try.underlying24 hi0 hz0 hz1 hz2 rfl _ _ [] S rfl (own_made0 RA1_15.out) rfl (HSV.out _ hS15).2.1 (by have := HLN.out; simp; omega) (Nat.le_of_lt (Array.getElem?_eq_some_iff.1 RA1_15.out).1) ?_
          intro v16 x16 hown hgrow
          obtain ⟨g16, c16, rfl⟩ := ownF_slice hown
          have HF1_16 : Hid (FlT x16 (.slice g16 S.length c16) S) := FlT.of_own (show x16.ownsRow k14 88 2 (.slice g16 S.length c16) S.length (flC S) by simpa using hown)
          have HG16 : Hid (x15.grownBy x16 (some k14)) := hgrow
          have hS16 := HSG.out _ _ k14 hS15 hgrow HK1.out
          refine ⟨hS16, ?_⟩
          (try simp only [List.getElem_toArray, List.getElem_cons_succ, List.getElem_cons_zero, Act.put, List.setIfInBounds_toArray, List.set_cons_zero, List.set_cons_succ])
          clear hown hgrow
          have HF0_16 := hidF (HF0_15.out.grown0 RA1_15.out HG16.out)
          refine held_stepS (i := 8) (by kernel_rfl) rfl (by rfl) ?_
          go_simp
          have hS17 := HSI.out _ _ hS16 ((Below.refl _ _).alloc (Nat.le_refl _) (.cells #[] 36))
          have RA2_17 : Hid ((x16.alloc (.cells #[] 36)).heap[x16.heap.size]? = some (.cells #[] 36 (0, 0))) := heap_alloc_new _ _
          have HK2 : Hid (rk < x16.heap.size) := (HSE.out _ hS16).2.1
          have HB17 : Hid (Below x16.heap.size x16 (x16.alloc (.cells #[] 36))) := (Below.refl _ _).alloc (Nat.le_refl _) _
          refine ⟨hS17, ?_⟩
          (try simp only [List.getElem_toArray, List.getElem_cons_succ, List.getElem_cons_zero, Act.put, List.setIfInBounds_toArray, List.set_cons_zero, List.set_cons_succ])
          generalize hY : x16.alloc (.cells #[] 36) = x17 at hS17 RA2_17 HB17 ⊢
          clear hY
          obtain ⟨k17, hk⟩ : ∃ k17, k17 = x16.heap.size := ⟨_, rfl⟩
          have HE17 : Hid (k17 = x16.heap.size) := hk
          rw [← hk] at RA2_17 HK2 ⊢
          clear hk
          have HF0_17 := hidF (HF0_16.out.below HB17.out)
          have HF1_17 := hidF (HF1_16.out.below HB17.out)
          refine held_stepS (i := 11) (by kernel_rfl) rfl (by rfl) ?_
          refine append_dqs2 _ _ 25 rfl k17 j0 _ Try.underlying25 hj0 hy0 hy1 hy2 rfl _ _ [] O rfl (own_made0 RA2_17.out) rfl (HSV.out _ hS17).2.2 (by have := HLN.out; simp; omega) (Nat.le_of_lt (Array.getElem?_eq_some_iff.1 RA2_17.out).1) ?_
          intro v18 x18 hown hgrow
          obtain ⟨g18, c18, rfl⟩ := ownQ_slice hown
          have HF2_18 : Hid (x18.ownsRow k17 36 4 (.slice g18 O.length c18) O.length (dqC O)) := (show x18.ownsRow k17 36 4 (.slice g18 O.length c18) O.length (dqC O) by simpa using hown)
          have HG18 : Hid (x17.grownBy x18 (some k17)) := hgrow
          have hS18 := HSG.out _ _ k17 hS17 hgrow HK2.out
          refine ⟨hS18, ?_⟩
          (try simp only [List.getElem_toArray, List.getElem_cons_succ, List.getElem_cons_zero, Act.put, List.setIfInBounds_toArray, List.set_cons_zero, List.set_cons_succ])
          clear hown hgrow
          have HF0_18 := hidF (HF0_17.out.grown0 RA2_17.out HG18.out)
          have HF1_18 := hidF (HF1_17.out.grown0 RA2_17.out HG18.out)
          refine wpAnyH_take (i := 12) (v := .agg #[.slice g15 L.length c15, .slice g16 S.length c16, .slice g18 O.length c18]) rfl (by kernel_rfl) (by kernel_rfl) (by kernel_rfl) (fun _ _ _ h => h) (Or.inl ⟨by rfl, by intro w' hS';  go_simp <;> (first | omega | rfl | (rw [IntKind.wrap_i64]; omega))⟩) hS18 ?_
          (try simp only [List.getElem_toArray, List.getElem_cons_succ, List.getElem_cons_zero, Act.put, List.setIfInBounds_toArray, List.set_cons_zero, List.set_cons_succ])
          obtain ⟨hb7, _, p9, n9, m9, q9, r9, hz4⟩ := HSE.out _ hS18
          have HB9 : Hid (Below w.heap.size w (set3b x18 rk (.slice g15 L.length c15) (.slice g16 S.length c16) (.slice g18 O.length c18))) := ((hb7.setCell (p := ⟨rk, 0, none⟩) h3 _).setCell (p := ⟨rk, 1, none⟩) h3 _).setCell (p := ⟨rk, 2, none⟩) h3 _
          have HR9 : Hid ((set3b x18 rk (.slice g15 L.length c15) (.slice g16 S.length c16) (.slice g18 O.length c18)).heap[rk]? = some (.cells #[.slice g15 L.length c15, .slice g16 S.length c16, .slice g18 O.length c18] 27 (0, 0))) := heap_setCell_same _ _ _ _ _ _ (heap_setCell_same _ _ _ _ _ _ (heap_setCell_same _ _ _ _ _ _ hz4))
          have HO9 : Hid (FlT (set3b x18 rk (.slice g15 L.length c15) (.slice g16 S.length c16) (.slice g18 O.length c18)) (.slice g15 L.length c15) L ∧ FlT (set3b x18 rk (.slice g15 L.length c15) (.slice g16 S.length c16) (.slice g18 O.length c18)) (.slice g16 S.length c16) S ∧ (set3b x18 rk (.slice g15 L.length c15) (.slice g16 S.length c16) (.slice g18 O.length c18)).ownsRow w.heap.size 36 4 (.slice g18 O.length c18) O.length (dqC O)) := ⟨HF0_18.out.set3b hz4, HF1_18.out.set3b hz4, own_set3b (ownF_base HF2_18.out (by have := HK2.out; have := HBK.out; omega)) hz4 (by decide)⟩
          have z0 := cell_of_row _ _ 0 _ _ _ hz4
          have z1 := cell_of_row _ _ 1 _ _ _ hz4
          have z2 := cell_of_row _ _ 2 _ _ _ hz4
          have f0 := frozen_of_row _ _ 0 _ _ hz4
          have f1 := frozen_of_row _ _ 1 _ _ hz4
          have f2 := frozen_of_row _ _ 2 _ _ hz4
          clear hz4 hb7
          refine held_stepS (i := 13) (by kernel_rfl) rfl (by rfl) ?_
          go_simp
          refine ⟨HSB.out _ _ _ _ _ _ hS18, ?_⟩
          (try simp only [List.getElem_toArray, List.getElem_cons_succ, List.getElem_cons_zero, Act.put, List.setIfInBounds_toArray, List.set_cons_zero, List.set_cons_succ])
          clear hS18 HSX HSI HSE HSB HSG HSV z0 z1 z2 f0 f1 f2
          refine wpAnyH_done (by kernel_rfl) ?_ _
          go_wp2_with fail
          exact bodyPost_ret (results_cell_row rfl _ _ rk 27 #[.slice g15 L.length c15, .slice g16 S.length c16, .slice g18 O.length c18] (0, 0) _ rfl HR9.out Try.underlying27 rfl (by kernel_rfl)) rfl ⟨⟨_, _, _, rfl, HO9.out⟩, HB9.out⟩
        · go_simp
          have hS19 := HSI.out _ _ hS15 ((Below.refl _ _).alloc (Nat.le_refl _) (.cells #[] 36))
          have RA2_19 : Hid ((x15.alloc (.cells #[] 36)).heap[x15.heap.size]? = some (.cells #[] 36 (0, 0))) := heap_alloc_new _ _
          have HK2 : Hid (rk < x15.heap.size) := (HSE.out _ hS15).2.1
          have HB19 : Hid (Below x15.heap.size x15 (x15.alloc (.cells #[] 36))) := (Below.refl _ _).alloc (Nat.le_refl _) _
          refine ⟨hS19, ?_⟩
          (try simp only [List.getElem_toArray, List.getElem_cons_succ, List.getElem_cons_zero, Act.put, List.setIfInBounds_toArray, List.set_cons_zero, List.set_cons_succ])
          generalize hY : x15.alloc (.cells #[] 36) = x19 at hS19 RA2_19 HB19 ⊢
          clear hY
          obtain ⟨k19, hk⟩ : ∃ k19, k19 = x15.heap.size := ⟨_, rfl⟩
          have HE19 : Hid (k19 = x15.heap.size) := hk
          rw [← hk] at RA2_19 HK2 ⊢
          clear hk
          have HF0_19 := hidF (HF0_15.out.below HB19.out)
          have RA1_19 : Hid (x19.heap[k14]? = some (.cells #[] 88 (0, 0))) := (HB19.out.block _ (Array.getElem?_eq_some_iff.1 RA1_15.out).1).trans RA1_15.out
          have HD12_19 : Hid (k14 ≠ k19) := by have := (Array.getElem?_eq_some_iff.1 RA1_15.out).1; have := HE19.out; show _ ≠ _; omega
          refine held_stepS (i := 7) (by kernel_rfl) rfl (by rfl) ?_
          refine append_fls2 _ _ 24 rfl k14 i0 _ Try.underlying24 hi0 hz0 hz1 hz2 rfl _ _ [] S rfl (own_made0 RA1_19.out) rfl (HSV.out _ hS19).2.1 (by have := HLN.out; simp; omega) (Nat.le_of_lt (Array.getElem?_eq_some_iff.1 RA1_19.out).1) ?_
          intro v20 x20 hown hgrow
          obtain ⟨g20, c20, rfl⟩ := ownF_slice hown
          have HF1_20 : Hid (FlT x20 (.slice g20 S.length c20) S) := FlT.of_own (show x20.ownsRow k14 88 2 (.slice g20 S.length c20) S.length (flC S) by simpa using hown)
          have HG20 : Hid (x19.grownBy x20 (some k14)) := hgrow
          have hS20 := HSG.out _ _ k14 hS19 hgrow HK1.out
          refine ⟨hS20, ?_⟩
          (try simp only [List.getElem_toArray, List.getElem_cons_succ, List.getElem_cons_zero, Act.put, List.setIfInBounds_toArray, List.set_cons_zero, List.set_cons_succ])
          clear hown hgrow
          have HF0_20 := hidF (HF0_19.out.grown0 RA1_19.out HG20.out)
          have RA2_20 : Hid (x20.heap[k19]? = some (.cells #[] 36 (0, 0))) := (HG20.out.block _ (Array.getElem?_eq_some_iff.1 RA2_19.out).1 (fun c => by have e := Option.some.inj c; have e2 := HD12_19.out; omega)).trans RA2_19.out
          refine held_stepS (i := 11) (by kernel_rfl) rfl (by rfl) ?_
          refine append_dqs2 _ _ 25 rfl k19 j0 _ Try.underlying25 hj0 hy0 hy1 hy2 rfl _ _ [] O rfl (own_made0 RA2_20.out) rfl (HSV.out _ hS20).2.2 (by have := HLN.out; simp; omega) (Nat.le_of_lt (Array.getElem?_eq_some_iff.1 RA2_20.out).1) ?_
          intro v21 x21 hown hgrow
          obtain ⟨g21, c21, rfl⟩ := ownQ_slice hown
          have HF2_21 : Hid (x21.ownsRow k19 36 4 (.slice g21 O.length c21) O.length (dqC O)) := (show x21.ownsRow k19 36 4 (.slice g21 O.length c21) O.length (dqC O) by simpa using hown)
          have HG21 : Hid (x20.grownBy x21 (some k19)) := hgrow
          have hS21 := HSG.out _ _ k19 hS20 hgrow HK2.out
          refine ⟨hS21, ?_⟩
          (try simp only [List.getElem_toArray, List.getElem_cons_succ, List.getElem_cons_zero, Act.put, List.setIfInBounds_toArray, List.set_cons_zero, List.set_cons_succ])
          clear hown hgrow
          have HF0_21 := hidF (HF0_20.out.grown0 RA2_20.out HG21.out)
          have HF1_21 := hidF (HF1_20.out.grown0 RA2_20.out HG21.out)
          refine wpAnyH_take (i := 12) (v := .agg #[.slice g15 L.length c15, .slice g20 S.length c20, .slice g21 O.length c21]) rfl (by kernel_rfl) (by kernel_rfl) (by kernel_rfl) (fun _ _ _ h => h) (Or.inl ⟨by rfl, by intro w' hS';  go_simp <;> (first | omega | rfl | (rw [IntKind.wrap_i64]; omega))⟩) hS21 ?_
          (try simp only [List.getElem_toArray, List.getElem_cons_succ, List.getElem_cons_zero, Act.put, List.setIfInBounds_toArray, List.set_cons_zero, List.set_cons_succ])
          obtain ⟨hb7, _, p9, n9, m9, q9, r9, hz4⟩ := HSE.out _ hS21
          have HB9 : Hid (Below w.heap.size w (set3b x21 rk (.slice g15 L.length c15) (.slice g20 S.length c20) (.slice g21 O.length c21))) := ((hb7.setCell (p := ⟨rk, 0, none⟩) h3 _).setCell (p := ⟨rk, 1, none⟩) h3 _).setCell (p := ⟨rk, 2, none⟩) h3 _
          have HR9 : Hid ((set3b x21 rk (.slice g15 L.length c15) (.slice g20 S.length c20) (.slice g21 O.length c21)).heap[rk]? = some (.cells #[.slice g15 L.length c15, .slice g20 S.length c20, .slice g21 O.length c21] 27 (0, 0))) := heap_setCell_same _ _ _ _ _ _ (heap_setCell_same _ _ _ _ _ _ (heap_setCell_same _ _ _ _ _ _ hz4))
          have HO9 : Hid (FlT (set3b x21 rk (.slice g15 L.length c15) (.slice g20 S.length c20) (.slice g21 O.length c21)) (.slice g15 L.length c15) L ∧ FlT (set3b x21 rk (.slice g15 L.length c15) (.slice g20 S.length c20) (.slice g21 O.length c21)) (.slice g20 S.length c20) S ∧ (set3b x21 rk (.slice g15 L.length c15) (.slice g20 S.length c20) (.slice g21 O.length c21)).ownsRow w.heap.size 36 4 (.slice g21 O.length c21) O.length (dqC O)) := ⟨HF0_21.out.set3b hz4, HF1_21.out.set3b hz4, own_set3b (ownF_base HF2_21.out (by have := HK2.out; have := HBK.out; omega)) hz4 (by decide)⟩
          have z0 := cell_of_row _ _ 0 _ _ _ hz4
          have z1 := cell_of_row _ _ 1 _ _ _ hz4
          have z2 := cell_of_row _ _ 2 _ _ _ hz4
          have f0 := frozen_of_row _ _ 0 _ _ hz4
          have f1 := frozen_of_row _ _ 1 _ _ hz4
          have f2 := frozen_of_row _ _ 2 _ _ hz4
          clear hz4 hb7
          refine held_stepS (i := 13) (by kernel_rfl) rfl (by rfl) ?_
          go_simp
          refine ⟨HSB.out _ _ _ _ _ _ hS21, ?_⟩
          (try simp only [List.getElem_toArray, List.getElem_cons_succ, List.getElem_cons_zero, Act.put, List.setIfInBounds_toArray, List.set_cons_zero, List.set_cons_succ])
          clear hS21 HSX HSI HSE HSB HSG HSV z0 z1 z2 f0 f1 f2
          refine wpAnyH_done (by kernel_rfl) ?_ _
          go_wp2_with fail
          exact bodyPost_ret (results_cell_row rfl _ _ rk 27 #[.slice g15 L.length c15, .slice g20 S.length c20, .slice g21 O.length c21] (0, 0) _ rfl HR9.out Try.underlying27 rfl (by kernel_rfl)) rfl ⟨⟨_, _, _, rfl, HO9.out⟩, HB9.out⟩
      · go_simp
        have hS22 := HSI.out _ _ hS14 ((Below.refl _ _).alloc (Nat.le_refl _) (.cells #[] 36))
        have RA2_22 : Hid ((x14.alloc (.cells #[] 36)).heap[x14.heap.size]? = some (.cells #[] 36 (0, 0))) := heap_alloc_new _ _
        have HK2 : Hid (rk < x14.heap.size) := (HSE.out _ hS14).2.1
        have HB22 : Hid (Below x14.heap.size x14 (x14.alloc (.cells #[] 36))) := (Below.refl _ _).alloc (Nat.le_refl _) _
        refine ⟨hS22, ?_⟩
        (try simp only [List.getElem_toArray, List.getElem_cons_succ, List.getElem_cons_zero, Act.put, List.setIfInBounds_toArray, List.set_cons_zero, List.set_cons_succ])
        generalize hY : x14.alloc (.cells #[] 36) = x22 at hS22 RA2_22 HB22 ⊢
        clear hY
        obtain ⟨k22, hk⟩ : ∃ k22, k22 = x14.heap.size := ⟨_, rfl⟩
        have HE22 : Hid (k22 = x14.heap.size) := hk
        rw [← hk] at RA2_22 HK2 ⊢
        clear hk
        have RA0_22 : Hid (x22.heap[k1]? = some (.cells #[] 88 (0, 0))) := (HB22.out.block _ (Array.getElem?_eq_some_iff.1 RA0_14.out).1).trans RA0_14.out
        have HD02_22 : Hid (k1 ≠ k22) := by have := (Array.getElem?_eq_some_iff.1 RA0_14.out).1; have := HE22.out; show _ ≠ _; omega
        have RA1_22 : Hid (x22.heap[k14]? = some (.cells #[] 88 (0, 0))) := (HB22.out.block _ (Array.getElem?_eq_some_iff.1 RA1_14.out).1).trans RA1_14.out
        have HD12_22 : Hid (k14 ≠ k22) := by have := (Array.getElem?_eq_some_iff.1 RA1_14.out).1; have := HE22.out; show _ ≠ _; omega
        refine held_stepS (i := 3) (by kernel_rfl) rfl (by rfl) ?_
        refine append_fls2 _ _ 24 rfl k1 i0 _ Try.underlying24 hi0 hz0 hz1 hz2 rfl _ _ [] L rfl (own_made0 RA0_22.out) rfl (HSV.out _ hS22).1 (by have := HLN.out; simp; omega) (Nat.le_of_lt (Array.getElem?_eq_some_iff.1 RA0_22.out).1) ?_
        intro v23 x23 hown hgrow
        obtain ⟨g23, c23, rfl⟩ := ownF_slice hown
        have HF0_23 : Hid (FlT x23 (.slice g23 L.length c23) L) := FlT.of_own (show x23.ownsRow k1 88 2 (.slice g23 L.length c23) L.length (flC L) by simpa using hown)
        have HG23 : Hid (x22.grownBy x23 (some k1)) := hgrow
        have hS23 := HSG.out _ _ k1 hS22 hgrow HK0.out
        refine ⟨hS23, ?_⟩
        (try simp only [List.getElem_toArray, List.getElem_cons_succ, List.getElem_cons_zero, Act.put, List.setIfInBounds_toArray, List.set_cons_zero, List.set_cons_succ])
        clear hown hgrow
        have RA1_23 : Hid (x23.heap[k14]? = some (.cells #[] 88 (0, 0))) := (HG23.out.block _ (Array.getElem?_eq_some_iff.1 RA1_22.out).1 (fun c => by have e := Option.some.inj c; have e2 := HD01_14.out; omega)).trans RA1_22.out
        have RA2_23 : Hid (x23.heap[k22]? = some (.cells #[] 36 (0, 0))) := (HG23.out.block _ (Array.getElem?_eq_some_iff.1 RA2_22.out).1 (fun c => by have e := Option.some.inj c; have e2 := HD02_22.out; omega)).trans RA2_22.out
        refine held_stepS (i := 7) (by kernel_rfl) rfl (by rfl) ?_
        refine append_fls2 _ _ 24 rfl k14 i0 _ Try.underlying24 hi0 hz0 hz1 hz2 rfl _ _ [] S rfl (own_made0 RA1_23.out) rfl (HSV.out _ hS23).2.1 (by have := HLN.out; simp; omega) (Nat.le_of_lt (Array.getElem?_eq_some_iff.1 RA1_23.out).1) ?_
        intro v24 x24 hown hgrow
        obtain ⟨g24, c24, rfl⟩ := ownF_slice hown
        have HF1_24 : Hid (FlT x24 (.slice g24 S.length c24) S) := FlT.of_own (show x24.ownsRow k14 88 2 (.slice g24 S.length c24) S.length (flC S) by simpa using hown)
        have HG24 : Hid (x23.grownBy x24 (some k14)) := hgrow
        have hS24 := HSG.out _ _ k14 hS23 hgrow HK1.out
        refine ⟨hS24, ?_⟩
        (try simp only [List.getElem_toArray, List.getElem_cons_succ, List.getElem_cons_zero, Act.put, List.setIfInBounds_toArray, List.set_cons_zero, List.set_cons_succ])
        clear hown hgrow
        have HF0_24 := hidF (HF0_23.out.grown0 RA1_23.out HG24.out)
        have RA2_24 : Hid (x24.heap[k22]? = some (.cells #[] 36 (0, 0))) := (HG24.out.block _ (Array.getElem?_eq_some_iff.1 RA2_23.out).1 (fun c => by have e := Option.some.inj c; have e2 := HD12_22.out; omega)).trans RA2_23.out
        refine held_stepS (i := 11) (by kernel_rfl) rfl (by rfl) ?_
        refine append_dqs2 _ _ 25 rfl k22 j0 _ Try.underlying25 hj0 hy0 hy1 hy2 rfl _ _ [] O rfl (own_made0 RA2_24.out) rfl (HSV.out _ hS24).2.2 (by have := HLN.out; simp; omega) (Nat.le_of_lt (Array.getElem?_eq_some_iff.1 RA2_24.out).1) ?_
        intro v25 x25 hown hgrow
        obtain ⟨g25, c25, rfl⟩ := ownQ_slice hown
        have HF2_25 : Hid (x25.ownsRow k22 36 4 (.slice g25 O.length c25) O.length (dqC O)) := (show x25.ownsRow k22 36 4 (.slice g25 O.length c25) O.length (dqC O) by simpa using hown)
        have HG25 : Hid (x24.grownBy x25 (some k22)) := hgrow
        have hS25 := HSG.out _ _ k22 hS24 hgrow HK2.out
        refine ⟨hS25, ?_⟩
        (try simp only [List.getElem_toArray, List.getElem_cons_succ, List.getElem_cons_zero, Act.put, List.setIfInBounds_toArray, List.set_cons_zero, List.set_cons_succ])
        clear hown hgrow
        have HF0_25 := hidF (HF0_24.out.grown0 RA2_24.out HG25.out)
        have HF1_25 := hidF (HF1_24.out.grown0 RA2_24.out HG25.out)
        refine wpAnyH_take (i := 12) (v := .agg #[.slice g23 L.length c23, .slice g24 S.length c24, .slice g25 O.length c25]) rfl (by kernel_rfl) (by kernel_rfl) (by kernel_rfl) (fun _ _ _ h => h) (Or.inl ⟨by rfl, by intro w' hS';  go_simp <;> (first | omega | rfl | (rw [IntKind.wrap_i64]; omega))⟩) hS25 ?_
        (try simp only [List.getElem_toArray, List.getElem_cons_succ, List.getElem_cons_zero, Act.put, List.setIfInBounds_toArray, List.set_cons_zero, List.set_cons_succ])
        obtain ⟨hb7, _, p9, n9, m9, q9, r9, hz4⟩ := HSE.out _ hS25
        have HB9 : Hid (Below w.heap.size w (set3b x25 rk (.slice g23 L.length c23) (.slice g24 S.length c24) (.slice g25 O.length c25))) := ((hb7.setCell (p := ⟨rk, 0, none⟩) h3 _).setCell (p := ⟨rk, 1, none⟩) h3 _).setCell (p := ⟨rk, 2, none⟩) h3 _
        have HR9 : Hid ((set3b x25 rk (.slice g23 L.length c23) (.slice g24 S.length c24) (.slice g25 O.length c25)).heap[rk]? = some (.cells #[.slice g23 L.length c23, .slice g24 S.length c24, .slice g25 O.length c25] 27 (0, 0))) := heap_setCell_same _ _ _ _ _ _ (heap_setCell_same _ _ _ _ _ _ (heap_setCell_same _ _ _ _ _ _ hz4))
        have HO9 : Hid (FlT (set3b x25 rk (.slice g23 L.length c23) (.slice g24 S.length c24) (.slice g25 O.length c25)) (.slice g23 L.length c23) L ∧ FlT (set3b x25 rk (.slice g23 L.length c23) (.slice g24 S.length c24) (.slice g25 O.length c25)) (.slice g24 S.length c24) S ∧ (set3b x25 rk (.slice g23 L.length c23) (.slice g24 S.length c24) (.slice g25 O.length c25)).ownsRow w.heap.size 36 4 (.slice g25 O.length c25) O.length (dqC O)) := ⟨HF0_25.out.set3b hz4, HF1_25.out.set3b hz4, own_set3b (ownF_base HF2_25.out (by have := HK2.out; have := HBK.out; omega)) hz4 (by decide)⟩
        have z0 := cell_of_row _ _ 0 _ _ _ hz4
        have z1 := cell_of_row _ _ 1 _ _ _ hz4
        have z2 := cell_of_row _ _ 2 _ _ _ hz4
        have f0 := frozen_of_row _ _ 0 _ _ hz4
        have f1 := frozen_of_row _ _ 1 _ _ hz4
        have f2 := frozen_of_row _ _ 2 _ _ hz4
        clear hz4 hb7
        refine held_stepS (i := 13) (by kernel_rfl) rfl (by rfl) ?_
        go_simp
        refine ⟨HSB.out _ _ _ _ _ _ hS25, ?_⟩
        (try simp only [List.getElem_toArray, List.getElem_cons_succ, List.getElem_cons_zero, Act.put, List.setIfInBounds_toArray, List.set_cons_zero, List.set_cons_succ])
        clear hS25 HSX HSI HSE HSB HSG HSV z0 z1 z2 f0 f1 f2
        refine wpAnyH_done (by kernel_rfl) ?_ _
        go_wp2_with fail
        exact bodyPost_ret (results_cell_row rfl _ _ rk 27 #[.slice g23 L.length c23, .slice g24 S.length c24, .slice g25 O.length c25] (0, 0) _ rfl HR9.out Try.underlying27 rfl (by kernel_rfl)) rfl ⟨⟨_, _, _, rfl, HO9.out⟩, HB9.out⟩
    · go_simp
      have hS26 := HSI.out _ _ hS1 ((Below.refl _ _).alloc (Nat.le_refl _) (.cells #[] 36))
      have RA2_26 : Hid ((x1.alloc (.cells #[] 36)).heap[x1.heap.size]? = some (.cells #[] 36 (0, 0))) := heap_alloc_new _ _
      have HK2 : Hid (rk < x1.heap.size) := (HSE.out _ hS1).2.1
      have HB26 : Hid (Below x1.heap.size x1 (x1.alloc (.cells #[] 36))) := (Below.refl _ _).alloc (Nat.le_refl _) _
      refine ⟨hS26, ?_⟩
      (try simp only [List.getElem_toArray, List.getElem_cons_succ, List.getElem_cons_zero, Act.put, List.setIfInBounds_toArray, List.set_cons_zero, List.set_cons_succ])
      generalize hY : x1.alloc (.cells #[] 36) = x26 at hS26 RA2_26 HB26 ⊢
      clear hY
      obtain ⟨k26, hk⟩ : ∃ k26, k26 = x1.heap.size := ⟨_, rfl⟩
      have HE26 : Hid (k26 = x1.heap.size) := hk
      rw [← hk] at RA2_26 HK2 ⊢
      clear hk
      have RA0_26 : Hid (x26.heap[k1]? = some (.cells #[] 88 (0, 0))) := (HB26.out.block _ (Array.getElem?_eq_some_iff.1 RA0_1.out).1).trans RA0_1.out
      have HD02_26 : Hid (k1 ≠ k26) := by have := (Array.getElem?_eq_some_iff.1 RA0_1.out).1; have := HE26.out; show _ ≠ _; omega
      refine held_two (i := 3) (k := 4) (by kernel_rfl) rfl rfl (by rfl) (by rfl) ?_ ?_
      · refine append_fls2 _ _ 24 rfl k1 i0 _ Try.underlying24 hi0 hz0 hz1 hz2 rfl _ _ [] L rfl (own_made0 RA0_26.out) rfl (HSV.out _ hS26).1 (by have := HLN.out; simp; omega) (Nat.le_of_lt (Array.getElem?_eq_some_iff.1 RA0_26.out).1) ?_
        intro v27 x27 hown hgrow
        obtain ⟨g27, c27, rfl⟩ := ownF_slice hown
        have HF0_27 : Hid (FlT x27 (.slice g27 L.length c27) L) := FlT.of_own (show x27.ownsRow k1 88 2 (.slice g27 L.length c27) L.length (flC L) by simpa using hown)
        have HG27 : Hid (x26.grownBy x27 (some k1)) := hgrow
        have hS27 := HSG.out _ _ k1 hS26 hgrow HK0.out
        refine ⟨hS27, ?_⟩
        (try simp only [List.getElem_toArray, List.getElem_cons_succ, List.getElem_cons_zero, Act.put, List.setIfInBounds_toArray, List.set_cons_zero, List.set_cons_succ])
        clear hown hgrow
        have RA2_27 : Hid (x27.heap[k26]? = some (.cells #[] 36 (0, 0))) := (HG27.out.block _ (Array.getElem?_eq_some_iff.1 RA2_26.out).1 (fun c => by have e := Option.some.inj c; have e2 := HD02_26.out; omega)).trans RA2_26.out
        refine held_stepS (i := 4) (by kernel_rfl) rfl (by rfl) ?_
        go_simp
        have hS28 := HSI.out _ _ hS27 ((Below.refl _ _).alloc (Nat.le_refl _) (.cells #[] 88))
        have RA1_28 : Hid ((x27.alloc (.cells #[] 88)).heap[x27.heap.size]? = some (.cells #[] 88 (0, 0))) := heap_alloc_new _ _
        have HK1 : Hid (rk < x27.heap.size) := (HSE.out _ hS27).2.1
        have HB28 : Hid (Below x27.heap.size x27 (x27.alloc (.cells #[] 88))) := (Below.refl _ _).alloc (Nat.le_refl _) _
        refine ⟨hS28, ?_⟩
        (try simp only [List.getElem_toArray, List.getElem_cons_succ, List.getElem_cons_zero, Act.put, List.setIfInBounds_toArray, List.set_cons_zero, List.set_cons_succ])
        generalize hY : x27.alloc (.cells #[] 88) = x28 at hS28 RA1_28 HB28 ⊢
        clear hY
        obtain ⟨k28, hk⟩ : ∃ k28, k28 = x27.heap.size := ⟨_, rfl⟩
        have HE28 : Hid (k28 = x27.heap.size) := hk
        rw [← hk] at RA1_28 HK1 ⊢
        clear hk
        have HF0_28 := hidF (HF0_27.out.below HB28.out)
        have RA2_28 : Hid (x28.heap[k26]? = some (.cells #[] 36 (0, 0))) := (HB28.out.block _ (Array.getElem?_eq_some_iff.1 RA2_27.out).1).trans RA2_27.out
        have HD21_28 : Hid (k26 ≠ k28) := by have := (Array.getElem?_eq_some_iff.1 RA2_27.out).1; have := HE28.out; show _ ≠ _; omega
        refine held_stepS (i := 7) (by kernel_rfl) rfl (by rfl) ?_
        refine append_fls2 _ _ 24 rfl k28 i0 _ Try.underlying24 hi0 hz0 hz1 hz2 rfl _ _ [] S rfl (own_made0 RA1_28.out) rfl (HSV.out _ hS28).2.1 (by have := HLN.out; simp; omega) (Nat.le_of_lt (Array.getElem?_eq_some_iff.1 RA1_28.out).1) ?_
        intro v29 x29 hown hgrow
        obtain ⟨g29, c29, rfl⟩ := ownF_slice hown
        have HF1_29 : Hid (FlT x29 (.slice g29 S.length c29) S) := FlT.of_own (show x29.ownsRow k28 88 2 (.slice g29 S.length c29) S.length (flC S) by simpa using hown)
        have HG29 : Hid (x28.grownBy x29 (some k28)) := hgrow
        have hS29 := HSG.out _ _ k28 hS28 hgrow HK1.out
        refine ⟨hS29, ?_⟩
        (try simp only [List.getElem_toArray, List.getElem_cons_succ, List.getElem_cons_zero, Act.put, List.setIfInBounds_toArray, List.set_cons_zero, List.set_cons_succ])
        clear hown hgrow
        have HF0_29 := hidF (HF0_28.out.grown0 RA1_28.out HG29.out)
        have RA2_29 : Hid (x29.heap[k26]? = some (.cells #[] 36 (0, 0))) := (HG29.out.block _ (Array.getElem?_eq_some_iff.1 RA2_28.out).1 (fun c => by have e := Option.some.inj c; have e2 := HD21_28.out; omega)).trans RA2_28.out
        refine held_stepS (i := 11) (by kernel_rfl) rfl (by rfl) ?_
        refine append_dqs2 _ _ 25 rfl k26 j0 _ Try.underlying25 hj0 hy0 hy1 hy2 rfl _ _ [] O rfl (own_made0 RA2_29.out) rfl (HSV.out _ hS29).2.2 (by have := HLN.out; simp; omega) (Nat.le_of_lt (Array.getElem?_eq_some_iff.1 RA2_29.out).1) ?_
        intro v30 x30 hown hgrow
        obtain ⟨g30, c30, rfl⟩ := ownQ_slice hown
        have HF2_30 : Hid (x30.ownsRow k26 36 4 (.slice g30 O.length c30) O.length (dqC O)) := (show x30.ownsRow k26 36 4 (.slice g30 O.length c30) O.length (dqC O) by simpa using hown)
        have HG30 : Hid (x29.grownBy x30 (some k26)) := hgrow
        have hS30 := HSG.out _ _ k26 hS29 hgrow HK2.out
        refine ⟨hS30, ?_⟩
        (try simp only [List.getElem_toArray, List.getElem_cons_succ, List.getElem_cons_zero, Act.put, List.setIfInBounds_toArray, List.set_cons_zero, List.set_cons_succ])
        clear hown hgrow
        have HF0_30 := hidF (HF0_29.out.grown0 RA2_29.out HG30.out)
        have HF1_30 := hidF (HF1_29.out.grown0 RA2_29.out HG30.out)
        refine wpAnyH_take (i := 12) (v := .agg #[.slice g27 L.length c27, .slice g29 S.length c29, .slice g30 O.length c30]) rfl (by kernel_rfl) (by kernel_rfl) (by kernel_rfl) (fun _ _ _ h => h) (Or.inl ⟨by rfl, by intro w' hS';  go_simp <;> (first | omega | rfl | (rw [IntKind.wrap_i64]; omega))⟩) hS30 ?_
        (try simp only [List.getElem_toArray, List.getElem_cons_succ, List.getElem_cons_zero, Act.put, List.setIfInBounds_toArray, List.set_cons_zero, List.set_cons_succ])
        obtain ⟨hb7, _, p9, n9, m9, q9, r9, hz4⟩ := HSE.out _ hS30
        have HB9 : Hid (Below w.heap.size w (set3b x30 rk (.slice g27 L.length c27) (.slice g29 S.length c29) (.slice g30 O.length c30))) := ((hb7.setCell (p := ⟨rk, 0, none⟩) h3 _).setCell (p := ⟨rk, 1, none⟩) h3 _).setCell (p := ⟨rk, 2, none⟩) h3 _
        have HR9 : Hid ((set3b x30 rk (.slice g27 L.length c27) (.slice g29 S.length c29) (.slice g30 O.length c30)).heap[rk]? = some (.cells #[.slice g27 L.length c27, .slice g29 S.length c29, .slice g30 O.length c30] 27 (0, 0))) := heap_setCell_same _ _ _ _ _ _ (heap_setCell_same _ _ _ _ _ _ (heap_setCell_same _ _ _ _ _ _ hz4))
        have HO9 : Hid (FlT (set3b x30 rk (.slice g27 L.length c27) (.slice g29 S.length c29) (.slice g30 O.length c30)) (.slice g27 L.length c27) L ∧ FlT (set3b x30 rk (.slice g27 L.length c27) (.slice g29 S.length c29) (.slice g30 O.length c30)) (.slice g29 S.length c29) S ∧ (set3b x30 rk (.slice g27 L.length c27) (.slice g29 S.length c29) (.slice g30 O.length c30)).ownsRow w.heap.size 36 4 (.slice g30 O.length c30) O.length (dqC O)) := ⟨HF0_30.out.set3b hz4, HF1_30.out.set3b hz4, own_set3b (ownF_base HF2_30.out (by have := HK2.out; have := HBK.out; omega)) hz4 (by decide)⟩
        have z0 := cell_of_row _ _ 0 _ _ _ hz4
        have z1 := cell_of_row _ _ 1 _ _ _ hz4
        have z2 := cell_of_row _ _ 2 _ _ _ hz4
        have f0 := frozen_of_row _ _ 0 _ _ hz4
        have f1 := frozen_of_row _ _ 1 _ _ hz4
        have f2 := frozen_of_row _ _ 2 _ _ hz4
        clear hz4 hb7
        refine held_stepS (i := 13) (by kernel_rfl) rfl (by rfl) ?_
        go_simp
        refine ⟨HSB.out _ _ _ _ _ _ hS30, ?_⟩
        (try simp only [List.getElem_toArray, List.getElem_cons_succ, List.getElem_cons_zero, Act.put, List.setIfInBounds_toArray, List.set_cons_zero, List.set_cons_succ])
        clear hS30 HSX HSI HSE HSB HSG HSV z0 z1 z2 f0 f1 f2
        refine wpAnyH_done (by kernel_rfl) ?_ _
        go_wp2_with fail
        exact bodyPost_ret (results_cell_row rfl _ _ rk 27 #[.slice g27 L.length c27, .slice g29 S.length c29, .slice g30 O.length c30] (0, 0) _ rfl HR9.out Try.underlying27 rfl (by kernel_rfl)) rfl ⟨⟨_, _, _, rfl, HO9.out⟩, HB9.out⟩
      · go_simp
        have hS31 := HSI.out _ _ hS26 ((Below.refl _ _).alloc (Nat.le_refl _) (.cells #[] 88))
        have RA1_31 : Hid ((x26.alloc (.cells #[] 88)).heap[x26.heap.size]? = some (.cells #[] 88 (0, 0))) := heap_alloc_new _ _
        have HK1 : Hid (rk < x26.heap.size) := (HSE.out _ hS26).2.1
        have HB31 : Hid (Below x26.heap.size x26 (x26.alloc (.cells #[] 88))) := (Below.refl _ _).alloc (Nat.le_refl _) _
        refine ⟨hS31, ?_⟩
        (try simp only [List.getElem_toArray, List.getElem_cons_succ, List.getElem_cons_zero, Act.put, List.setIfInBounds_toArray, List.set_cons_zero, List.set_cons_succ])
        generalize hY : x26.alloc (.cells #[] 88) = x31 at hS31 RA1_31 HB31 ⊢
        clear hY
        obtain ⟨k31, hk⟩ : ∃ k31, k31 = x26.heap.size := ⟨_, rfl⟩
        have HE31 : Hid (k31 = x26.heap.size) := hk
        rw [← hk] at RA1_31 HK1 ⊢
        clear hk
        have RA0_31 : Hid (x31.heap[k1]? = some (.cells #[] 88 (0, 0))) := (HB31.out.block _ (Array.getElem?_eq_some_iff.1 RA0_26.out).1).trans RA0_26.out
        have HD01_31 : Hid (k1 ≠ k31) := by have := (Array.getElem?_eq_some_iff.1 RA0_26.out).1; have := HE31.out; show _ ≠ _; omega
        have RA2_31 : Hid (x31.heap[k26]? = some (.cells #[] 36 (0, 0))) := (HB31.out.block _ (Array.getElem?_eq_some_iff.1 RA2_26.out).1).trans RA2_26.out
        have HD21_31 : Hid (k26 ≠ k31) := by have := (Array.getElem?_eq_some_iff.1 RA2_26.out).1; have := HE31.out; show _ ≠ _; omega
        refine held_stepS (i := 3) (by kernel_rfl) rfl (by rfl) ?_
        refine append_fls2 _ _ 24 rfl k1 i0 _ Try.underlying24 hi0 hz0 hz1 hz2 rfl _ _ [] L rfl (own_made0 RA0_31.out) rfl (HSV.out _ hS31).1 (by have := HLN.out; simp; omega) (Nat.le_of_lt (Array.getElem?_eq_some_iff.1 RA0_31.out).1) ?_
        intro v32 x32 hown hgrow
        obtain ⟨g32, c32, rfl⟩ := ownF_slice hown
        have HF0_32 : Hid (FlT x32 (.slice g32 L.length c32) L) := FlT.of_own (show x32.ownsRow k1 88 2 (.slice g32 L.length c32) L.length (flC L) by simpa using hown)
        have HG32 : Hid (x31.grownBy x32 (some k1)) := hgrow
        have hS32 := HSG.out _ _ k1 hS31 hgrow HK0.out
        refine ⟨hS32, ?_⟩
        (try simp only [List.getElem_toArray, List.getElem_cons_succ, List.getElem_cons_zero, Act.put, List.setIfInBounds_toArray, List.set_cons_zero, List.set_cons_succ])
        clear hown hgrow
        have RA1_32 : Hid (x32.heap[k31]? = some (.cells #[] 88 (0, 0))) := (HG32.out.block _ (Array.getElem?_eq_some_iff.1 RA1_31.out).1 (fun c => by have e := Option.some.inj c; have e2 := HD01_31.out; omega)).trans RA1_31.out
        have RA2_32 : Hid (x32.heap[k26]? = some (.cells #[] 36 (0, 0))) := (HG32.out.block _ (Array.getElem?_eq_some_iff.1 RA2_31.out).1 (fun c => by have e := Option.some.inj c; have e2 := HD02_26.out; omega)).trans RA2_31.out
        refine held_stepS (i := 7) (by kernel_rfl) rfl (by rfl) ?_
        refine append_fls2 _ _ 24 rfl k31 i0 _ Try.underlying24 hi0 hz0 hz1 hz2 rfl _ _ [] S rfl (own_made0 RA1_32.out) rfl (HSV.out _ hS32).2.1 (by have := HLN.out; simp; omega) (Nat.le_of_lt (Array.getElem?_eq_some_iff.1 RA1_32.out).1) ?_
        intro v33 x33 hown hgrow
        obtain ⟨g33, c33, rfl⟩ := ownF_slice hown
        have HF1_33 : Hid (FlT x33 (.slice g33 S.length c33) S) := FlT.of_own (show x33.ownsRow k31 88 2 (.slice g33 S.length c33) S.length (flC S) by simpa using hown)
        have HG33 : Hid (x32.grownBy x33 (some k31)) := hgrow
        have hS33 := HSG.out _ _ k31 hS32 hgrow HK1.out
        refine ⟨hS33, ?_⟩
        (try simp only [List.getElem_toArray, List.getElem_cons_succ, List.getElem_cons_zero, Act.put, List.setIfInBounds_toArray, List.set_cons_zero, List.set_cons_succ])
        clear hown hgrow
        have HF0_33 := hidF (HF0_32.out.grown0 RA1_32.out HG33.out)
        have RA2_33 : Hid (x33.heap[k26]? = some (.cells #[] 36 (0, 0))) := (HG33.out.block _ (Array.getElem?_eq_some_iff.1 RA2_32.out).1 (fun c => by have e := Option.some.inj c; have e2 := HD21_31.out; omega)).trans RA2_32.out
        refine held_stepS (i := 11) (by kernel_rfl) rfl (by rfl) ?_
        refine append_dqs2 _ _ 25 rfl k26 j0 _ Try.underlying25 hj0 hy0 hy1 hy2 rfl _ _ [] O rfl (own_made0 RA2_33.out) rfl (HSV.out _ hS33).2.2 (by have := HLN.out; simp; omega) (Nat.le_of_lt (Array.getElem?_eq_some_iff.1 RA2_33.out).1) ?_
        intro v34 x34 hown hgrow
        obtain ⟨g34, c34, rfl⟩ := ownQ_slice hown
        have HF2_34 : Hid (x34.ownsRow k26 36 4 (.slice g34 O.length c34) O.length (dqC O)) := (show x34.ownsRow k26 36 4 (.slice g34 O.length c34) O.length (dqC O) by simpa using hown)
        have HG34 : Hid (x33.grownBy x34 (some k26)) := hgrow
        have hS34 := HSG.out _ _ k26 hS33 hgrow HK2.out
        refine ⟨hS34, ?_⟩
        (try simp only [List.getElem_toArray, List.getElem_cons_succ, List.getElem_cons_zero, Act.put, List.setIfInBounds_toArray, List.set_cons_zero, List.set_cons_succ])
        clear hown hgrow
        have HF0_34 := hidF (HF0_33.out.grown0 RA2_33.out HG34.out)
        have HF1_34 := hidF (HF1_33.out.grown0 RA2_33.out HG34.out)
        refine wpAnyH_take (i := 12) (v := .agg #[.slice g32 L.length c32, .slice g33 S.length c33, .slice g34 O.length c34]) rfl (by kernel_rfl) (by kernel_rfl) (by kernel_rfl) (fun _ _ _ h => h) (Or.inl ⟨by rfl, by intro w' hS';  go_simp <;> (first | omega | rfl | (rw [IntKind.wrap_i64]; omega))⟩) hS34 ?_
        (try simp only [List.getElem_toArray, List.getElem_cons_succ, List.getElem_cons_zero, Act.put, List.setIfInBounds_toArray, List.set_cons_zero, List.set_cons_succ])
        obtain ⟨hb7, _, p9, n9, m9, q9, r9, hz4⟩ := HSE.out _ hS34
        have HB9 : Hid (Below w.heap.size w (set3b x34 rk (.slice g32 L.length c32) (.slice g33 S.length c33) (.slice g34 O.length c34))) := ((hb7.setCell (p := ⟨rk, 0, none⟩) h3 _).setCell (p := ⟨rk, 1, none⟩) h3 _).setCell (p := ⟨rk, 2, none⟩) h3 _
        have HR9 : Hid ((set3b x34 rk (.slice g32 L.length c32) (.slice g33 S.length c33) (.slice g34 O.length c34)).heap[rk]? = some (.cells #[.slice g32 L.length c32, .slice g33 S.length c33, .slice g34 O.length c34] 27 (0, 0))) := heap_setCell_same _ _ _ _ _ _ (heap_setCell_same _ _ _ _ _ _ (heap_setCell_same _ _ _ _ _ _ hz4))
        have HO9 : Hid (FlT (set3b x34 rk (.slice g32 L.length c32) (.slice g33 S.length c33) (.slice g34 O.length c34)) (.slice g32 L.length c32) L ∧ FlT (set3b x34 rk (.slice g32 L.length c32) (.slice g33 S.length c33) (.slice g34 O.length c34)) (.slice g33 S.length c33) S ∧ (set3b x34 rk (.slice g32 L.length c32) (.slice g33 S.length c33) (.slice g34 O.length c34)).ownsRow w.heap.size 36 4 (.slice g34 O.length c34) O.length (dqC O)) := ⟨HF0_34.out.set3b hz4, HF1_34.out.set3b hz4, own_set3b (ownF_base HF2_34.out (by have := HK2.out; have := HBK.out; omega)) hz4 (by decide)⟩
        have z0 := cell_of_row _ _ 0 _ _ _ hz4
        have z1 := cell_of_row _ _ 1 _ _ _ hz4
        have z2 := cell_of_row _ _ 2 _ _ _ hz4
        have f0 := frozen_of_row _ _ 0 _ _ hz4
        have f1 := frozen_of_row _ _ 1 _ _ hz4
        have f2 := frozen_of_row _ _ 2 _ _ hz4
        clear hz4 hb7
        refine held_stepS (i := 13) (by kernel_rfl) rfl (by rfl) ?_
        go_simp
        refine ⟨HSB.out _ _ _ _ _ _ hS34, ?_⟩
        (try simp only [List.getElem_toArray, List.getElem_cons_succ, List.getElem_cons_zero, Act.put, List.setIfInBounds_toArray, List.set_cons_zero, List.set_cons_succ])
        clear hS34 HSX HSI HSE HSB HSG HSV z0 z1 z2 f0 f1 f2
        refine wpAnyH_done (by kernel_rfl) ?_ _
        go_wp2_with fail
        exact bodyPost_ret (results_cell_row rfl _ _ rk 27 #[.slice g32 L.length c32, .slice g33 S.length c33, .slice g34 O.length c34] (0, 0) _ rfl HR9.out Try.underlying27 rfl (by kernel_rfl)) rfl ⟨⟨_, _, _, rfl, HO9.out⟩, HB9.out⟩
  · go_simp
    have hS35 := HSI.out _ _ hSd ((Below.refl _ _).alloc (Nat.le_refl _) (.cells #[] 88))
    have RA1_35 : Hid ((X0.alloc (.cells #[] 88)).heap[X0.heap.size]? = some (.cells #[] 88 (0, 0))) := heap_alloc_new _ _
    have HK1 : Hid (rk < X0.heap.size) := (HSE.out _ hSd).2.1
    have HB35 : Hid (Below X0.heap.size X0 (X0.alloc (.cells #[] 88))) := (Below.refl _ _).alloc (Nat.le_refl _) _
    refine ⟨hS35, ?_⟩
    (try simp only [List.getElem_toArray, List.getElem_cons_succ, List.getElem_cons_zero, Act.put, List.setIfInBounds_toArray, List.set_cons_zero, List.set_cons_succ])
    generalize hY : X0.alloc (.cells #[] 88) = x35 at hS35 RA1_35 HB35 ⊢
    clear hY
    obtain ⟨k35, hk⟩ : ∃ k35, k35 = X0.heap.size := ⟨_, rfl⟩
    have HE35 : Hid (k35 = X0.heap.size) := hk
    rw [← hk] at RA1_35 HK1 ⊢
    clear hk
    refine held_two (i := 0) (k := 8) (by kernel_rfl) rfl rfl (by rfl) (by rfl) ?_ ?_
    · go_simp
      have hS36 := HSI.out _ _ hS35 ((Below.refl _ _).alloc (Nat.le_refl _) (.cells #[] 88))
      have RA0_36 : Hid ((x35.alloc (.cells #[] 88)).heap[x35.heap.size]? = some (.cells #[] 88 (0, 0))) := heap_alloc_new _ _
      have HK0 : Hid (rk < x35.heap.size) := (HSE.out _ hS35).2.1
      have HB36 : Hid (Below x35.heap.size x35 (x35.alloc (.cells #[] 88))) := (Below.refl _ _).alloc (Nat.le_refl _) _
      refine ⟨hS36, ?_⟩
      (try simp only [List.getElem_toArray, List.getElem_cons_succ, List.getElem_cons_zero, Act.put, List.setIfInBounds_toArray, List.set_cons_zero, List.set_cons_succ])
      generalize hY : x35.alloc (.cells #[] 88) = x36 at hS36 RA0_36 HB36 ⊢
      clear hY
      obtain ⟨k36, hk⟩ : ∃ k36, k36 = x35.heap.size := ⟨_, rfl⟩
      have HE36 : Hid (k36 = x35.heap.size) := hk
      rw [← hk] at RA0_36 HK0 ⊢
      clear hk
      have RA1_36 : Hid (x36.heap[k35]? = some (.cells #[] 88 (0, 0))) := (HB36.out.block _ (Array.getElem?_eq_some_iff.1 RA1_35.out).1).trans RA1_35.out
      have HD10_36 : Hid (k35 ≠ k36) := by have := (Array.getElem?_eq_some_iff.1 RA1_35.out).1; have := HE36.out; show _ ≠ _; omega
      refine held_two (i := 3) (k := 8) (by kernel_rfl) rfl rfl (by rfl) (by rfl) ?_ ?_
      · refine append_fls2 _ _ 24 rfl k36 i0 _ Try.underlying24 hi0 hz0 hz1 hz2 rfl _ _ [] L rfl (own_made0 RA0_36.out) rfl (HSV.out _ hS36).1 (by have := HLN.out; simp; omega) (Nat.le_of_lt (Array.getElem?_eq_some_iff.1 RA0_36.out).1) ?_
        intro v37 x37 hown hgrow
        obtain ⟨g37, c37, rfl⟩ := ownF_slice hown
        have HF0_37 : Hid (FlT x37 (.slice g37 L.length c37) L) := FlT.of_own (show x37.ownsRow k36 88 2 (.slice g37 L.length c37) L.length (flC L) by simpa using hown)
        have HG37 : Hid (x36.grownBy x37 (some k36)) := hgrow
        have hS37 := HSG.out _ _ k36 hS36 hgrow HK0.out
        refine ⟨hS37, ?_⟩
        (try simp only [List.getElem_toArray, List.getElem_cons_succ, List.getElem_cons_zero, Act.put, List.setIfInBounds_toArray, List.set_cons_zero, List.set_cons_succ])
        clear hown hgrow
        have RA1_37 : Hid (x37.heap[k35]? = some (.cells #[] 88 (0, 0))) := (HG37.out.block _ (Array.getElem?_eq_some_iff.1 RA1_36.out).1 (fun c => by have e := Option.some.inj c; have e2 := HD10_36.out; omega)).trans RA1_36.out
        refine held_two (i := 7) (k := 8) (by kernel_rfl) rfl rfl (by rfl) (by rfl) ?_ ?_
        · refine append_fls2 _ _ 24 rfl k35 i0 _ Try.underlying24 hi0 hz0 hz1 hz2 rfl _ _ [] S rfl (own_made0 RA1_37.out) rfl (HSV.out _ hS37).2.1 (by have := HLN.out; simp; omega) (Nat.le_of_lt (Array.getElem?_eq_some_iff.1 RA1_37.out).1) ?_
          intro v38 x38 hown hgrow
          obtain ⟨g38, c38, rfl⟩ := ownF_slice hown
          have HF1_38 : Hid (FlT x38 (.slice g38 S.length c38) S) := FlT.of_own (show x38.ownsRow k35 88 2 (.slice g38 S.length c38) S.length (flC S) by simpa using hown)
          have HG38 : Hid (x37.grownBy x38 (some k35)) := hgrow
          have hS38 := HSG.out _ _ k35 hS37 hgrow HK1.out
          refine ⟨hS38, ?_⟩
          (try simp only [List.getElem_toArray, List.getElem_cons_succ, List.getElem_cons_zero, Act.put, List.setIfInBounds_toArray, List.set_cons_zero, List.set_cons_succ])
          clear hown hgrow
          have HF0_38 := hidF (HF0_37.out.grown0 RA1_37.out HG38.out)
          refine held_stepS (i := 8) (by kernel_rfl) rfl (by rfl) ?_
          go_simp
          have hS39 := HSI.out _ _ hS38 ((Below.refl _ _).alloc (Nat.le_refl _) (.cells #[] 36))
          have RA2_39 : Hid ((x38.alloc (.cells #[] 36)).heap[x38.heap.size]? = some (.cells #[] 36 (0, 0))) := heap_alloc_new _ _
          have HK2 : Hid (rk < x38.heap.size) := (HSE.out _ hS38).2.1
          have HB39 : Hid (Below x38.heap.size x38 (x38.alloc (.cells #[] 36))) := (Below.refl _ _).alloc (Nat.le_refl _) _
          refine ⟨hS39, ?_⟩
          (try simp only [List.getElem_toArray, List.getElem_cons_succ, List.getElem_cons_zero, Act.put, List.setIfInBounds_toArray, List.set_cons_zero, List.set_cons_succ])
          generalize hY : x38.alloc (.cells #[] 36) = x39 at hS39 RA2_39 HB39 ⊢
          clear hY
          obtain ⟨k39, hk⟩ : ∃ k39, k39 = x38.heap.size := ⟨_, rfl⟩
          have HE39 : Hid (k39 = x38.heap.size) := hk
          rw [← hk] at RA2_39 HK2 ⊢
          clear hk
          have HF0_39 := hidF (HF0_38.out.below HB39.out)
          have HF1_39 := hidF (HF1_38.out.below HB39.out)
          refine held_stepS (i := 11) (by kernel_rfl) rfl (by rfl) ?_
          refine append_dqs2 _ _ 25 rfl k39 j0 _ Try.underlying25 hj0 hy0 hy1 hy2 rfl _ _ [] O rfl (own_made0 RA2_39.out) rfl (HSV.out _ hS39).2.2 (by have := HLN.out; simp; omega) (Nat.le_of_lt (Array.getElem?_eq_some_iff.1 RA2_39.out).1) ?_
          intro v40 x40 hown hgrow
          obtain ⟨g40, c40, rfl⟩ := ownQ_slice hown
          have HF2_40 : Hid (x40.ownsRow k39 36 4 (.slice g40 O.length c40) O.length (dqC O)) := (show x40.ownsRow k39 36 4 (.slice g40 O.length c40) O.length (dqC O) by simpa using hown)
          have HG40 : Hid (x39.grownBy x40 (some k39)) := hgrow
          have hS40 := HSG.out _ _ k39 hS39 hgrow HK2.out
          refine ⟨hS40, ?_⟩
          (try simp only [List.getElem_toArray, List.getElem_cons_succ, List.getElem_cons_zero, Act.put, List.setIfInBounds_toArray, List.set_cons_zero, List.set_cons_succ])
          clear hown hgrow
          have HF0_40 := hidF (HF0_39.out.grown0 RA2_39.out HG40.out)
          have HF1_40 := hidF (HF1_39.out.grown0 RA2_39.out HG40.out)
          refine wpAnyH_take (i := 12) (v := .agg #[.slice g37 L.length c37, .slice g38 S.length c38, .slice g40 O.length c40]) rfl (by kernel_rfl) (by kernel_rfl) (by kernel_rfl) (fun _ _ _ h => h) (Or.inl ⟨by rfl, by intro w' hS';  go_simp <;> (first | omega | rfl | (rw [IntKind.wrap_i64]; omega))⟩) hS40 ?_
          (try simp only [List.getElem_toArray, List.getElem_cons_succ, List.getElem_cons_zero, Act.put, List.setIfInBounds_toArray, List.set_cons_zero, List.set_cons_succ])
          obtain ⟨hb7, _, p9, n9, m9, q9, r9, hz4⟩ := HSE.out _ hS40
          have HB9 : Hid (Below w.heap.size w (set3b x40 rk (.slice g37 L.length c37) (.slice g38 S.length c38) (.slice g40 O.length c40))) := ((hb7.setCell (p := ⟨rk, 0, none⟩) h3 _).setCell (p := ⟨rk, 1, none⟩) h3 _).setCell (p := ⟨rk, 2, none⟩) h3 _
          have HR9 : Hid ((set3b x40 rk (.slice g37 L.length c37) (.slice g38 S.length c38) (.slice g40 O.length c40)).heap[rk]? = some (.cells #[.slice g37 L.length c37, .slice g38 S.length c38, .slice g40 O.length c40] 27 (0, 0))) := heap_setCell_same _ _ _ _ _ _ (heap_setCell_same _ _ _ _ _ _ (heap_setCell_same _ _ _ _ _ _ hz4))
          have HO9 : Hid (FlT (set3b x40 rk (.slice g37 L.length c37) (.slice g38 S.length c38) (.slice g40 O.length c40)) (.slice g37 L.length c37) L ∧ FlT (set3b x40 rk (.slice g37 L.length c37) (.slice g38 S.length c38) (.slice g40 O.length c40)) (.slice g38 S.length c38) S ∧ (set3b x40 rk (.slice g37 L.length c37) (.slice g38 S.length c38) (.slice g40 O.length c40)).ownsRow w.heap.size 36 4 (.slice g40 O.length c40) O.length (dqC O)) := ⟨HF0_40.out.set3b hz4, HF1_40.out.set3b hz4, own_set3b (ownF_base HF2_40.out (by have := HK2.out; have := HBK.out; omega)) hz4 (by decide)⟩
          have z0 := cell_of_row _ _ 0 _ _ _ hz4
          have z1 := cell_of_row _ _ 1 _ _ _ hz4
          have z2 := cell_of_row _ _ 2 _ _ _ hz4
          have f0 := frozen_of_row _ _ 0 _ _ hz4
          have f1 := frozen_of_row _ _ 1 _ _ hz4
          have f2 := frozen_of_row _ _ 2 _ _ hz4
          clear hz4 hb7
          refine held_stepS (i := 13) (by kernel_rfl) rfl (by rfl) ?_
          go_simp
          refine ⟨HSB.out _ _ _ _ _ _ hS40, ?_⟩
          (try simp only [List.getElem_toArray, List.getElem_cons_succ, List.getElem_cons_zero, Act.put, List.setIfInBounds_toArray, List.set_cons_zero, List.set_cons_succ])
          clear hS40 HSX HSI HSE HSB HSG HSV z0 z1 z2 f0 f1 f2
          refine wpAnyH_done (by kernel_rfl) ?_ _
          go_wp2_with fail
          exact bodyPost_ret (results_cell_row rfl _ _ rk 27 #[.slice g37 L.length c37, .slice g38 S.length c38, .slice g40 O.length c40] (0, 0) _ rfl HR9.out Try.underlying27 rfl (by kernel_rfl)) rfl ⟨⟨_, _, _, rfl, HO9.out⟩, HB9.out⟩
        · go_simp
          have hS41 := HSI.out _ _ hS37 ((Below.refl _ _).alloc (Nat.le_refl _) (.cells #[] 36))
          have RA2_41 : Hid ((x37.alloc (.cells #[] 36)).heap[x37.heap.size]? = some (.cells #[] 36 (0, 0))) := heap_alloc_new _ _
          have HK2 : Hid (rk < x37.heap.size) := (HSE.out _ hS37).2.1
          have HB41 : Hid (Below x37.heap.size x37 (x37.alloc (.cells #[] 36))) := (Below.refl _ _).alloc (Nat.le_refl _) _
          refine ⟨hS41, ?_⟩
          (try simp only [List.getElem_toArray, List.getElem_cons_succ, List.getElem_cons_zero, Act.put, List.setIfInBounds_toArray, List.set_cons_zero, List.set_cons_succ])
          generalize hY : x37.alloc (.cells #[] 36) = x41 at hS41 RA2_41 HB41 ⊢
          clear hY
          obtain ⟨k41, hk⟩ : ∃ k41, k41 = x37.heap.size := ⟨_, rfl⟩
          have HE41 : Hid (k41 = x37.heap.size) := hk
          rw [← hk] at RA2_41 HK2 ⊢
          clear hk
          have HF0_41 := hidF (HF0_37.out.below HB41.out)
          have RA1_41 : Hid (x41.heap[k35]? = some (.cells #[] 88 (0, 0))) := (HB41.out.block _ (Array.getElem?_eq_some_iff.1 RA1_37.out).1).trans RA1_37.out
          have HD12_41 : Hid (k35 ≠ k41) := by have := (Array.getElem?_eq_some_iff.1 RA1_37.out).1; have := HE41.out; show _ ≠ _; omega
          refine held_stepS (i := 7) (by kernel_rfl) rfl (by rfl) ?_
          refine append_fls2 _ _ 24 rfl k35 i0 _ Try.underlying24 hi0 hz0 hz1 hz2 rfl _ _ [] S rfl (own_made0 RA1_41.out) rfl (HSV.out _ hS41).2.1 (by have := HLN.out; simp; omega) (Nat.le_of_lt (Array.getElem?_eq_some_iff.1 RA1_41.out).1) ?_
          intro v42 x42 hown hgrow
          obtain ⟨g42, c42, rfl⟩ := ownF_slice hown
          have HF1_42 : Hid (FlT x42 (.slice g42 S.length c42) S) := FlT.of_own (show x42.ownsRow k35 88 2 (.slice g42 S.length c42) S.length (flC S) by simpa using hown)
          have HG42 : Hid (x41.grownBy x42 (some k35)) := hgrow
          have hS42 := HSG.out _ _ k35 hS41 hgrow HK1.out
          refine ⟨hS42, ?_⟩
          (try simp only [List.getElem_toArray, List.getElem_cons_succ, List.getElem_cons_zero, Act.put, List.setIfInBounds_toArray, List.set_cons_zero, List.set_cons_succ])
          clear hown hgrow
          have HF0_42 := hidF (HF0_41.out.grown0 RA1_41.out HG42.out)
          have RA2_42 : Hid (x42.heap[k41]? = some (.cells #[] 36 (0, 0))) := (HG42.out.block _ (Array.getElem?_eq_some_iff.1 RA2_41.out).1 (fun c => by have e := Option.some.inj c; have e2 := HD12_41.out; omega)).trans RA2_41.out
          refine held_stepS (i := 11) (by kernel_rfl) rfl (by rfl) ?_
          refine append_dqs2 _ _ 25 rfl k41 j0 _ Try.underlying25 hj0 hy0 hy1 hy2 rfl _ _ [] O rfl (own_made0 RA2_42.out) rfl (HSV.out _ hS42).2.2 (by have := HLN.out; simp; omega) (Nat.le_of_lt (Array.getElem?_eq_some_iff.1 RA2_42.out).1) ?_
          intro v43 x43 hown hgrow
          obtain ⟨g43, c43, rfl⟩ := ownQ_slice hown
          have HF2_43 : Hid (x43.ownsRow k41 36 4 (.slice g43 O.length c43) O.length (dqC O)) := (show x43.ownsRow k41 36 4 (.slice g43 O.length c43) O.length (dqC O) by simpa using hown)
          have HG43 : Hid (x42.grownBy x43 (some k41)) := hgrow
          have hS43 := HSG.out _ _ k41 hS42 hgrow HK2.out
          refine ⟨hS43, ?_⟩
          (try simp only [List.getElem_toArray, List.getElem_cons_succ, List.getElem_cons_zero, Act.put, List.setIfInBounds_toArray, List.set_cons_zero, List.set_cons_succ])
          clear hown hgrow
          have HF0_43 := hidF (HF0_42.out.grown0 RA2_42.out HG43.out)
          have HF1_43 := hidF (HF1_42.out.grown0 RA2_42.out HG43.out)
          refine wpAnyH_take (i := 12) (v := .agg #[.slice g37 L.length c37, .slice g42 S.length c42, .slice g43 O.length c43]) rfl (by kernel_rfl) (by kernel_rfl) (by kernel_rfl) (fun _ _ _ h => h) (Or.inl ⟨by rfl, by intro w' hS';  go_simp <;> (first | omega | rfl | (rw [IntKind.wrap_i64]; omega))⟩) hS43 ?_
          (try simp only [List.getElem_toArray, List.getElem_cons_succ, List.getElem_cons_zero, Act.put, List.setIfInBounds_toArray, List.set_cons_zero, List.set_cons_succ])
          obtain ⟨hb7, _, p9, n9, m9, q9, r9, hz4⟩ := HSE.out _ hS43
          have HB9 : Hid (Below w.heap.size w (set3b x43 rk (.slice g37 L.length c37) (.slice g42 S.length c42) (.slice g43 O.length c43))) := ((hb7.setCell (p := ⟨rk, 0, none⟩) h3 _).setCell (p := ⟨rk, 1, none⟩) h3 _).setCell (p := ⟨rk, 2, none⟩) h3 _
          have HR9 : Hid ((set3b x43 rk (.slice g37 L.length c37) (.slice g42 S.length c42) (.slice g43 O.length c43)).heap[rk]? = some (.cells #[.slice g37 L.length c37, .slice g42 S.length c42, .slice g43 O.length c43] 27 (0, 0))) := heap_setCell_same _ _ _ _ _ _ (heap_setCell_same _ _ _ _ _ _ (heap_setCell_same _ _ _ _ _ _ hz4))
          have HO9 : Hid (FlT (set3b x43 rk (.slice g37 L.length c37) (.slice g42 S.length c42) (.slice g43 O.length c43)) (.slice g37 L.length c37) L ∧ FlT (set3b x43 rk (.slice g37 L.length c37) (.slice g42 S.length c42) (.slice g43 O.length c43)) (.slice g42 S.length c42) S ∧ (set3b x43 rk (.slice g37 L.length c37) (.slice g42 S.length c42) (.slice g43 O.length c43)).ownsRow w.heap.size 36 4 (.slice g43 O.length c43) O.length (dqC O)) := ⟨HF0_43.out.set3b hz4, HF1_43.out.set3b hz4, own_set3b (ownF_base HF2_43.out (by have := HK2.out; have := HBK.out; omega)) hz4 (by decide)⟩
          have z0 := cell_of_row _ _ 0 _ _ _ hz4
          have z1 := cell_of_row _ _ 1 _ _ _ hz4
          have z2 := cell_of_row _ _ 2 _ _ _ hz4
          have f0 := frozen_of_row _ _ 0 _ _ hz4
          have f1 := frozen_of_row _ _ 1 _ _ hz4
          have f2 := frozen_of_row _ _ 2 _ _ hz4
          clear hz4 hb7
          refine held_stepS (i := 13) (by kernel_rfl) rfl (by rfl) ?_
          go_simp
          refine ⟨HSB.out _ _ _ _ _ _ hS43, ?_⟩
          (try simp only [List.getElem_toArray, List.getElem_cons_succ, List.getElem_cons_zero, Act.put, List.setIfInBounds_toArray, List.set_cons_zero, List.set_cons_succ])
          clear hS43 HSX HSI HSE HSB HSG HSV z0 z1 z2 f0 f1 f2
          refine wpAnyH_done (by kernel_rfl) ?_ _
          go_wp2_with fail
          exact bodyPost_ret (results_cell_row rfl _ _ rk 27 #[.slice g37 L.length c37, .slice g42 S.length c42, .slice g43 O.length c43] (0, 0) _ rfl HR9.out Try.underlying27 rfl (by kernel_rfl)) rfl ⟨⟨_, _, _, rfl, HO9.out⟩, HB9.out⟩
      · go_simp
        have hS44 := HSI.out _ _ hS36 ((Below.refl _ _).alloc (Nat.le_refl _) (.cells #[] 36))
        have RA2_44 : Hid ((x36.alloc (.cells #[] 36)).heap[x36.heap.size]? = some (.cells #[] 36 (0, 0))) := heap_alloc_new _ _
        have HK2 : Hid (rk < x36.heap.size) := (HSE.out _ hS36).2.1
        have HB44 : Hid (Below x36.heap.size x36 (x36.alloc (.cells #[] 36))) := (Below.refl _ _).alloc (Nat.le_refl _) _
        refine ⟨hS44, ?_⟩
        (try simp only [List.getElem_toArray, List.getElem_cons_succ, List.getElem_cons_zero, Act.put, List.setIfInBounds_toArray, List.set_cons_zero, List.set_cons_succ])
        generalize hY : x36.alloc (.cells #[] 36) = x44 at hS44 RA2_44 HB44 ⊢
        clear hY
        obtain ⟨k44, hk⟩ : ∃ k44, k44 = x36.heap.size := ⟨_, rfl⟩
        have HE44 : Hid (k44 = x36.heap.size) := hk
        rw [← hk] at RA2_44 HK2 ⊢
        clear hk
        have RA0_44 : Hid (x44.heap[k36]? = some (.cells #[] 88 (0, 0))) := (HB44.out.block _ (Array.getElem?_eq_some_iff.1 RA0_36.out).1).trans RA0_36.out
        have HD02_44 : Hid (k36 ≠ k44) := by have := (Array.getElem?_eq_some_iff.1 RA0_36.out).1; have := HE44.out; show _ ≠ _; omega
        have RA1_44 : Hid (x44.heap[k35]? = some (.cells #[] 88 (0, 0))) := (HB44.out.block _ (Array.getElem?_eq_some_iff.1 RA1_36.out).1).trans RA1_36.out
        have HD12_44 : Hid (k35 ≠ k44) := by have := (Array.getElem?_eq_some_iff.1 RA1_36.out).1; have := HE44.out; show _ ≠ _; omega
        refine held_stepS (i := 3) (by kernel_rfl) rfl (by rfl) ?_
        refine append_fls2 _ _ 24 rfl k36 i0 _ Try.underlying24 hi0 hz0 hz1 hz2 rfl _ _ [] L rfl (own_made0 RA0_44.out) rfl (HSV.out _ hS44).1 (by have := HLN.out; simp; omega) (Nat.le_of_lt (Array.getElem?_eq_some_iff.1 RA0_44.out).1) ?_
        intro v45 x45 hown hgrow
        obtain ⟨g45, c45, rfl⟩ := ownF_slice hown
        have HF0_45 : Hid (FlT x45 (.slice g45 L.length c45) L) := FlT.of_own (show x45.ownsRow k36 88 2 (.slice g45 L.length c45) L.length (flC L) by simpa using hown)
        have HG45 : Hid (x44.grownBy x45 (some k36)) := hgrow
        have hS45 := HSG.out _ _ k36 hS44 hgrow HK0.out
        refine ⟨hS45, ?_⟩
        (try simp only [List.getElem_toArray, List.getElem_cons_succ, List.getElem_cons_zero, Act.put, List.setIfInBounds_toArray, List.set_cons_zero, List.set_cons_succ])
        clear hown hgrow
        have RA1_45 : Hid (x45.heap[k35]? = some (.cells #[] 88 (0, 0))) := (HG45.out.block _ (Array.getElem?_eq_some_iff.1 RA1_44.out).1 (fun c => by have e := Option.some.inj c; have e2 := HD10_36.out; omega)).trans RA1_44.out
        have RA2_45 : Hid (x45.heap[k44]? = some (.cells #[] 36 (0, 0))) := (HG45.out.block _ (Array.getElem?_eq_some_iff.1 RA2_44.out).1 (fun c => by have e := Option.some.inj c; have e2 := HD02_44.out; omega)).trans RA2_44.out
        refine held_stepS (i := 7) (by kernel_rfl) rfl (by rfl) ?_
        refine append_fls2 _ _ 24 rfl k35 i0 _ Try.underlying24 hi0 hz0 hz1 hz2 rfl _ _ [] S rfl (own_made0 RA1_45.out) rfl (HSV.out _ hS45).2.1 (by have := HLN.out; simp; omega) (Nat.le_of_lt (Array.getElem?_eq_some_iff.1 RA1_45.out).1) ?_
        intro v46 x46 hown hgrow
        obtain ⟨g46, c46, rfl⟩ := ownF_slice hown
        have HF1_46 : Hid (FlT x46 (.slice g46 S.length c46) S) := FlT.of_own (show x46.ownsRow k35 88 2 (.slice g46 S.length c46) S.length (flC S) by simpa using hown)
        have HG46 : Hid (x45.grownBy x46 (some k35)) := hgrow
        have hS46 := HSG.out _ _ k35 hS45 hgrow HK1.out
        refine ⟨hS46, ?_⟩
        (try simp only [List.getElem_toArray, List.getElem_cons_succ, List.getElem_cons_zero, Act.put, List.setIfInBounds_toArray, List.set_cons_zero, List.set_cons_succ])
        clear hown hgrow
        have HF0_46 := hidF (HF0_45.out.grown0 RA1_45.out HG46.out)
        have RA2_46 : Hid (x46.heap[k44]? = some (.cells #[] 36 (0, 0))) := (HG46.out.block _ (Array.getElem?_eq_some_iff.1 RA2_45.out).1 (fun c => by have e := Option.some.inj c; have e2 := HD12_44.out; omega)).trans RA2_45.out
        refine held_stepS (i := 11) (by kernel_rfl) rfl (by rfl) ?_
        refine append_dqs2 _ _ 25 rfl k44 j0 _ Try.underlying25 hj0 hy0 hy1 hy2 rfl _ _ [] O rfl (own_made0 RA2_46.out) rfl (HSV.out _ hS46).2.2 (by have := HLN.out; simp; omega) (Nat.le_of_lt (Array.getElem?_eq_some_iff.1 RA2_46.out).1) ?_
        intro v47 x47 hown hgrow
        obtain ⟨g47, c47, rfl⟩ := ownQ_slice hown
        have HF2_47 : Hid (x47.ownsRow k44 36 4 (.slice g47 O.length c47) O.length (dqC O)) := (show x47.ownsRow k44 36 4 (.slice g47 O.length c47) O.length (dqC O) by simpa using hown)
        have HG47 : Hid (x46.grownBy x47 (some k44)) := hgrow
        have hS47 := HSG.out _ _ k44 hS46 hgrow HK2.out
        refine ⟨hS47, ?_⟩
        (try simp only [List.getElem_toArray, List.getElem_cons_succ, List.getElem_cons_zero, Act.put, List.setIfInBounds_toArray, List.set_cons_zero, List.set_cons_succ])
        clear hown hgrow
        have HF0_47 := hidF (HF0_46.out.grown0 RA2_46.out HG47.out)
        have HF1_47 := hidF (HF1_46.out.grown0 RA2_46.out HG47.out)
        refine wpAnyH_take (i := 12) (v := .agg #[.slice g45 L.length c45, .slice g46 S.length c46, .slice g47 O.length c47]) rfl (by kernel_rfl) (by kernel_rfl) (by kernel_rfl) (fun _ _ _ h => h) (Or.inl ⟨by rfl, by intro w' hS';  go_simp <;> (first | omega | rfl | (rw [IntKind.wrap_i64]; omega))⟩) hS47 ?_
        (try simp only [List.getElem_toArray, List.getElem_cons_succ, List.getElem_cons_zero, Act.put, List.setIfInBounds_toArray, List.set_cons_zero, List.set_cons_succ])
        obtain ⟨hb7, _, p9, n9, m9, q9, r9, hz4⟩ := HSE.out _ hS47
        have HB9 : Hid (Below w.heap.size w (set3b x47 rk (.slice g45 L.length c45) (.slice g46 S.length c46) (.slice g47 O.length c47))) := ((hb7.setCell (p := ⟨rk, 0, none⟩) h3 _).setCell (p := ⟨rk, 1, none⟩) h3 _).setCell (p := ⟨rk, 2, none⟩) h3 _
        have HR9 : Hid ((set3b x47 rk (.slice g45 L.length c45) (.slice g46 S.length c46) (.slice g47 O.length c47)).heap[rk]? = some (.cells #[.slice g45 L.length c45, .slice g46 S.length c46, .slice g47 O.length c47] 27 (0, 0))) := heap_setCell_same _ _ _ _ _ _ (heap_setCell_same _ _ _ _ _ _ (heap_setCell_same _ _ _ _ _ _ hz4))
        have HO9 : Hid (FlT (set3b x47 rk (.slice g45 L.length c45) (.slice g46 S.length c46) (.slice g47 O.length c47)) (.slice g45 L.length c45) L ∧ FlT (set3b x47 rk (.slice g45 L.length c45) (.slice g46 S.length c46) (.slice g47 O.length c47)) (.slice g46 S.length c46) S ∧ (set3b x47 rk (.slice g45 L.length c45) (.slice g46 S.length c46) (.slice g47 O.length c47)).ownsRow w.heap.size 36 4 (.slice g47 O.length c47) O.length (dqC O)) := ⟨HF0_47.out.set3b hz4, HF1_47.out.set3b hz4, own_set3b (ownF_base HF2_47.out (by have := HK2.out; have := HBK.out; omega)) hz4 (by decide)⟩
        have z0 := cell_of_row _ _ 0 _ _ _ hz4
        have z1 := cell_of_row _ _ 1 _ _ _ hz4
        have z2 := cell_of_row _ _ 2 _ _ _ hz4
        have f0 := frozen_of_row _ _ 0 _ _ hz4
        have f1 := frozen_of_row _ _ 1 _ _ hz4
        have f2 := frozen_of_row _ _ 2 _ _ hz4
        clear hz4 hb7
        refine held_stepS (i := 13) (by kernel_rfl) rfl (by rfl) ?_
        go_simp
        refine ⟨HSB.out _ _ _ _ _ _ hS47, ?_⟩
        (try simp only [List.getElem_toArray, List.getElem_cons_succ, List.getElem_cons_zero, Act.put, List.setIfInBounds_toArray, List.set_cons_zero, List.set_cons_succ])
        clear hS47 HSX HSI HSE HSB HSG HSV z0 z1 z2 f0 f1 f2
        refine wpAnyH_done (by kernel_rfl) ?_ _
        go_wp2_with fail
        exact bodyPost_ret (results_cell_row rfl _ _ rk 27 #[.slice g45 L.length c45, .slice g46 S.length c46, .slice g47 O.length c47] (0, 0) _ rfl HR9.out Try.underlying27 rfl (by kernel_rfl)) rfl ⟨⟨_, _, _, rfl, HO9.out⟩, HB9.out⟩
    · go_simp
      have hS48 := HSI.out _ _ hS35 ((Below.refl _ _).alloc (Nat.le_refl _) (.cells #[] 36))
      have RA2_48 : Hid ((x35.alloc (.cells #[] 36)).heap[x35.heap.size]? = some (.cells #[] 36 (0, 0))) := heap_alloc_new _ _
      have HK2 : Hid (rk < x35.heap.size) := (HSE.out _ hS35).2.1
      have HB48 : Hid (Below x35.heap.size x35 (x35.alloc (.cells #[] 36))) := (Below.refl _ _).alloc (Nat.le_refl _) _
      refine ⟨hS48, ?_⟩
      (try simp only [List.getElem_toArray, List.getElem_cons_succ, List.getElem_cons_zero, Act.put, List.setIfInBounds_toArray, List.set_cons_zero, List.set_cons_succ])
      generalize hY : x35.alloc (.cells #[] 36) = x48 at hS48 RA2_48 HB48 ⊢
      clear hY
      obtain ⟨k48, hk⟩ : ∃ k48, k48 = x35.heap.size := ⟨_, rfl⟩
      have HE48 : Hid (k48 = x35.heap.size) := hk
      rw [← hk] at RA2_48 HK2 ⊢
      clear hk
      have RA1_48 : Hid (x48.heap[k35]? = some (.cells #[] 88 (0, 0))) := (HB48.out.block _ (Array.getElem?_eq_some_iff.1 RA1_35.out).1).trans RA1_35.out
      have HD12_48 : Hid (k35 ≠ k48) := by have := (Array.getElem?_eq_some_iff.1 RA1_35.out).1; have := HE48.out; show _ ≠ _; omega
      refine held_stepS (i := 0) (by kernel_rfl) rfl (by rfl) ?_
      go_simp
      have hS49 := HSI.out _ _ hS48 ((Below.refl _ _).alloc (Nat.le_refl _) (.cells #[] 88))
      have RA0_49 : Hid ((x48.alloc (.cells #[] 88)).heap[x48.heap.size]? = some (.cells #[] 88 (0, 0))) := heap_alloc_new _ _
      have HK0 : Hid (rk < x48.heap.size) := (HSE.out _ hS48).2.1
      have HB49 : Hid (Below x48.heap.size x48 (x48.alloc (.cells #[] 88))) := (Below.refl _ _).alloc (Nat.le_refl _) _
      refine ⟨hS49, ?_⟩
      (try simp only [List.getElem_toArray, List.getElem_cons_succ, List.getElem_cons_zero, Act.put, List.setIfInBounds_toArray, List.set_cons_zero, List.set_cons_succ])
      generalize hY : x48.alloc (.cells #[] 88) = x49 at hS49 RA0_49 HB49 ⊢
      clear hY
      obtain ⟨k49, hk⟩ : ∃ k49, k49 = x48.heap.size := ⟨_, rfl⟩
      have HE49 : Hid (k49 = x48.heap.size) := hk
      rw [← hk] at RA0_49 HK0 ⊢
      clear hk
      have RA1_49 : Hid (x49.heap[k35]? = some (.cells #[] 88 (0, 0))) := (HB49.out.block _ (Array.getElem?_eq_some_iff.1 RA1_48.out).1).trans RA1_48.out
      have HD10_49 : Hid (k35 ≠ k49) := by have := (Array.getElem?_eq_some_iff.1 RA1_48.out).1; have := HE49.out; show _ ≠ _; omega
      have RA2_49 : Hid (x49.heap[k48]? = some (.cells #[] 36 (0, 0))) := (HB49.out.block _ (Array.getElem?_eq_some_iff.1 RA2_48.out).1).trans RA2_48.out
      have HD20_49 : Hid (k48 ≠ k49) := by have := (Array.getElem?_eq_some_iff.1 RA2_48.out).1; have := HE49.out; show _ ≠ _; omega
      refine held_stepS (i := 3) (by kernel_rfl) rfl (by rfl) ?_
      refine append_fls2 _ _ 24 rfl k49 i0 _ Try.underlying24 hi0 hz0 hz1 hz2 rfl _ _ [] L rfl (own_made0 RA0_49.out) rfl (HSV.out _ hS49).1 (by have := HLN.out; simp; omega) (Nat.le_of_lt (Array.getElem?_eq_some_iff.1 RA0_49.out).1) ?_
      intro v50 x50 hown hgrow
      obtain ⟨g50, c50, rfl⟩ := ownF_slice hown
      have HF0_50 : Hid (FlT x50 (.slice g50 L.length c50) L) := FlT.of_own (show x50.ownsRow k49 88 2 (.slice g50 L.length c50) L.length (flC L) by simpa using hown)
      have HG50 : Hid (x49.grownBy x50 (some k49)) := hgrow
      have hS50 := HSG.out _ _ k49 hS49 hgrow HK0.out
      refine ⟨hS50, ?_⟩
      (try simp only [List.getElem_toArray, List.getElem_cons_succ, List.getElem_cons_zero, Act.put, List.setIfInBounds_toArray, List.set_cons_zero, List.set_cons_succ])
      clear hown hgrow
      have RA1_50 : Hid (x50.heap[k35]? = some (.cells #[] 88 (0, 0))) := (HG50.out.block _ (Array.getElem?_eq_some_iff.1 RA1_49.out).1 (fun c => by have e := Option.some.inj c; have e2 := HD10_49.out; omega)).trans RA1_49.out
      have RA2_50 : Hid (x50.heap[k48]? = some (.cells #[] 36 (0, 0))) := (HG50.out.block _ (Array.getElem?_eq_some_iff.1 RA2_49.out).1 (fun c => by have e := Option.some.inj c; have e2 := HD20_49.out; omega)).trans RA2_49.out
      refine held_stepS (i := 7) (by kernel_rfl) rfl (by rfl) ?_
      refine append_fls2 _ _ 24 rfl k35 i0 _ Try.underlying24 hi0 hz0 hz1 hz2 rfl _ _ [] S rfl (own_made0 RA1_50.out) rfl (HSV.out _ hS50).2.1 (by have := HLN.out; simp; omega) (Nat.le_of_lt (Array.getElem?_eq_some_iff.1 RA1_50.out).1) ?_
      intro v51 x51 hown hgrow
      obtain ⟨g51, c51, rfl⟩ := ownF_slice hown
      have HF1_51 : Hid (FlT x51 (.slice g51 S.length c51) S) := FlT.of_own (show x51.ownsRow k35 88 2 (.slice g51 S.length c51) S.length (flC S) by simpa using hown)
      have HG51 : Hid (x50.grownBy x51 (some k35)) := hgrow
      have hS51 := HSG.out _ _ k35 hS50 hgrow HK1.out
      refine ⟨hS51, ?_⟩
      (try simp only [List.getElem_toArray, List.getElem_cons_succ, List.getElem_cons_zero, Act.put, List.setIfInBounds_toArray, List.set_cons_zero, List.set_cons_succ])
      clear hown hgrow
      have HF0_51 := hidF (HF0_50.out.grown0 RA1_50.out HG51.out)
      have RA2_51 : Hid (x51.heap[k48]? = some (.cells #[] 36 (0, 0))) := (HG51.out.block _ (Array.getElem?_eq_some_iff.1 RA2_50.out).1 (fun c => by have e := Option.some.inj c; have e2 := HD12_48.out; omega)).trans RA2_50.out
      refine held_stepS (i := 11) (by kernel_rfl) rfl (by rfl) ?_
      refine append_dqs2 _ _ 25 rfl k48 j0 _ Try.underlying25 hj0 hy0 hy1 hy2 rfl _ _ [] O rfl (own_made0 RA2_51.out) rfl (HSV.out _ hS51).2.2 (by have := HLN.out; simp; omega) (Nat.le_of_lt (Array.getElem?_eq_some_iff.1 RA2_51.out).1) ?_
      intro v52 x52 hown hgrow
      obtain ⟨g52, c52, rfl⟩ := ownQ_slice hown
      have HF2_52 : Hid (x52.ownsRow k48 36 4 (.slice g52 O.length c52) O.length (dqC O)) := (show x52.ownsRow k48 36 4 (.slice g52 O.length c52) O.length (dqC O) by simpa using hown)
      have HG52 : Hid (x51.grownBy x52 (some k48)) := hgrow
      have hS52 := HSG.out _ _ k48 hS51 hgrow HK2.out
      refine ⟨hS52, ?_⟩
      (try simp only [List.getElem_toArray, List.getElem_cons_succ, List.getElem_cons_zero, Act.put, List.setIfInBounds_toArray, List.set_cons_zero, List.set_cons_succ])
      clear hown hgrow
      have HF0_52 := hidF (HF0_51.out.grown0 RA2_51.out HG52.out)
      have HF1_52 := hidF (HF1_51.out.grown0 RA2_51.out HG52.out)
      refine wpAnyH_take (i := 12) (v := .agg #[.slice g50 L.length c50, .slice g51 S.length c51, .slice g52 O.length c52]) rfl (by kernel_rfl) (by kernel_rfl) (by kernel_rfl) (fun _ _ _ h => h) (Or.inl ⟨by rfl, by intro w' hS';  go_simp <;> (first | omega | rfl | (rw [IntKind.wrap_i64]; omega))⟩) hS52 ?_
      (try simp only [List.getElem_toArray, List.getElem_cons_succ, List.getElem_cons_zero, Act.put, List.setIfInBounds_toArray, List.set_cons_zero, List.set_cons_succ])
      obtain ⟨hb7, _, p9, n9, m9, q9, r9, hz4⟩ := HSE.out _ hS52
      have HB9 : Hid (Below w.heap.size w (set3b x52 rk (.slice g50 L.length c50) (.slice g51 S.length c51) (.slice g52 O.length c52))) := ((hb7.setCell (p := ⟨rk, 0, none⟩) h3 _).setCell (p := ⟨rk, 1, none⟩) h3 _).setCell (p := ⟨rk, 2, none⟩) h3 _
      have HR9 : Hid ((set3b x52 rk (.slice g50 L.length c50) (.slice g51 S.length c51) (.slice g52 O.length c52)).heap[rk]? = some (.cells #[.slice g50 L.length c50, .slice g51 S.length c51, .slice g52 O.length c52] 27 (0, 0))) := heap_setCell_same _ _ _ _ _ _ (heap_setCell_same _ _ _ _ _ _ (heap_setCell_same _ _ _ _ _ _ hz4))
      have HO9 : Hid (FlT (set3b x52 rk (.slice g50 L.length c50) (.slice g51 S.length c51) (.slice g52 O.length c52)) (.slice g50 L.length c50) L ∧ FlT (set3b x52 rk (.slice g50 L.length c50) (.slice g51 S.length c51) (.slice g52 O.length c52)) (.slice g51 S.length c51) S ∧ (set3b x52 rk (.slice g50 L.length c50) (.slice g51 S.length c51) (.slice g52 O.length c52)).ownsRow w.heap.size 36 4 (.slice g52 O.length c52) O.length (dqC O)) := ⟨HF0_52.out.set3b hz4, HF1_52.out.set3b hz4, own_set3b (ownF_base HF2_52.out (by have := HK2.out; have := HBK.out; omega)) hz4 (by decide)⟩
      have z0 := cell_of_row _ _ 0 _ _ _ hz4
      have z1 := cell_of_row _ _ 1 _ _ _ hz4
      have z2 := cell_of_row _ _ 2 _ _ _ hz4
      have f0 := frozen_of_row _ _ 0 _ _ hz4
      have f1 := frozen_of_row _ _ 1 _ _ hz4
      have f2 := frozen_of_row _ _ 2 _ _ hz4
      clear hz4 hb7
      refine held_stepS (i := 13) (by kernel_rfl) rfl (by rfl) ?_
      go_simp
      refine ⟨HSB.out _ _ _ _ _ _ hS52, ?_⟩
      (try simp only [List.getElem_toArray, List.getElem_cons_succ, List.getElem_cons_zero, Act.put, List.setIfInBounds_toArray, List.set_cons_zero, List.set_cons_succ])
      clear hS52 HSX HSI HSE HSB HSG HSV z0 z1 z2 f0 f1 f2
      refine wpAnyH_done (by kernel_rfl) ?_ _
      go_wp2_with fail
      exact bodyPost_ret (results_cell_row rfl _ _ rk 27 #[.slice g50 L.length c50, .slice g51 S.length c51, .slice g52 O.length c52] (0, 0) _ rfl HR9.out Try.underlying27 rfl (by kernel_rfl)) rfl ⟨⟨_, _, _, rfl, HO9.out⟩, HB9.out⟩
  · go_simp
    have hS53 := HSI.out _ _ hSd ((Below.refl _ _).alloc (Nat.le_refl _) (.cells #[] 36))
    have RA2_53 : Hid ((X0.alloc (.cells #[] 36)).heap[X0.heap.size]? = some (.cells #[] 36 (0, 0))) := heap_alloc_new _ _
    have HK2 : Hid (rk < X0.heap.size) := (HSE.out _ hSd).2.1
    have HB53 : Hid (Below X0.heap.size X0 (X0.alloc (.cells #[] 36))) := (Below.refl _ _).alloc (Nat.le_refl _) _
    refine ⟨hS53, ?_⟩
    (try simp only [List.getElem_toArray, List.getElem_cons_succ, List.getElem_cons_zero, Act.put, List.setIfInBounds_toArray, List.set_cons_zero, List.set_cons_succ])
    generalize hY : X0.alloc (.cells #[] 36) = x53 at hS53 RA2_53 HB53 ⊢
    clear hY
    obtain ⟨k53, hk⟩ : ∃ k53, k53 = X0.heap.size := ⟨_, rfl⟩
    have HE53 : Hid (k53 = X0.heap.size) := hk
    rw [← hk] at RA2_53 HK2 ⊢
    clear hk
    refine held_two (i := 0) (k := 4) (by kernel_rfl) rfl rfl (by rfl) (by rfl) ?_ ?_
    · go_simp
      have hS54 := HSI.out _ _ hS53 ((Below.refl _ _).alloc (Nat.le_refl _) (.cells #[] 88))
      have RA0_54 : Hid ((x53.alloc (.cells #[] 88)).heap[x53.heap.size]? = some (.cells #[] 88 (0, 0))) := heap_alloc_new _ _
      have HK0 : Hid (rk < x53.heap.size) := (HSE.out _ hS53).2.1
      have HB54 : Hid (Below x53.heap.size x53 (x53.alloc (.cells #[] 88))) := (Below.refl _ _).alloc (Nat.le_refl _) _
      refine ⟨hS54, ?_⟩
      (try simp only [List.getElem_toArray, List.getElem_cons_succ, List.getElem_cons_zero, Act.put, List.setIfInBounds_toArray, List.set_cons_zero, List.set_cons_succ])
      generalize hY : x53.alloc (.cells #[] 88) = x54 at hS54 RA0_54 HB54 ⊢
      clear hY
      obtain ⟨k54, hk⟩ : ∃ k54, k54 = x53.heap.size := ⟨_, rfl⟩
      have HE54 : Hid (k54 = x53.heap.size) := hk
      rw [← hk] at RA0_54 HK0 ⊢
      clear hk
      have RA2_54 : Hid (x54.heap[k53]? = some (.cells #[] 36 (0, 0))) := (HB54.out.block _ (Array.getElem?_eq_some_iff.1 RA2_53.out).1).trans RA2_53.out
      have HD20_54 : Hid (k53 ≠ k54) := by have := (Array.getElem?_eq_some_iff.1 RA2_53.out).1; have := HE54.out; show _ ≠ _; omega
      refine held_two (i := 3) (k := 4) (by kernel_rfl) rfl rfl (by rfl) (by rfl) ?_ ?_
      · refine append_fls2 _ _ 24 rfl k54 i0 _ Try.underlying24 hi0 hz0 hz1 hz2 rfl _ _ [] L rfl (own_made0 RA0_54.out) rfl (HSV.out _ hS54).1 (by have := HLN.out; simp; omega) (Nat.le_of_lt (Array.getElem?_eq_some_iff.1 RA0_54.out).1) ?_
        intro v55 x55 hown hgrow
        obtain ⟨g55, c55, rfl⟩ := ownF_slice hown
        have HF0_55 : Hid (FlT x55 (.slice g55 L.length c55) L) := FlT.of_own (show x55.ownsRow k54 88 2 (.slice g55 L.length c55) L.length (flC L) by simpa using hown)
        have HG55 : Hid (x54.grownBy x55 (some k54)) := hgrow
        have hS55 := HSG.out _ _ k54 hS54 hgrow HK0.out
        refine ⟨hS55, ?_⟩
        (try simp only [List.getElem_toArray, List.getElem_cons_succ, List.getElem_cons_zero, Act.put, List.setIfInBounds_toArray, List.set_cons_zero, List.set_cons_succ])
        clear hown hgrow
        have RA2_55 : Hid (x55.heap[k53]? = some (.cells #[] 36 (0, 0))) := (HG55.out.block _ (Array.getElem?_eq_some_iff.1 RA2_54.out).1 (fun c => by have e := Option.some.inj c; have e2 := HD20_54.out; omega)).trans RA2_54.out
        refine held_stepS (i := 4) (by kernel_rfl) rfl (by rfl) ?_
        go_simp
        have hS56 := HSI.out _ _ hS55 ((Below.refl _ _).alloc (Nat.le_refl _) (.cells #[] 88))
        have RA1_56 : Hid ((x55.alloc (.cells #[] 88)).heap[x55.heap.size]? = some (.cells #[] 88 (0, 0))) := heap_alloc_new _ _
        have HK1 : Hid (rk < x55.heap.size) := (HSE.out _ hS55).2.1
        have HB56 : Hid (Below x55.heap.size x55 (x55.alloc (.cells #[] 88))) := (Below.refl _ _).alloc (Nat.le_refl _) _
        refine ⟨hS56, ?_⟩
        (try simp only [List.getElem_toArray, List.getElem_cons_succ, List.getElem_cons_zero, Act.put, List.setIfInBounds_toArray, List.set_cons_zero, List.set_cons_succ])
        generalize hY : x55.alloc (.cells #[] 88) = x56 at hS56 RA1_56 HB56 ⊢
        clear hY
        obtain ⟨k56, hk⟩ : ∃ k56, k56 = x55.heap.size := ⟨_, rfl⟩
        have HE56 : Hid (k56 = x55.heap.size) := hk
        rw [← hk] at RA1_56 HK1 ⊢
        clear hk
        have HF0_56 := hidF (HF0_55.out.below HB56.out)
        have RA2_56 : Hid (x56.heap[k53]? = some (.cells #[] 36 (0, 0))) := (HB56.out.block _ (Array.getElem?_eq_some_iff.1 RA2_55.out).1).trans RA2_55.out
        have HD21_56 : Hid (k53 ≠ k56) := by have := (Array.getElem?_eq_some_iff.1 RA2_55.out).1; have := HE56.out; show _ ≠ _; omega
        refine held_stepS (i := 7) (by kernel_rfl) rfl (by rfl) ?_
        refine append_fls2 _ _ 24 rfl k56 i0 _ Try.underlying24 hi0 hz0 hz1 hz2 rfl _ _ [] S rfl (own_made0 RA1_56.out) rfl (HSV.out _ hS56).2.1 (by have := HLN.out; simp; omega) (Nat.le_of_lt (Array.getElem?_eq_some_iff.1 RA1_56.out).1) ?_
        intro v57 x57 hown hgrow
        obtain ⟨g57, c57, rfl⟩ := ownF_slice hown
        have HF1_57 : Hid (FlT x57 (.slice g57 S.length c57) S) := FlT.of_own (show x57.ownsRow k56 88 2 (.slice g57 S.length c57) S.length (flC S) by simpa using hown)
        have HG57 : Hid (x56.grownBy x57 (some k56)) := hgrow
        have hS57 := HSG.out _ _ k56 hS56 hgrow HK1.out
        refine ⟨hS57, ?_⟩
        (try simp only [List.getElem_toArray, List.getElem_cons_succ, List.getElem_cons_zero, Act.put, List.setIfInBounds_toArray, List.set_cons_zero, List.set_cons_succ])
        clear hown hgrow
        have HF0_57 := hidF (HF0_56.out.grown0 RA1_56.out HG57.out)
        have RA2_57 : Hid (x57.heap[k53]? = some (.cells #[] 36 (0, 0))) := (HG57.out.block _ (Array.getElem?_eq_some_iff.1 RA2_56.out).1 (fun c => by have e := Option.some.inj c; have e2 := HD21_56.out; omega)).trans RA2_56.out
        refine held_stepS (i := 11) (by kernel_rfl) rfl (by rfl) ?_
        refine append_dqs2 _ _ 25 rfl k53 j0 _ Try.underlying25 hj0 hy0 hy1 hy2 rfl _ _ [] O rfl (own_made0 RA2_57.out) rfl (HSV.out _ hS57).2.2 (by have := HLN.out; simp; omega) (Nat.le_of_lt (Array.getElem?_eq_some_iff.1 RA2_57.out).1) ?_
        intro v58 x58 hown hgrow
        obtain ⟨g58, c58, rfl⟩ := ownQ_slice hown
        have HF2_58 : Hid (x58.ownsRow k53 36 4 (.slice g58 O.length c58) O.length (dqC O)) := (show x58.ownsRow k53 36 4 (.slice g58 O.length c58) O.length (dqC O) by simpa using hown)
        have HG58 : Hid (x57.grownBy x58 (some k53)) := hgrow
        have hS58 := HSG.out _ _ k53 hS57 hgrow HK2.out
        refine ⟨hS58, ?_⟩
        (try simp only [List.getElem_toArray, List.getElem_cons_succ, List.getElem_cons_zero, Act.put, List.setIfInBounds_toArray, List.set_cons_zero, List.set_cons_succ])
        clear hown hgrow
        have HF0_58 := hidF (HF0_57.out.grown0 RA2_57.out HG58.out)
        have HF1_58 := hidF (HF1_57.out.grown0 RA2_57.out HG58.out)
        refine wpAnyH_take (i := 12) (v := .agg #[.slice g55 L.length c55, .slice g57 S.length c57, .slice g58 O.length c58]) rfl (by kernel_rfl) (by kernel_rfl) (by kernel_rfl) (fun _ _ _ h => h) (Or.inl ⟨by rfl, by intro w' hS';  go_simp <;> (first | omega | rfl | (rw [IntKind.wrap_i64]; omega))⟩) hS58 ?_
        (try simp only [List.getElem_toArray, List.getElem_cons_succ, List.getElem_cons_zero, Act.put, List.setIfInBounds_toArray, List.set_cons_zero, List.set_cons_succ])
        obtain ⟨hb7, _, p9, n9, m9, q9, r9, hz4⟩ := HSE.out _ hS58
        have HB9 : Hid (Below w.heap.size w (set3b x58 rk (.slice g55 L.length c55) (.slice g57 S.length c57) (.slice g58 O.length c58))) := ((hb7.setCell (p := ⟨rk, 0, none⟩) h3 _).setCell (p := ⟨rk, 1, none⟩) h3 _).setCell (p := ⟨rk, 2, none⟩) h3 _
        have HR9 : Hid ((set3b x58 rk (.slice g55 L.length c55) (.slice g57 S.length c57) (.slice g58 O.length c58)).heap[rk]? = some (.cells #[.slice g55 L.length c55, .slice g57 S.length c57, .slice g58 O.length c58] 27 (0, 0))) := heap_setCell_same _ _ _ _ _ _ (heap_setCell_same _ _ _ _ _ _ (heap_setCell_same _ _ _ _ _ _ hz4))
        have HO9 : Hid (FlT (set3b x58 rk (.slice g55 L.length c55) (.slice g57 S.length c57) (.slice g58 O.length c58)) (.slice g55 L.length c55) L ∧ FlT (set3b x58 rk (.slice g55 L.length c55) (.slice g57 S.length c57) (.slice g58 O.length c58)) (.slice g57 S.length c57) S ∧ (set3b x58 rk (.slice g55 L.length c55) (.slice g57 S.length c57) (.slice g58 O.length c58)).ownsRow w.heap.size 36 4 (.slice g58 O.length c58) O.length (dqC O)) := ⟨HF0_58.out.set3b hz4, HF1_58.out.set3b hz4, own_set3b (ownF_base HF2_58.out (by have := HK2.out; have := HBK.out; omega)) hz4 (by decide)⟩
        have z0 := cell_of_row _ _ 0 _ _ _ hz4
        have z1 := cell_of_row _ _ 1 _ _ _ hz4
        have z2 := cell_of_row _ _ 2 _ _ _ hz4
        have f0 := frozen_of_row _ _ 0 _ _ hz4
        have f1 := frozen_of_row _ _ 1 _ _ hz4
        have f2 := frozen_of_row _ _ 2 _ _ hz4
        clear hz4 hb7
        refine held_stepS (i := 13) (by kernel_rfl) rfl (by rfl) ?_
        go_simp
        refine ⟨HSB.out _ _ _ _ _ _ hS58, ?_⟩
        (try simp only [List.getElem_toArray, List.getElem_cons_succ, List.getElem_cons_zero, Act.put, List.setIfInBounds_toArray, List.set_cons_zero, List.set_cons_succ])
        clear hS58 HSX HSI HSE HSB HSG HSV z0 z1 z2 f0 f1 f2
        refine wpAnyH_done (by kernel_rfl) ?_ _
        go_wp2_with fail
        exact bodyPost_ret (results_cell_row rfl _ _ rk 27 #[.slice g55 L.length c55, .slice g57 S.length c57, .slice g58 O.length c58] (0, 0) _ rfl HR9.out Try.underlying27 rfl (by kernel_rfl)) rfl ⟨⟨_, _, _, rfl, HO9.out⟩, HB9.out⟩
      · go_simp
        have hS59 := HSI.out _ _ hS54 ((Below.refl _ _).alloc (Nat.le_refl _) (.cells #[] 88))
        have RA1_59 : Hid ((x54.alloc (.cells #[] 88)).heap[x54.heap.size]? = some (.cells #[] 88 (0, 0))) := heap_alloc_new _ _
        have HK1 : Hid (rk < x54.heap.size) := (HSE.out _ hS54).2.1
        have HB59 : Hid (Below x54.heap.size x54 (x54.alloc (.cells #[] 88))) := (Below.refl _ _).alloc (Nat.le_refl _) _
        refine ⟨hS59, ?_⟩
        (try simp only [List.getElem_toArray, List.getElem_cons_succ, List.getElem_cons_zero, Act.put, List.setIfInBounds_toArray, List.set_cons_zero, List.set_cons_succ])
        generalize hY : x54.alloc (.cells #[] 88) = x59 at hS59 RA1_59 HB59 ⊢
        clear hY
        obtain ⟨k59, hk⟩ : ∃ k59, k59 = x54.heap.size := ⟨_, rfl⟩
        have HE59 : Hid (k59 = x54.heap.size) := hk
        rw [← hk] at RA1_59 HK1 ⊢
        clear hk
        have RA0_59 : Hid (x59.heap[k54]? = some (.cells #[] 88 (0, 0))) := (HB59.out.block _ (Array.getElem?_eq_some_iff.1 RA0_54.out).1).trans RA0_54.out
        have HD01_59 : Hid (k54 ≠ k59) := by have := (Array.getElem?_eq_some_iff.1 RA0_54.out).1; have := HE59.out; show _ ≠ _; omega
        have RA2_59 : Hid (x59.heap[k53]? = some (.cells #[] 36 (0, 0))) := (HB59.out.block _ (Array.getElem?_eq_some_iff.1 RA2_54.out).1).trans RA2_54.out
        have HD21_59 : Hid (k53 ≠ k59) := by have := (Array.getElem?_eq_some_iff.1 RA2_54.out).1; have := HE59.out; show _ ≠ _; omega
        refine held_stepS (i := 3) (by kernel_rfl) rfl (by rfl) ?_
        refine append_fls2 _ _ 24 rfl k54 i0 _ Try.underlying24 hi0 hz0 hz1 hz2 rfl _ _ [] L rfl (own_made0 RA0_59.out) rfl (HSV.out _ hS59).1 (by have := HLN.out; simp; omega) (Nat.le_of_lt (Array.getElem?_eq_some_iff.1 RA0_59.out).1) ?_
        intro v60 x60 hown hgrow
        obtain ⟨g60, c60, rfl⟩ := ownF_slice hown
        have HF0_60 : Hid (FlT x60 (.slice g60 L.length c60) L) := FlT.of_own (show x60.ownsRow k54 88 2 (.slice g60 L.length c60) L.length (flC L) by simpa using hown)
        have HG60 : Hid (x59.grownBy x60 (some k54)) := hgrow
        have hS60 := HSG.out _ _ k54 hS59 hgrow HK0.out
        refine ⟨hS60, ?_⟩
        (try simp only [List.getElem_toArray, List.getElem_cons_succ, List.getElem_cons_zero, Act.put, List.setIfInBounds_toArray, List.set_cons_zero, List.set_cons_succ])
        clear hown hgrow
        have RA1_60 : Hid (x60.heap[k59]? = some (.cells #[] 88 (0, 0))) := (HG60.out.block _ (Array.getElem?_eq_some_iff.1 RA1_59.out).1 (fun c => by have e := Option.some.inj c; have e2 := HD01_59.out; omega)).trans RA1_59.out
        have RA2_60 : Hid (x60.heap[k53]? = some (.cells #[] 36 (0, 0))) := (HG60.out.block _ (Array.getElem?_eq_some_iff.1 RA2_59.out).1 (fun c => by have e := Option.some.inj c; have e2 := HD20_54.out; omega)).trans RA2_59.out
        refine held_stepS (i := 7) (by kernel_rfl) rfl (by rfl) ?_
        refine append_fls2 _ _ 24 rfl k59 i0 _ Try.underlying24 hi0 hz0 hz1 hz2 rfl _ _ [] S rfl (own_made0 RA1_60.out) rfl (HSV.out _ hS60).2.1 (by have := HLN.out; simp; omega) (Nat.le_of_lt (Array.getElem?_eq_some_iff.1 RA1_60.out).1) ?_
        intro v61 x61 hown hgrow
        obtain ⟨g61, c61, rfl⟩ := ownF_slice hown
        have HF1_61 : Hid (FlT x61 (.slice g61 S.length c61) S) := FlT.of_own (show x61.ownsRow k59 88 2 (.slice g61 S.length c61) S.length (flC S) by simpa using hown)
        have HG61 : Hid (x60.grownBy x61 (some k59)) := hgrow
        have hS61 := HSG.out _ _ k59 hS60 hgrow HK1.out
        refine ⟨hS61, ?_⟩
        (try simp only [List.getElem_toArray, List.getElem_cons_succ, List.getElem_cons_zero, Act.put, List.setIfInBounds_toArray, List.set_cons_zero, List.set_cons_succ])
        clear hown hgrow
        have HF0_61 := hidF (HF0_60.out.grown0 RA1_60.out HG61.out)
        have RA2_61 : Hid (x61.heap[k53]? = some (.cells #[] 36 (0, 0))) := (HG61.out.block _ (Array.getElem?_eq_some_iff.1 RA2_60.out).1 (fun c => by have e := Option.some.inj c; have e2 := HD21_59.out; omega)).trans RA2_60.out
        refine held_stepS (i := 11) (by kernel_rfl) rfl (by rfl) ?_
        refine append_dqs2 _ _ 25 rfl k53 j0 _ Try.underlying25 hj0 hy0 hy1 hy2 rfl _ _ [] O rfl (own_made0 RA2_61.out) rfl (HSV.out _ hS61).2.2 (by have := HLN.out; simp; omega) (Nat.le_of_lt (Array.getElem?_eq_some_iff.1 RA2_61.out).1) ?_
        intro v62 x62 hown hgrow
        obtain ⟨g62, c62, rfl⟩ := ownQ_slice hown
        have HF2_62 : Hid (x62.ownsRow k53 36 4 (.slice g62 O.length c62) O.length (dqC O)) := (show x62.ownsRow k53 36 4 (.slice g62 O.length c62) O.length (dqC O) by simpa using hown)
        have HG62 : Hid (x61.grownBy x62 (some k53)) := hgrow
        have hS62 := HSG.out _ _ k53 hS61 hgrow HK2.out
        refine ⟨hS62, ?_⟩
        (try simp only [List.getElem_toArray, List.getElem_cons_succ, List.getElem_cons_zero, Act.put, List.setIfInBounds_toArray, List.set_cons_zero, List.set_cons_succ])
        clear hown hgrow
        have HF0_62 := hidF (HF0_61.out.grown0 RA2_61.out HG62.out)
        have HF1_62 := hidF (HF1_61.out.grown0 RA2_61.out HG62.out)
        refine wpAnyH_take (i := 12) (v := .agg #[.slice g60 L.length c60, .slice g61 S.length c61, .slice g62 O.length c62]) rfl (by kernel_rfl) (by kernel_rfl) (by kernel_rfl) (fun _ _ _ h => h) (Or.inl ⟨by rfl, by intro w' hS';  go_simp <;> (first | omega | rfl | (rw [IntKind.wrap_i64]; omega))⟩) hS62 ?_
        (try simp only [List.getElem_toArray, List.getElem_cons_succ, List.getElem_cons_zero, Act.put, List.setIfInBounds_toArray, List.set_cons_zero, List.set_cons_succ])
        obtain ⟨hb7, _, p9, n9, m9, q9, r9, hz4⟩ := HSE.out _ hS62
        have HB9 : Hid (Below w.heap.size w (set3b x62 rk (.slice g60 L.length c60) (.slice g61 S.length c61) (.slice g62 O.length c62))) := ((hb7.setCell (p := ⟨rk, 0, none⟩) h3 _).setCell (p := ⟨rk, 1, none⟩) h3 _).setCell (p := ⟨rk, 2, none⟩) h3 _
        have HR9 : Hid ((set3b x62 rk (.slice g60 L.length c60) (.slice g61 S.length c61) (.slice g62 O.length c62)).heap[rk]? = some (.cells #[.slice g60 L.length c60, .slice g61 S.length c61, .slice g62 O.length c62] 27 (0, 0))) := heap_setCell_same _ _ _ _ _ _ (heap_setCell_same _ _ _ _ _ _ (heap_setCell_same _ _ _ _ _ _ hz4))
        have HO9 : Hid (FlT (set3b x62 rk (.slice g60 L.length c60) (.slice g61 S.length c61) (.slice g62 O.length c62)) (.slice g60 L.length c60) L ∧ FlT (set3b x62 rk (.slice g60 L.length c60) (.slice g61 S.length c61) (.slice g62 O.length c62)) (.slice g61 S.length c61) S ∧ (set3b x62 rk (.slice g60 L.length c60) (.slice g61 S.length c61) (.slice g62 O.length c62)).ownsRow w.heap.size 36 4 (.slice g62 O.length c62) O.length (dqC O)) := ⟨HF0_62.out.set3b hz4, HF1_62.out.set3b hz4, own_set3b (ownF_base HF2_62.out (by have := HK2.out; have := HBK.out; omega)) hz4 (by decide)⟩
        have z0 := cell_of_row _ _ 0 _ _ _ hz4
        have z1 := cell_of_row _ _ 1 _ _ _ hz4
        have z2 := cell_of_row _ _ 2 _ _ _ hz4
        have f0 := frozen_of_row _ _ 0 _ _ hz4
        have f1 := frozen_of_row _ _ 1 _ _ hz4
        have f2 := frozen_of_row _ _ 2 _ _ hz4
        clear hz4 hb7
        refine held_stepS (i := 13) (by kernel_rfl) rfl (by rfl) ?_
        go_simp
        refine ⟨HSB.out _ _ _ _ _ _ hS62, ?_⟩
        (try simp only [List.getElem_toArray, List.getElem_cons_succ, List.getElem_cons_zero, Act.put, List.setIfInBounds_toArray, List.set_cons_zero, List.set_cons_succ])
        clear hS62 HSX HSI HSE HSB HSG HSV z0 z1 z2 f0 f1 f2
        refine wpAnyH_done (by kernel_rfl) ?_ _
        go_wp2_with fail
        exact bodyPost_ret (results_cell_row rfl _ _ rk 27 #[.slice g60 L.length c60, .slice g61 S.length c61, .slice g62 O.length c62] (0, 0) _ rfl HR9.out Try.underlying27 rfl (by kernel_rfl)) rfl ⟨⟨_, _, _, rfl, HO9.out⟩, HB9.out⟩
    · go_simp
      have hS63 := HSI.out _ _ hS53 ((Below.refl _ _).alloc (Nat.le_refl _) (.cells #[] 88))
      have RA1_63 : Hid ((x53.alloc (.cells #[] 88)).heap[x53.heap.size]? = some (.cells #[] 88 (0, 0))) := heap_alloc_new _ _
      have HK1 : Hid (rk < x53.heap.size) := (HSE.out _ hS53).2.1
      have HB63 : Hid (Below x53.heap.size x53 (x53.alloc (.cells #[] 88))) := (Below.refl _ _).alloc (Nat.le_refl _) _
      refine ⟨hS63, ?_⟩
      (try simp only [List.getElem_toArray, List.getElem_cons_succ, List.getElem_cons_zero, Act.put, List.setIfInBounds_toArray, List.set_cons_zero, List.set_cons_succ])
      generalize hY : x53.alloc (.cells #[] 88) = x63 at hS63 RA1_63 HB63 ⊢
      clear hY
      obtain ⟨k63, hk⟩ : ∃ k63, k63 = x53.heap.size := ⟨_, rfl⟩
      have HE63 : Hid (k63 = x53.heap.size) := hk
      rw [← hk] at RA1_63 HK1 ⊢
      clear hk
      have RA2_63 : Hid (x63.heap[k53]? = some (.cells #[] 36 (0, 0))) := (HB63.out.block _ (Array.getElem?_eq_some_iff.1 RA2_53.out).1).trans RA2_53.out
      have HD21_63 : Hid (k53 ≠ k63) := by have := (Array.getElem?_eq_some_iff.1 RA2_53.out).1; have := HE63.out; show _ ≠ _; omega
      refine held_stepS (i := 0) (by kernel_rfl) rfl (by rfl) ?_
      go_simp
      have hS64 := HSI.out _ _ hS63 ((Below.refl _ _).alloc (Nat.le_refl _) (.cells #[] 88))
      have RA0_64 : Hid ((x63.alloc (.cells #[] 88)).heap[x63.heap.size]? = some (.cells #[] 88 (0, 0))) := heap_alloc_new _ _
      have HK0 : Hid (rk < x63.heap.size) := (HSE.out _ hS63).2.1
      have HB64 : Hid (Below x63.heap.size x63 (x63.alloc (.cells #[] 88))) := (Below.refl _ _).alloc (Nat.le_refl _) _
      refine ⟨hS64, ?_⟩
      (try simp only [List.getElem_toArray, List.getElem_cons_succ, List.getElem_cons_zero, Act.put, List.setIfInBounds_toArray, List.set_cons_zero, List.set_cons_succ])
      generalize hY : x63.alloc (.cells #[] 88) = x64 at hS64 RA0_64 HB64 ⊢
      clear hY
      obtain ⟨k64, hk⟩ : ∃ k64, k64 = x63.heap.size := ⟨_, rfl⟩
      have HE64 : Hid (k64 = x63.heap.size) := hk
      rw [← hk] at RA0_64 HK0 ⊢
      clear hk
      have RA1_64 : Hid (x64.heap[k63]? = some (.cells #[] 88 (0, 0))) := (HB64.out.block _ (Array.getElem?_eq_some_iff.1 RA1_63.out).1).trans RA1_63.out
      have HD10_64 : Hid (k63 ≠ k64) := by have := (Array.getElem?_eq_some_iff.1 RA1_63.out).1; have := HE64.out; show _ ≠ _; omega
      have RA2_64 : Hid (x64.heap[k53]? = some (.cells #[] 36 (0, 0))) := (HB64.out.block _ (Array.getElem?_eq_some_iff.1 RA2_63.out).1).trans RA2_63.out
      have HD20_64 : Hid (k53 ≠ k64) := by have := (Array.getElem?_eq_some_iff.1 RA2_63.out).1; have := HE64.out; show _ ≠ _; omega
      refine held_stepS (i := 3) (by kernel_rfl) rfl (by rfl) ?_
      refine append_fls2 _ _ 24 rfl k64 i0 _ Try.underlying24 hi0 hz0 hz1 hz2 rfl _ _ [] L rfl (own_made0 RA0_64.out) rfl (HSV.out _ hS64).1 (by have := HLN.out; simp; omega) (Nat.le_of_lt (Array.getElem?_eq_some_iff.1 RA0_64.out).1) ?_
      intro v65 x65 hown hgrow
      obtain ⟨g65, c65, rfl⟩ := ownF_slice hown
      have HF0_65 : Hid (FlT x65 (.slice g65 L.length c65) L) := FlT.of_own (show x65.ownsRow k64 88 2 (.slice g65 L.length c65) L.length (flC L) by simpa using hown)
      have HG65 : Hid (x64.grownBy x65 (some k64)) := hgrow
      have hS65 := HSG.out _ _ k64 hS64 hgrow HK0.out
      refine ⟨hS65, ?_⟩
      (try simp only [List.getElem_toArray, List.getElem_cons_succ, List.getElem_cons_zero, Act.put, List.setIfInBounds_toArray, List.set_cons_zero, List.set_cons_succ])
      clear hown hgrow
      have RA1_65 : Hid (x65.heap[k63]? = some (.cells #[] 88 (0, 0))) := (HG65.out.block _ (Array.getElem?_eq_some_iff.1 RA1_64.out).1 (fun c => by have e := Option.some.inj c; have e2 := HD10_64.out; omega)).trans RA1_64.out
      have RA2_65 : Hid (x65.heap[k53]? = some (.cells #[] 36 (0, 0))) := (HG65.out.block _ (Array.getElem?_eq_some_iff.1 RA2_64.out).1 (fun c => by have e := Option.some.inj c; have e2 := HD20_64.out; omega)).trans RA2_64.out
      refine held_stepS (i := 7) (by kernel_rfl) rfl (by rfl) ?_
      refine append_fls2 _ _ 24 rfl k63 i0 _ Try.underlying24 hi0 hz0 hz1 hz2 rfl _ _ [] S rfl (own_made0 RA1_65.out) rfl (HSV.out _ hS65).2.1 (by have := HLN.out; simp; omega) (Nat.le_of_lt (Array.getElem?_eq_some_iff.1 RA1_65.out).1) ?_
      intro v66 x66 hown hgrow
      obtain ⟨g66, c66, rfl⟩ := ownF_slice hown
      have HF1_66 : Hid (FlT x66 (.slice g66 S.length c66) S) := FlT.of_own (show x66.ownsRow k63 88 2 (.slice g66 S.length c66) S.length (flC S) by simpa using hown)
      have HG66 : Hid (x65.grownBy x66 (some k63)) := hgrow
      have hS66 := HSG.out _ _ k63 hS65 hgrow HK1.out
      refine ⟨hS66, ?_⟩
      (try simp only [List.getElem_toArray, List.getElem_cons_succ, List.getElem_cons_zero, Act.put, List.setIfInBounds_toArray, List.set_cons_zero, List.set_cons_succ])
      clear hown hgrow
      have HF0_66 := hidF (HF0_65.out.grown0 RA1_65.out HG66.out)
      have RA2_66 : Hid (x66.heap[k53]? = some (.cells #[] 36 (0, 0))) := (HG66.out.block _ (Array.getElem?_eq_some_iff.1 RA2_65.out).1 (fun c => by have e := Option.some.inj c; have e2 := HD21_63.out; omega)).trans RA2_65.out
      refine held_stepS (i := 11) (by kernel_rfl) rfl (by rfl) ?_
      refine append_dqs2 _ _ 25 rfl k53 j0 _ Try.underlying25 hj0 hy0 hy1 hy2 rfl _ _ [] O rfl (own_made0 RA2_66.out) rfl (HSV.out _ hS66).2.2 (by have := HLN.out; simp; omega) (Nat.le_of_lt (Array.getElem?_eq_some_iff.1 RA2_66.out).1) ?_
      intro v67 x67 hown hgrow
      obtain ⟨g67, c67, rfl⟩ := ownQ_slice hown
      have HF2_67 : Hid (x67.ownsRow k53 36 4 (.slice g67 O.length c67) O.length (dqC O)) := (show x67.ownsRow k53 36 4 (.slice g67 O.length c67) O.length (dqC O) by simpa using hown)
      have HG67 : Hid (x66.grownBy x67 (some k53)) := hgrow
      have hS67 := HSG.out _ _ k53 hS66 hgrow HK2.out
      refine ⟨hS67, ?_⟩
      (try simp only [List.getElem_toArray, List.getElem_cons_succ, List.getElem_cons_zero, Act.put, List.setIfInBounds_toArray, List.set_cons_zero, List.set_cons_succ])
      clear hown hgrow
      have HF0_67 := hidF (HF0_66.out.grown0 RA2_66.out HG67.out)
      have HF1_67 := hidF (HF1_66.out.grown0 RA2_66.out HG67.out)
      refine wpAnyH_take (i := 12) (v := .agg #[.slice g65 L.length c65, .slice g66 S.length c66, .slice g67 O.length c67]) rfl (by kernel_rfl) (by kernel_rfl) (by kernel_rfl) (fun _ _ _ h => h) (Or.inl ⟨by rfl, by intro w' hS';  go_simp <;> (first | omega | rfl | (rw [IntKind.wrap_i64]; omega))⟩) hS67 ?_
      (try simp only [List.getElem_toArray, List.getElem_cons_succ, List.getElem_cons_zero, Act.put, List.setIfInBounds_toArray, List.set_cons_zero, List.set_cons_succ])
      obtain ⟨hb7, _, p9, n9, m9, q9, r9, hz4⟩ := HSE.out _ hS67
      have HB9 : Hid (Below w.heap.size w (set3b x67 rk (.slice g65 L.length c65) (.slice g66 S.length c66) (.slice g67 O.length c67))) := ((hb7.setCell (p := ⟨rk, 0, none⟩) h3 _).setCell (p := ⟨rk, 1, none⟩) h3 _).setCell (p := ⟨rk, 2, none⟩) h3 _
      have HR9 : Hid ((set3b x67 rk (.slice g65 L.length c65) (.slice g66 S.length c66) (.slice g67 O.length c67)).heap[rk]? = some (.cells #[.slice g65 L.length c65, .slice g66 S.length c66, .slice g67 O.length c67] 27 (0, 0))) := heap_setCell_same _ _ _ _ _ _ (heap_setCell_same _ _ _ _ _ _ (heap_setCell_same _ _ _ _ _ _ hz4))
      have HO9 : Hid (FlT (set3b x67 rk (.slice g65 L.length c65) (.slice g66 S.length c66) (.slice g67 O.length c67)) (.slice g65 L.length c65) L ∧ FlT (set3b x67 rk (.slice g65 L.length c65) (.slice g66 S.length c66) (.slice g67 O.length c67)) (.slice g66 S.length c66) S ∧ (set3b x67 rk (.slice g65 L.length c65) (.slice g66 S.length c66) (.slice g67 O.length c67)).ownsRow w.heap.size 36 4 (.slice g67 O.length c67) O.length (dqC O)) := ⟨HF0_67.out.set3b hz4, HF1_67.out.set3b hz4, own_set3b (ownF_base HF2_67.out (by have := HK2.out; have := HBK.out; omega)) hz4 (by decide)⟩
      have z0 := cell_of_row _ _ 0 _ _ _ hz4
      have z1 := cell_of_row _ _ 1 _ _ _ hz4
      have z2 := cell_of_row _ _ 2 _ _ _ hz4
      have f0 := frozen_of_row _ _ 0 _ _ hz4
      have f1 := frozen_of_row _ _ 1 _ _ hz4
      have f2 := frozen_of_row _ _ 2 _ _ hz4
      clear hz4 hb7
      refine held_stepS (i := 13) (by kernel_rfl) rfl (by rfl) ?_
      go_simp
      refine ⟨HSB.out _ _ _ _ _ _ hS67, ?_⟩
      (try simp only [List.getElem_toArray, List.getElem_cons_succ, List.getElem_cons_zero, Act.put, List.setIfInBounds_toArray, List.set_cons_zero, List.set_cons_succ])
      clear hS67 HSX HSI HSE HSB HSG HSV z0 z1 z2 f0 f1 f2
      refine wpAnyH_done (by kernel_rfl) ?_ _
      go_wp2_with fail
      exact bodyPost_ret (results_cell_row rfl _ _ rk 27 #[.slice g65 L.length c65, .slice g66 S.length c66, .slice g67 O.length c67] (0, 0) _ rfl HR9.out Try.underlying27 rfl (by kernel_rfl)) rfl ⟨⟨_, _, _, rfl, HO9.out⟩, HB9.out⟩
end Go.Proofs.Ytanlggglbpibfaa

/-!   The orders of a region come together again. -/
namespace Go.Proofs.Ytanlggglbpibfaa
open Go.RowKit
set_option linter.unusedVariables false
set_option linter.unusedSimpArgs false
def Mrg7 (F : Option Addr → Nat → Option Addr → Nat → Option Addr → Nat → Nat → World → Prop) (f : Option Addr → Nat → Option Addr → Nat → Option Addr → Nat → Nat → Act) (Q : Exit → Act → World → Prop) : Exit → Act → World → Prop := fun e a w => (∃ (x1 : Option Addr) (x2 : Nat) (x3 : Option Addr) (x4 : Nat) (x5 : Option Addr) (x6 : Nat) (x7 : Nat), e = .normal ∧ a = f x1 x2 x3 x4 x5 x6 x7 ∧ F x1 x2 x3 x4 x5 x6 x7 w) ∨ (e ≠ .normal ∧ Q e a w)
theorem Mrg7.put {F : Option Addr → Nat → Option Addr → Nat → Option Addr → Nat → Nat → World → Prop} {f : Option Addr → Nat → Option Addr → Nat → Option Addr → Nat → Nat → Act} {Q : Exit → Act → World → Prop} {d : Option Tmp} {v : Value} (h : ∀ c a w, Q (.panic c) (a.put d v) w → Q (.panic c) a w) (c) (a : Act) (w : World) (k : Mrg7 F f Q (.panic c) (a.put d v) w) : Mrg7 F f Q (.panic c) a w := by
  rcases k with ⟨x1, x2, x3, x4, x5, x6, x7, e, _⟩ | ⟨e, k⟩
  · cases e
  · exact Or.inr ⟨e, h c a w k⟩
theorem region_merge7 {P : Program} {c : Code} {Q : Exit → Act → World → Prop} {a : Act} {w : World} (f : Act → Option Addr → Nat → Option Addr → Nat → Option Addr → Nat → Nat → Act) (F : Option Addr → Nat → Option Addr → Nat → Option Addr → Nat → Nat → World → Prop)
    (h1 : c.wp P (Mrg7 F (f a) Q) a w) (h2 : ∀ x1 x2 x3 x4 x5 x6 x7 w', F x1 x2 x3 x4 x5 x6 x7 w' → Q .normal (f a x1 x2 x3 x4 x5 x6 x7) w') : c.wp P Q a w :=
  Code.wp_mono (fun e a' w' h => by
    rcases h with ⟨x1, x2, x3, x4, x5, x6, x7, rfl, rfl, h⟩ | ⟨_, h⟩
    · exact h2 _ _ _ _ _ _ _ _ h
    · exact h) h1
def Mrg13 (F : Option Addr → Nat → Option Addr → Nat → Option Addr → Nat → Option Addr → Nat → Option Addr → Nat → Option Addr → Nat → Nat → World → Prop) (f : Option Addr → Nat → Option Addr → Nat → Option Addr → Nat → Option Addr → Nat → Option Addr → Nat → Option Addr → Nat → Nat → Act) (Q : Exit → Act → World → Prop) : Exit → Act → World → Prop := fun e a w => (∃ (x1 : Option Addr) (x2 : Nat) (x3 : Option Addr) (x4 : Nat) (x5 : Option Addr) (x6 : Nat) (x7 : Option Addr) (x8 : Nat) (x9 : Option Addr) (x10 : Nat) (x11 : Option Addr) (x12 : Nat) (x13 : Nat), e = .normal ∧ a = f x1 x2 x3 x4 x5 x6 x7 x8 x9 x10 x11 x12 x13 ∧ F x1 x2 x3 x4 x5 x6 x7 x8 x9 x10 x11 x12 x13 w) ∨ (e ≠ .normal ∧ Q e a w)
theorem Mrg13.put {F : Option Addr → Nat → Option Addr → Nat → Option Addr → Nat → Option Addr → Nat → Option Addr → Nat → Option Addr → Nat → Nat → World → Prop} {f : Option Addr → Nat → Option Addr → Nat → Option Addr → Nat → Option Addr → Nat → Option Addr → Nat → Option Addr → Nat → Nat → Act} {Q : Exit → Act → World → Prop} {d : Option Tmp} {v : Value} (h : ∀ c a w, Q (.panic c) (a.put d v) w → Q (.panic c) a w) (c) (a : Act) (w : World) (k : Mrg13 F f Q (.panic c) (a.put d v) w) : Mrg13 F f Q (.panic c) a w := by
  rcases k with ⟨x1, x2, x3, x4, x5, x6, x7, x8, x9, x10, x11, x12, x13, e, _⟩ | ⟨e, k⟩
  · cases e
  · exact Or.inr ⟨e, h c a w k⟩
theorem region_merge13 {P : Program} {c : Code} {Q : Exit → Act → World → Prop} {a : Act} {w : World} (f : Act → Option Addr → Nat → Option Addr → Nat → Option Addr → Nat → Option Addr → Nat → Option Addr → Nat → Option Addr → Nat → Nat → Act) (F : Option Addr → Nat → Option Addr → Nat → Option Addr → Nat → Option Addr → Nat → Option Addr → Nat → Option Addr → Nat → Nat → World → Prop)
    (h1 : c.wp P (Mrg13 F (f a) Q) a w) (h2 : ∀ x1 x2 x3 x4 x5 x6 x7 x8 x9 x10 x11 x12 x13 w', F x1 x2 x3 x4 x5 x6 x7 x8 x9 x10 x11 x12 x13 w' → Q .normal (f a x1 x2 x3 x4 x5 x6 x7 x8 x9 x10 x11 x12 x13) w') : c.wp P Q a w :=
  Code.wp_mono (fun e a' w' h => by
    rcases h with ⟨x1, x2, x3, x4, x5, x6, x7, x8, x9, x10, x11, x12, x13, rfl, rfl, h⟩ | ⟨_, h⟩
    · exact h2 _ _ _ _ _ _ _ _ _ _ _ _ _ _ h
    · exact h) h1
end Go.Proofs.Ytanlggglbpibfaa
