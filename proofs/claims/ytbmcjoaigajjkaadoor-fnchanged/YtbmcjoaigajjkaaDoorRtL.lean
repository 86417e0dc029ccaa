/-
  A row of nodes that is made.
-/
import Derived.Test.YtbmcjoaigajjkaaDoorRtM
import Derived.Laws.AppendOwn
import Derived.OwnWalk
namespace Go.Proofs.YtbmcjoaigajjkaaDoor
open Go.RowKit
set_option linter.unusedVariables false
set_option linter.unusedSimpArgs false
theorem hid {p : Prop} (h : p) : Hid p := h
def ndC (L : List NdI) : List Value := L.flatMap fun p => [.string p.p, .bool p.r, .int .i64 p.m, .string p.d]
theorem ndC_snoc (L : List NdI) (p : NdI) : ndC L ++ [.string p.p, .bool p.r, .int .i64 p.m, .string p.d] = ndC (L ++ [p]) := by simp [ndC]
theorem ndC_len (L : List NdI) : (ndC L).length = 4 * L.length := by
  induction L with
  | nil => rfl
  | cons p L ih =>
    have e : ndC (p :: L) = [.string p.p, .bool p.r, .int .i64 p.m, .string p.d] ++ ndC L := rfl
    rw [e, List.length_append, ih]; simp; omega
theorem ndC_at : ∀ (L : List NdI) (i : Nat), i < L.length → (ndC L)[4 * i]? = some (.string (ndF L i).p) ∧ (ndC L)[4 * i + 1]? = some (.bool (ndF L i).r) ∧ (ndC L)[4 * i + 2]? = some (.int .i64 (ndF L i).m) ∧ (ndC L)[4 * i + 3]? = some (.string (ndF L i).d)
  | [], _, h => by simp at h
  | p :: L, 0, _ => ⟨rfl, rfl, rfl, rfl⟩
  | p :: L, i + 1, h => by
    have ih := ndC_at L i (by simpa using h)
    exact ih
theorem own4_form {w : World} {B n : Nat} {v : Value} {xs : List Value} (h : w.ownsRow B 32 4 v n xs) (h0 : 0 < n) :
    ∃ g cap cur, v = .slice (some ⟨g, 0, none⟩) n cap ∧ B ≤ g ∧ w.heap[g]? = some (.cells cur 32 (0, 0)) ∧ 4 * n ≤ cur.size ∧ ∀ (j : Nat) (u : Value), xs[j]? = some u → cur[j]? = some u := by
  obtain ⟨hl, ⟨_, h1⟩ | ⟨g, cap, cur, h1, h2, h3, h4, h5, h6, h7⟩⟩ := h
  · omega
  · refine ⟨g, cap, cur, h1, h2, h3, by omega, fun j u hj => ?_⟩
    rw [← h7, List.getElem?_take] at hj
    split at hj
    · simpa using hj
    · cases hj
theorem own4_slice {w : World} {B n : Nat} {v : Value} {xs : List Value} (h : w.ownsRow B 32 4 v n xs) : ∃ a c, v = .slice a n c := by
  obtain ⟨hl, ⟨h0, hn⟩ | ⟨g, cap, cur, h1, _⟩⟩ := h
  · subst hn; exact ⟨_, _, h0⟩
  · exact ⟨_, _, h1⟩
theorem own4_arg {w : World} {B : Nat} {v : Value} {L : List NdI} (h : w.ownsRow B 32 4 v L.length (ndC L)) : NdArg w v L.length (ndF L) := by
  obtain ⟨a, c, rfl⟩ := own4_slice h
  refine ⟨a, c, rfl, fun h0 => ?_⟩
  obtain ⟨g, cap, cur, h1, h2, h3, h4, h5⟩ := own4_form h h0
  cases h1
  exact ⟨g, rfl, (Array.getElem?_eq_some_iff.1 h3).1, fun i hi => (cell_of_row _ _ _ _ _ _ h3).trans (h5 _ _ (ndC_at L i hi).1), fun i hi => (cell_of_row _ _ _ _ _ _ h3).trans (h5 _ _ (ndC_at L i hi).2.1), fun i hi => (cell_of_row _ _ _ _ _ _ h3).trans (h5 _ _ (ndC_at L i hi).2.2.1), fun i hi => (cell_of_row _ _ _ _ _ _ h3).trans (h5 _ _ (ndC_at L i hi).2.2.2)⟩
theorem own4_call {w w' : World} {B : Nat} {e : TypeId} {v : Value} {n : Nat} {xs : List Value} (h : w.ownsRow B e 4 v n xs) (hb : Below w.heap.size w w') : w'.ownsRow B e 4 v n xs := by
  obtain ⟨h0, h1 | ⟨g, cap, cur, h1, h2, h3, h4, h5, h6, h7⟩⟩ := h
  · exact ⟨h0, Or.inl h1⟩
  · exact ⟨h0, Or.inr ⟨g, cap, cur, h1, h2, (hb.block g (Array.getElem?_eq_some_iff.1 h3).1).trans h3, h4, h5, h6, h7⟩⟩
theorem own4_base {w : World} {B C : Nat} {e : TypeId} {v : Value} {n : Nat} {xs : List Value} (h : w.ownsRow B e 4 v n xs) (hC : C ≤ B) : w.ownsRow C e 4 v n xs := by
  obtain ⟨h0, h1 | ⟨g, cap, cur, h1, h2, h3⟩⟩ := h
  · exact ⟨h0, Or.inl h1⟩
  · exact ⟨h0, Or.inr ⟨g, cap, cur, h1, Nat.le_trans hC h2, h3⟩⟩
theorem grownBy_setP (w : World) (g t : Nat) (v : Value) : w.grownBy (w.setCell ⟨g, t, none⟩ v) (some g) :=
  ⟨rfl, rfl, rfl, by simp, fun k hk hne => heap_setCell_other _ _ _ _ (fun e => hne (by rw [e]))⟩
theorem own4_set {w : World} {B g : Nat} {e : TypeId} {v : Value} {n : Nat} {xs : List Value} (h : w.ownsRow B e 4 v n xs) (hne : v.ownBlock ≠ some g) (t : Nat) (u : Value) : (w.setCell ⟨g, t, none⟩ u).ownsRow B e 4 v n xs :=
  h.kept (grownBy_setP w g t u) (Or.inr hne)
theorem own4_ne {w : World} {B g : Nat} {e : TypeId} {v : Value} {n : Nat} {xs : List Value} (h : w.ownsRow B e 4 v n xs) (hg : w.heap.size ≤ g) : v.ownBlock ≠ some g := fun e => by
  have := (h.lt g e).2; omega
theorem cell_four_at {W : World} {x y z u0 : Value} {t : TypeId} {k : Nat} (hk : W.heap.size = k) : ∀ j u, [x, y, z, u0][j]? = some u → (W.alloc (.cells #[x, y, z, u0] t)).cell? ((⟨k, 0, none⟩ : Addr).add j) = some u := by
  subst hk
  intro j u hj
  have h := heap_alloc_new W (.cells #[x, y, z, u0] t)
  have ea : (⟨W.heap.size, 0, none⟩ : Addr).add j = ⟨W.heap.size, j, none⟩ := by
    unfold Addr.add
    by_cases h0 : j = 0
    · subst h0; simp
    · simp [h0]
  rw [ea, cell_of_row _ _ j _ _ _ h]
  simpa using hj
theorem four_one (a : ByteArray) (r : Bool) (m : Int) (d : ByteArray) : ∀ u ∈ [Value.string a, .bool r, .int .i64 m, .string d], u.oneCell' = true := by
  intro u hu
  simp only [List.mem_cons, List.not_mem_nil, or_false] at hu
  rcases hu with rfl | rfl | rfl | rfl <;> rfl
/-- a box of a node, written whole -/
theorem box4_row {W : World} {g : Nat} {x y z u : Value} {T : TypeId} (h : W.heap[g]? = some (.cells #[x, y, z, u] T (0, 0))) (a b c d : Value) :
    ((((W.setCell ⟨g, 0, none⟩ a).setCell ⟨g, 1, none⟩ b).setCell ⟨g, 2, none⟩ c).setCell ⟨g, 3, none⟩ d).heap[g]? = some (.cells #[a, b, c, d] T (0, 0)) :=
  heap_setCell_same _ _ _ _ _ _ (heap_setCell_same _ _ _ _ _ _ (heap_setCell_same _ _ _ _ _ _ (heap_setCell_same _ _ _ _ _ _ h)))
theorem box4_below {B : Nat} {w0 W : World} (h : Below B w0 W) {g : Nat} (hg : B ≤ g) (a b c d : Value) : Below B w0 ((((W.setCell ⟨g, 0, none⟩ a).setCell ⟨g, 1, none⟩ b).setCell ⟨g, 2, none⟩ c).setCell ⟨g, 3, none⟩ d) :=
  (((h.setCell (p := ⟨g, 0, none⟩) hg a).setCell (p := ⟨g, 1, none⟩) hg b).setCell (p := ⟨g, 2, none⟩) hg c).setCell (p := ⟨g, 3, none⟩) hg d
end Go.Proofs.YtbmcjoaigajjkaaDoor
