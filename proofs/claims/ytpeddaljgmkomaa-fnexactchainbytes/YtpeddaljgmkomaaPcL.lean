/-
  A row of pieces that is made.
-/
import Derived.Test.YtpeddaljgmkomaaToPc
import Derived.Laws.AppendOwn
import Derived.OwnWalk
namespace Go.Proofs.Ytpeddaljgmkomaa
open Go.RowKit
set_option linter.unusedVariables false
set_option linter.unusedSimpArgs false
theorem hid {p : Prop} (h : p) : Hid p := h
def pcF (L : List PcI) (i : Nat) : PcI := L.getD i ⟨0, 0, ⟨#[]⟩⟩
def pcC (L : List PcI) : List Value := L.flatMap fun p => [.int .i64 p.f, .int .i64 p.l, .string p.d]
theorem pcC_snoc (L : List PcI) (p : PcI) : pcC L ++ [.int .i64 p.f, .int .i64 p.l, .string p.d] = pcC (L ++ [p]) := by simp [pcC]
theorem pcC_len (L : List PcI) : (pcC L).length = 3 * L.length := by
  induction L with
  | nil => rfl
  | cons p L ih =>
    have e : pcC (p :: L) = [.int .i64 p.f, .int .i64 p.l, .string p.d] ++ pcC L := rfl
    rw [e, List.length_append, ih]; simp; omega
theorem pcC_at : ∀ (L : List PcI) (i : Nat), i < L.length → (pcC L)[3 * i]? = some (.int .i64 (pcF L i).f) ∧ (pcC L)[3 * i + 1]? = some (.int .i64 (pcF L i).l) ∧ (pcC L)[3 * i + 2]? = some (.string (pcF L i).d)
  | [], _, h => by simp at h
  | p :: L, 0, _ => ⟨rfl, rfl, rfl⟩
  | p :: L, i + 1, h => by
    have ih := pcC_at L i (by simpa using h)
    exact ih
theorem own3_form {w : World} {B n : Nat} {v : Value} {xs : List Value} (h : w.ownsRow B 89 3 v n xs) (h0 : 0 < n) :
    ∃ g cap cur, v = .slice (some ⟨g, 0, none⟩) n cap ∧ B ≤ g ∧ w.heap[g]? = some (.cells cur 89 (0, 0)) ∧ 3 * n ≤ cur.size ∧ ∀ (j : Nat) (u : Value), xs[j]? = some u → cur[j]? = some u := by
  obtain ⟨hl, ⟨_, h1⟩ | ⟨g, cap, cur, h1, h2, h3, h4, h5, h6, h7⟩⟩ := h
  · omega
  · refine ⟨g, cap, cur, h1, h2, h3, by omega, fun j u hj => ?_⟩
    rw [← h7, List.getElem?_take] at hj
    split at hj
    · simpa using hj
    · cases hj
theorem own3_slice {w : World} {B n : Nat} {v : Value} {xs : List Value} (h : w.ownsRow B 89 3 v n xs) : ∃ a c, v = .slice a n c := by
  obtain ⟨hl, ⟨h0, hn⟩ | ⟨g, cap, cur, h1, _⟩⟩ := h
  · subst hn; exact ⟨_, _, h0⟩
  · exact ⟨_, _, h1⟩
theorem own3_arg {w : World} {B : Nat} {v : Value} {L : List PcI} (h : w.ownsRow B 89 3 v L.length (pcC L)) : PcArg w v L.length (pcF L) := by
  obtain ⟨a, c, rfl⟩ := own3_slice h
  refine ⟨a, c, rfl, fun h0 => ?_⟩
  obtain ⟨g, cap, cur, h1, h2, h3, h4, h5⟩ := own3_form h h0
  cases h1
  exact ⟨g, rfl, (Array.getElem?_eq_some_iff.1 h3).1, fun i hi => (cell_of_row _ _ _ _ _ _ h3).trans (h5 _ _ (pcC_at L i hi).1), fun i hi => (cell_of_row _ _ _ _ _ _ h3).trans (h5 _ _ (pcC_at L i hi).2.1), fun i hi => (cell_of_row _ _ _ _ _ _ h3).trans (h5 _ _ (pcC_at L i hi).2.2)⟩
theorem own3_call {w w' : World} {B : Nat} {e : TypeId} {v : Value} {n : Nat} {xs : List Value} (h : w.ownsRow B e 3 v n xs) (hb : Below w.heap.size w w') : w'.ownsRow B e 3 v n xs := by
  obtain ⟨h0, h1 | ⟨g, cap, cur, h1, h2, h3, h4, h5, h6, h7⟩⟩ := h
  · exact ⟨h0, Or.inl h1⟩
  · exact ⟨h0, Or.inr ⟨g, cap, cur, h1, h2, (hb.block g (Array.getElem?_eq_some_iff.1 h3).1).trans h3, h4, h5, h6, h7⟩⟩
theorem own3_base {w : World} {B C : Nat} {e : TypeId} {v : Value} {n : Nat} {xs : List Value} (h : w.ownsRow B e 3 v n xs) (hC : C ≤ B) : w.ownsRow C e 3 v n xs := by
  obtain ⟨h0, h1 | ⟨g, cap, cur, h1, h2, h3⟩⟩ := h
  · exact ⟨h0, Or.inl h1⟩
  · exact ⟨h0, Or.inr ⟨g, cap, cur, h1, Nat.le_trans hC h2, h3⟩⟩
theorem grownBy_setP (w : World) (g t : Nat) (v : Value) : w.grownBy (w.setCell ⟨g, t, none⟩ v) (some g) :=
  ⟨rfl, rfl, rfl, by simp, fun k hk hne => heap_setCell_other _ _ _ _ (fun e => hne (by rw [e]))⟩
theorem own3_set {w : World} {B g : Nat} {e : TypeId} {v : Value} {n : Nat} {xs : List Value} (h : w.ownsRow B e 3 v n xs) (hne : v.ownBlock ≠ some g) (t : Nat) (u : Value) : (w.setCell ⟨g, t, none⟩ u).ownsRow B e 3 v n xs :=
  h.kept (grownBy_setP w g t u) (Or.inr hne)
theorem own3_ne {w : World} {B g : Nat} {e : TypeId} {v : Value} {n : Nat} {xs : List Value} (h : w.ownsRow B e 3 v n xs) (hg : w.heap.size ≤ g) : v.ownBlock ≠ some g := fun e => by
  have := (h.lt g e).2; omega
theorem cell_three_at {W : World} {x y z : Value} {t : TypeId} {k : Nat} (hk : W.heap.size = k) : ∀ j u, [x, y, z][j]? = some u → (W.alloc (.cells #[x, y, z] t)).cell? ((⟨k, 0, none⟩ : Addr).add j) = some u := by
  subst hk
  intro j u hj
  have h := heap_alloc_new W (.cells #[x, y, z] t)
  have ea : (⟨W.heap.size, 0, none⟩ : Addr).add j = ⟨W.heap.size, j, none⟩ := by
    unfold Addr.add
    by_cases h0 : j = 0
    · subst h0; simp
    · simp [h0]
  rw [ea, cell_of_row _ _ j _ _ _ h]
  simpa using hj
theorem three_one (f l : Int) (d : ByteArray) : ∀ u ∈ [Value.int .i64 f, .int .i64 l, .string d], u.oneCell' = true := by
  intro u hu
  simp only [List.mem_cons, List.not_mem_nil, or_false] at hu
  rcases hu with rfl | rfl | rfl <;> rfl
end Go.Proofs.Ytpeddaljgmkomaa
