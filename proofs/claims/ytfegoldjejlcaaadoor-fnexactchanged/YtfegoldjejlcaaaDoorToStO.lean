/-
  Lists of texts as answers of a law: where they lie, marks at whatever list.
-/
import Derived.Test.YtfegoldjejlcaaaDoorStMk
import Derived.Test.YtfegoldjejlcaaaDoorKp
namespace Go.Proofs.YtfegoldjejlcaaaDoor
open Go.RowKit
set_option linter.unusedVariables false
set_option linter.unusedSimpArgs false
def StArg (w : World) (v : Value) (L : List ByteArray) : Prop := ∃ a c, v = .slice a L.length c ∧ (0 < L.length → ∃ g, a = some ⟨g, 0, none⟩ ∧ g < w.heap.size ∧ ∀ j u, (stC L)[j]? = some u → w.cell? ⟨g, j, none⟩ = some u)
theorem StArg.below {w w' : World} {v : Value} {L : List ByteArray} (h : StArg w v L) (hb : Below w.heap.size w w') : StArg w' v L := by
  obtain ⟨a, c, h1, h2⟩ := h
  exact ⟨a, c, h1, fun h0 => by
    obtain ⟨g, h3, h4, h5⟩ := h2 h0
    exact ⟨g, h3, Nat.lt_of_lt_of_le h4 hb.size, fun j u hj => (hb.cell (p := ⟨g, j, none⟩) h4).trans (h5 j u hj)⟩⟩
def StO (w : World) (B T : Nat) (v : Value) (n : Nat) : Prop := ∃ a c, v = .slice a n c ∧ (0 < n → ∃ g cur, a = some ⟨g, 0, none⟩ ∧ B ≤ g ∧ g < T ∧ w.heap[g]? = some (.cells cur 9 (0, 0)) ∧ n ≤ cur.size)
theorem ownSt_form {w : World} {B n : Nat} {v : Value} {xs : List Value} (h : w.ownsRow B 9 1 v n xs) (h0 : 0 < n) : ∃ g c cur, v = .slice (some ⟨g, 0, none⟩) n c ∧ B ≤ g ∧ w.heap[g]? = some (.cells cur 9 (0, 0)) ∧ n ≤ cur.size ∧ ∀ (j : Nat) (u : Value), xs[j]? = some u → cur[j]? = some u := by
  obtain ⟨hl, ⟨_, h1⟩ | ⟨g, cap, cur, h1, h2, h3, h4, h5, h6, h7⟩⟩ := h
  · omega
  · refine ⟨g, cap, cur, h1, h2, h3, by omega, fun j u hj => ?_⟩
    rw [← h7, List.getElem?_take] at hj
    split at hj
    · simpa using hj
    · cases hj
theorem ownSt_slice {w : World} {B n : Nat} {v : Value} {xs : List Value} (h : w.ownsRow B 9 1 v n xs) : ∃ a c, v = .slice a n c := by
  obtain ⟨hl, ⟨h0, hn⟩ | ⟨g, cap, cur, h1, _⟩⟩ := h
  · subst hn; exact ⟨_, _, h0⟩
  · exact ⟨_, _, h1⟩
theorem ownSt_arg {w : World} {B : Nat} {v : Value} {L : List ByteArray} (h : w.ownsRow B 9 1 v L.length (stC L)) : StArg w v L := by
  obtain ⟨a, c, rfl⟩ := ownSt_slice h
  refine ⟨a, c, rfl, fun h0 => ?_⟩
  obtain ⟨g, c2, cur, e, _, h3, h4, h5⟩ := ownSt_form h h0
  cases e
  exact ⟨g, rfl, (Array.getElem?_eq_some_iff.1 h3).1, fun j u hu => (cell_of_row _ _ _ _ _ _ h3).trans (h5 j u hu)⟩
theorem ownSt_StO {w : World} {B n : Nat} {v : Value} {xs : List Value} (h : w.ownsRow B 9 1 v n xs) : StO w B w.heap.size v n := by
  obtain ⟨a, c, rfl⟩ := ownSt_slice h
  refine ⟨a, c, rfl, fun h0 => ?_⟩
  obtain ⟨g, cap, cur, h1, h2, h3, h4, _⟩ := ownSt_form h h0
  cases h1
  exact ⟨g, cur, rfl, h2, (Array.getElem?_eq_some_iff.1 h3).1, h3, h4⟩
theorem StO.kept {w w' : World} {bs : List (Nat × Nat)} {B T n : Nat} {v : Value} (h : StO w B T v n) (hk : Kp w w' bs) (hd : ∀ b ∈ bs, b.2 ≤ B ∨ T ≤ b.1) : StO w' B T v n := by
  obtain ⟨a, c, rfl, hr⟩ := h
  refine ⟨a, c, rfl, fun h0 => ?_⟩
  obtain ⟨g, cur, h1, h2, h3, h4, h5⟩ := hr h0
  exact ⟨g, cur, h1, h2, h3, (hk.same g (Array.getElem?_eq_some_iff.1 h4).1 fun b hb c => by rcases hd b hb with e | e <;> omega).trans h4, h5⟩
theorem StArg.kept {w w' : World} {bs : List (Nat × Nat)} {B T : Nat} {v : Value} {L : List ByteArray} (h : StArg w v L) (ho : StO w B T v L.length) (hk : Kp w w' bs) (hd : ∀ b ∈ bs, b.2 ≤ B ∨ T ≤ b.1) : StArg w' v L := by
  obtain ⟨a, c, rfl, hr⟩ := h
  refine ⟨a, c, rfl, fun h0 => ?_⟩
  obtain ⟨g, rfl, hl, hrow⟩ := hr h0
  obtain ⟨a2, c2, e2, ho2⟩ := ho
  cases e2
  obtain ⟨g2, cur, e3, h2, h3, h4, _⟩ := ho2 h0
  cases e3
  have hb := hk.same g hl fun b hb c => by rcases hd b hb with e | e <;> omega
  exact ⟨g, rfl, Nat.lt_of_lt_of_le hl hk.size, fun j u hu => (World.cell?_of_block (a := ⟨g, j, none⟩) hb).trans (hrow j u hu)⟩
theorem eqSt_any (v1 v2 : Value) (L : List ByteArray) (w : World) (hn : L.length ≤ 1000) (h1 : StArg w v1 L) (h2 : StArg w v2 L) :
    Calls Tryd.prog 32 #[v1, v2] w fun e w' => e = .returned (.bool true) ∧ Below w.heap.size w w' := by
  obtain ⟨a, c, rfl, hr⟩ := h1
  obtain ⟨b, d, rfl, hs⟩ := h2
  by_cases h0 : 0 < L.length
  · obtain ⟨g, rfl, _, hg⟩ := hr h0
    obtain ⟨h, rfl, _, hh⟩ := hs h0
    exact eqS_any g h c d L.length L w (by omega) rfl hg hh
  · have e : L.length = 0 := by omega
    rw [e]
    exact eqS_zero a b c d w
/-- a list of texts that bears marks from 1 on -/
def MkLSt (w : World) (v : Value) (n : Nat) : Prop := ∃ a c, v = .slice a n c ∧ (0 < n → ∃ g, a = some ⟨g, 0, none⟩ ∧ g < w.heap.size ∧ ∀ j, j < n → w.cell? ⟨g, j, none⟩ = some (.string (mkT (j + 1))))
theorem MkLSt.below {w w' : World} {v : Value} {n : Nat} (h : MkLSt w v n) (hb : Below w.heap.size w w') : MkLSt w' v n := by
  obtain ⟨a, c, rfl, hr⟩ := h
  refine ⟨a, c, rfl, fun h0 => ?_⟩
  obtain ⟨g, h1, h2, h3⟩ := hr h0
  exact ⟨g, h1, Nat.lt_of_lt_of_le h2 hb.size, fun j hj => (hb.cell (p := ⟨g, j, none⟩) h2).trans (h3 j hj)⟩
theorem markStL_any {B0 : Nat} {w00 : World} (v : Value) (n B T : Nat) (w w0 : World) (bs : List (Nat × Nat)) (hn : n ≤ 1000) (h : StO w B T v n) (hkp : Kp w0 w bs) (hb : Below B0 w00 w) (hB0 : B0 ≤ B) (hT : w0.heap.size ≤ w.heap.size) :
    Calls Tryd.prog 33 #[v, .int .i64 1] w fun e w' => (e = .returned (.int .i64 ((n + 1 : Nat) : Int)) ∧ MkLSt w' v n) ∧ Kp w0 w' ((B, T) :: bs) ∧ Below B0 w00 w' := by
  obtain ⟨a, c, rfl, hr⟩ := h
  by_cases h0 : 0 < n
  · obtain ⟨g, cur, rfl, h2, h3, h4, h5⟩ := hr h0
    refine (markS_any g c n 0 cur w (by omega) (Nat.zero_le _) h4 h5).mono ?_
    rintro e w' ⟨⟨rfl, hm⟩, hg⟩
    have hgl := (Array.getElem?_eq_some_iff.1 h4).1
    refine ⟨⟨rfl, _, _, rfl, fun _ => ⟨g, rfl, Nat.lt_of_lt_of_le hgl hg.size, hm⟩⟩, ⟨Nat.le_trans hkp.size hg.size, fun x hx hn2 => ?_⟩, hb.grown hg (Nat.le_of_lt (Nat.lt_of_le_of_lt (Nat.le_trans hB0 h2) hgl)) (fun x hx => by have := Option.some.inj hx; omega)⟩
    rw [hg.block x (Nat.lt_of_lt_of_le hx hkp.size) (fun e => hn2 (B, T) (List.mem_cons_self ..) (by have := Option.some.inj e; show B ≤ x ∧ x < T; omega))]
    exact hkp.same x hx fun b hb' => hn2 b (List.mem_cons_of_mem _ hb')
  · obtain rfl : n = 0 := by omega
    refine (markS_zero a c w).mono ?_
    rintro e w' ⟨rfl, rfl⟩
    exact ⟨⟨rfl, _, _, rfl, fun h => absurd h (by omega)⟩, hkp.more _, hb⟩
theorem heldStL_any (v : Value) (n : Nat) (w : World) (hn : n ≤ 1000) (h : MkLSt w v n) :
    Calls Tryd.prog 34 #[v, .int .i64 1] w fun e w' => e = .returned (.int .i64 ((n + 1 : Nat) : Int)) ∧ Below w.heap.size w w' := by
  obtain ⟨a, c, rfl, hr⟩ := h
  by_cases h0 : 0 < n
  · obtain ⟨g, rfl, h2, h3⟩ := hr h0
    exact heldS_any g c n w (by omega) h2 h3
  · obtain rfl : n = 0 := by omega
    refine (heldS_zero a c w).mono ?_
    rintro e w' ⟨rfl, rfl⟩
    exact ⟨rfl, Below.refl _ _⟩
end Go.Proofs.YtfegoldjejlcaaaDoor
