/-
  Several texts of this seat as one: ShelfL, LonC, TkMath.
-/
import Derived.Shelf.Lay
import Derived.Shelf.LaySoft
import Derived.Shelf.Strings.Builder1
import Derived.Shelf.Strings.BuilderF
import Derived.Shelf.Strings.BuilderK
import Derived.Test.YtbkjcngehhdchaaRows
import Derived.Test.YtbkjcngehhdchaaPk08
import Derived.Lib.LastIndexLaws
import Derived.Lib.Split
import Derived.Deep.RegionWith
import Derived.RegionTactic

/-!   DERIVED: LAID BY THE SHELF's lay-shelf.mjs AT THE DUMP 'toys/ytbkjcngehhdchaa/ytbkjcngehhdchaa.cut.gsa' (alias 'Try'): THE LIBRARY CONTRACTS THAT ARE PROVED ONCE, OVER ANY PROGRAM AND ANY NUMBERING, AS THEOREMS OF THIS PROGRAM: WITHOUT A WALK: 'shelf_lay' reads the table of numbers off the bodies and has the kernel compare each body; then each contract is ONE APPLICATION. EACH COMMAND STANDS UNDER 'shelf_try': one that errs is rolled back and told in the build's print ('SHELF: NOT LAID: <name>: ..'); THE MODULE's LAST ROW OF PRINT COUNTS THEM ('SHELF: n LAID, m NOT LAID'): READ IT: a contract that is not laid is not there to be used. -/
namespace Go.Proofs
open Go.Shelf
shelf_tried
end Go.Proofs

/-!   The longest that stood before: the code's ways to seek it. -/
namespace Go.Proofs.Ytbkjcngehhdchaa
open Go.RowKit
set_option linter.unusedVariables false
set_option linter.unusedSimpArgs false

theorem bl_trans3 {B C : Nat} {a b c : World} (h : Below B a b) (k : Below C b c) (hBC : B ≤ C) : Below B a c :=
  ⟨k.os.trans h.os, k.tape.trans h.tape, k.output.trans h.output, Nat.le_trans h.size k.size, fun i hi => (k.block i (Nat.lt_of_lt_of_le hi hBC)).trans (h.block i hi)⟩
theorem mlen_ge {bs : Nat → Nat} {M a e l : Nat} (hl : l ≤ M) : l ≤ mlen bs M a e ↔ ∀ t, t < l → bs (a + t - e) = bs (a + t) := by
  obtain ⟨h1, h2, h3⟩ := mlen_spec bs M a e
  constructor
  · intro h t ht; exact h2 t (by omega)
  · intro h
    by_cases c : l ≤ mlen bs M a e
    · exact c
    · exfalso
      rcases h3 with h3 | h3
      · omega
      · exact h3 (h _ (by omega))
theorem ext_lst (s : ByteArray) (i j : Nat) : (s.extract i j).data.toList = (s.data.toList.drop i).take (j - i) := by
  rw [ByteArray.data_extract, Array.toList_extract, List.extract_eq_take_drop]
theorem bsOf_ext (s : ByteArray) (i j k : Nat) (hk : k < j - i) : bsOf (s.extract i j) k = bsOf s (i + k) := by
  unfold bsOf
  rw [ext_lst, List.getD_eq_getElem?_getD, List.getD_eq_getElem?_getD, List.getElem?_take, if_pos hk, List.getElem?_drop]
theorem toNat_getD (l : List UInt8) (i j : Nat) (hi : i < l.length) (hj : j < l.length) : (l.getD i 0).toNat = (l.getD j 0).toNat ↔ l[i]? = l[j]? := by
  rw [List.getD_eq_getElem?_getD, List.getD_eq_getElem?_getD, List.getElem?_eq_getElem hi, List.getElem?_eq_getElem hj]
  simp [UInt8.toNat_inj]
theorem occ_iff (s : ByteArray) (a l j : Nat) (hl : 1 ≤ l) (hj : j < a) (ha : a + l ≤ s.size) :
    Lib.occAt (s.extract 0 (a + l - 1)).data.toList (s.extract a (a + l)).data.toList j = true ↔ ∀ t, t < l → bsOf s (j + t) = bsOf s (a + t) := by
  have hsz : s.size = s.data.toList.length := Lib.size_eq s
  have hsub : (s.extract a (a + l)).data.toList = (s.data.toList.drop a).take l := by rw [ext_lst]; congr 1; omega
  have hsl : ((s.data.toList.drop a).take l).length = l := by rw [List.length_take, List.length_drop]; omega
  rw [hsub, Lib.occAt_iff_take _ _ _ (by rw [hsl, ext_lst, List.length_take, List.length_drop]; omega), hsl, ext_lst, List.drop_zero, Nat.sub_zero, beq_iff_eq]
  constructor
  · intro h t ht
    have e := congrArg (fun x : List UInt8 => x[t]?) h
    simp only [List.getElem?_take, List.getElem?_drop, if_pos ht] at e
    rw [if_pos (by omega)] at e
    unfold bsOf
    exact (toNat_getD _ _ _ (by omega) (by omega)).2 e
  · intro h
    apply List.ext_getElem?
    intro t
    by_cases ht : t < l
    · simp only [List.getElem?_take, List.getElem?_drop, if_pos ht]
      rw [if_pos (by omega)]
      have := h t ht
      unfold bsOf at this
      exact (toNat_getD _ _ _ (by omega) (by omega)).1 this
    · simp only [List.getElem?_take, if_neg ht]
set_option maxRecDepth 100000 in
set_option maxHeartbeats 1000000 in
theorem same_any (x y : ByteArray) (w : World) (h : y.size ≤ x.size) (hs : x.size ≤ 4000) :
    Calls Try.prog 102 #[.string x, .string y] w fun e w' => (∃ n : Nat, n ≤ y.size ∧ (∀ j, j < n → bsOf x j = bsOf y j) ∧ (n = y.size ∨ bsOf x n ≠ bsOf y n) ∧ e = .returned (.int .i64 (n : Int))) ∧ Below w.heap.size w w' := by
  go_enter Try.func102, Try.ntmps102
  go_wp2_with fail
  go_loopw [8] (fun c wr => ∃ n : Nat, n ≤ y.size ∧ c = .int .i64 (n : Int) ∧ Hid (∀ j, j < n → bsOf x j = bsOf y j) ∧ Below w.heap.size w wr) (fun c _ => y.size - (lonIntOf c).toNat)
  case atStart => exact ⟨0, by omega, rfl, fun j hj => absurd hj (by omega), Below.refl _ _⟩
  case round =>
    obtain ⟨n, hn, rfl, HE, hb⟩ := hrel
    by_cases hlt : n < y.size
    · have hlt' : (n : Int) < (y.size : Int) := by omega
      have hx1 : n < x.size := by omega
      have hx1' : (n : Int) < (x.size : Int) := by omega
      have b1 := bsOf_at x n hx1
      have b2 := bsOf_at y n hlt
      have l1 := bsOf_lt x n
      have l2 := bsOf_lt y n
      by_cases heq : bsOf x n = bsOf y n
      · have HE2 : Hid (∀ j, j < n + 1 → bsOf x j = bsOf y j) := fun j hj => by
          by_cases e : j = n
          · subst e; exact heq
          · exact HE.out j (by omega)
        rw [heq] at b1
        generalize bsOf y n = c2 at b1 b2 l2
        clear heq l1 HE
        go_wp2_with fail
        go_region
        go_wp2_with fail
        go_roundw
        case rel => exact ⟨n + 1, by omega, by go_num, HE2, hb.drew⟩
        case measure => simp [lonIntOf]; omega
      · have hne : ¬ ((bsOf x n : Nat) : Int) = ((bsOf y n : Nat) : Int) := by omega
        have hne' : (((bsOf x n : Nat) : Int) != ((bsOf y n : Nat) : Int)) = true := by simp; omega
        have HQ : Hid (bsOf x n ≠ bsOf y n) := heq
        clear heq
        generalize bsOf x n = c1 at b1 l1 hne hne' HQ
        generalize bsOf y n = c2 at b2 l2 hne hne' HQ
        go_wp2_with fail
        go_region
        go_wp2_with fail
        go_ret
        exact ⟨⟨n, hn, HE.out, Or.inr (by have := HQ.out; rwa [← b1, ← b2, bsOf_at x n hx1, bsOf_at y n hlt] at this), rfl⟩, hb.drew⟩
    · obtain rfl : n = y.size := by omega
      go_wp2_with fail
      go_ret
      exact ⟨⟨y.size, Nat.le_refl _, HE.out, Or.inl rfl, rfl⟩, hb⟩
end Go.Proofs.Ytbkjcngehhdchaa

/-!   The tokens of a text, as plain mathematics. -/
namespace Go.Proofs.Ytbkjcngehhdchaa
open Go.RowKit
set_option linter.unusedVariables false

structure TkN where
  k : Nat
  b : Nat
  d : Nat
  l : Nat
def tokAt (s : ByteArray) (a : Nat) : TkN := if 3 ≤ (best (lonF s a) a).2 then ⟨1, 0, (best (lonF s a) a).1, (best (lonF s a) a).2⟩ else ⟨0, bsOf s a, 0, 0⟩
def stepAt (s : ByteArray) (a : Nat) : Nat := if 3 ≤ (best (lonF s a) a).2 then (best (lonF s a) a).2 else 1
def tkRun (s : ByteArray) : Nat → List TkN × Nat
  | 0 => ([], 0)
  | k + 1 => if (tkRun s k).2 < s.size then ((tkRun s k).1 ++ [tokAt s (tkRun s k).2], (tkRun s k).2 + stepAt s (tkRun s k).2) else tkRun s k
def tkL (s : ByteArray) : List TkN := (tkRun s s.size).1
/-- l are the tokens of the first a bytes -/
def TkS (s : ByteArray) (l : List TkN) (a : Nat) : Prop := ∃ k, tkRun s k = (l, a) ∧ l.length = k ∧ k ≤ a ∧ a ≤ s.size
theorem TkS.start (s : ByteArray) : TkS s [] 0 := ⟨0, rfl, rfl, Nat.le_refl _, Nat.zero_le _⟩
theorem step_in {s : ByteArray} {a : Nat} (ha : a < s.size) : 1 ≤ stepAt s a ∧ a + stepAt s a ≤ s.size := by
  unfold stepAt
  split
  · rename_i h
    rcases (best_is (lonF s a) a).2.2 with ⟨_, h0⟩ | ⟨_, _, h1, _⟩
    · omega
    · have h5 : lonF s a (best (lonF s a) a).1 ≤ min 66 (s.size - a) := (mlen_spec (bsOf s) (min 66 (s.size - a)) a (best (lonF s a) a).1).1
      omega
  · omega
theorem TkS.step {s : ByteArray} {l : List TkN} {a : Nat} (h : TkS s l a) (ha : a < s.size) : TkS s (l ++ [tokAt s a]) (a + stepAt s a) := by
  obtain ⟨k, h1, h2, h3, h4⟩ := h
  obtain ⟨s1, s2⟩ := step_in ha
  refine ⟨k + 1, ?_, by simp [h2], by omega, s2⟩
  show (if _ then _ else _) = _
  rw [h1, if_pos ha]
theorem run_stay {s : ByteArray} {k : Nat} (h : ¬ (tkRun s k).2 < s.size) : ∀ j, tkRun s (k + j) = tkRun s k
  | 0 => rfl
  | j + 1 => by
    have e : tkRun s (k + (j + 1)) = if (tkRun s (k + j)).2 < s.size then ((tkRun s (k + j)).1 ++ [tokAt s (tkRun s (k + j)).2], (tkRun s (k + j)).2 + stepAt s (tkRun s (k + j)).2) else tkRun s (k + j) := rfl
    rw [e, run_stay h j, if_neg h]
theorem TkS.fin {s : ByteArray} {l : List TkN} {a : Nat} (h : TkS s l a) (ha : ¬ a < s.size) : l = tkL s := by
  obtain ⟨k, h1, h2, h3, h4⟩ := h
  have := run_stay (s := s) (k := k) (by rw [h1]; exact ha) (s.size - k)
  rw [show k + (s.size - k) = s.size by omega, h1] at this
  unfold tkL
  rw [this]
theorem TkS.len {s : ByteArray} {l : List TkN} {a : Nat} (h : TkS s l a) : l.length ≤ a ∧ a ≤ s.size := by
  obtain ⟨k, h1, h2, h3, h4⟩ := h
  omega
/-- as cells -/
def tkC (l : List TkN) : List Value := l.flatMap fun t => [.int .i64 (t.k : Int), .int .i64 (t.b : Int), .int .i64 (t.d : Int), .int .i64 (t.l : Int)]
theorem tkC_len (l : List TkN) : (tkC l).length = l.length * 4 := by
  induction l with
  | nil => rfl
  | cons t r ih => simp only [tkC, List.flatMap_cons, List.length_append, List.length_cons, List.length_nil] at ih ⊢; omega
theorem tkC_snoc (l : List TkN) (t : TkN) : tkC l ++ [Value.int .i64 (t.k : Int), .int .i64 (t.b : Int), .int .i64 (t.d : Int), .int .i64 (t.l : Int)] = tkC (l ++ [t]) := by simp [tkC]
theorem tok_byte {s : ByteArray} {a d : Nat} (h : IsB (g3 (lonF s a)) a d 0) : tokAt s a = ⟨0, bsOf s a, 0, 0⟩ ∧ stepAt s a = 1 := by
  have hlt := g3_none h
  have hb : ¬ 3 ≤ (best (lonF s a) a).2 := by
    rcases (best_is (lonF s a) a).2.2 with ⟨_, h0⟩ | ⟨h1, h2, h3, _⟩
    · omega
    · have := hlt _ h1 h2; omega
  unfold tokAt stepAt
  rw [if_neg hb, if_neg hb]
  exact ⟨rfl, rfl⟩
theorem tok_copy {s : ByteArray} {a d n : Nat} (h : IsB (g3 (lonF s a)) a d n) (hn : 0 < n) : tokAt s a = ⟨1, 0, d, n⟩ ∧ stepAt s a = n := by
  have hg := g3_big h hn
  obtain ⟨u1, u2⟩ := hg.uniq (best_is (lonF s a) a)
  have h3 : 3 ≤ n := by
    rcases h.2.2 with ⟨_, h0⟩ | ⟨_, _, c, _⟩
    · omega
    · unfold g3 at c; split at c <;> omega
  unfold tokAt stepAt
  rw [← u2, ← u1, if_pos h3, if_pos h3]
  exact ⟨rfl, rfl⟩
theorem Try.infT : (Try.prog.info? 106).map (fun i => (i.zero, i.size, i.bytes)) = some (some (.agg #[.int .i64 0, .int .i64 0, .int .i64 0, .int .i64 0]), 4, 32) := by kernel_rfl
theorem cell_four_new (w : World) (x0 x1 x2 x3 : Value) (t : TypeId) : ∀ j u, [x0, x1, x2, x3][j]? = some u → (w.alloc (.cells #[x0, x1, x2, x3] t)).cell? ((⟨w.heap.size, 0, none⟩ : Addr).add j) = some u := by
  intro j u hj
  have ea : (⟨w.heap.size, 0, none⟩ : Addr).add j = ⟨w.heap.size, j, none⟩ := by
    unfold Addr.add
    by_cases h0 : j = 0
    · subst h0; simp
    · simp [h0]
  rw [ea, World.cell?_alloc_mark]
  simpa using hj
theorem four_one (a b c d : Int) : ∀ u ∈ [Value.int .i64 a, .int .i64 b, .int .i64 c, .int .i64 d], u.oneCell' = true := by
  intro u hu
  simp only [List.mem_cons, List.not_mem_nil, or_false] at hu
  rcases hu with rfl | rfl | rfl | rfl <;> rfl
theorem owns_call4 {w w' : World} {B : Nat} {e : TypeId} {v : Value} {n : Nat} {xs : List Value} (h : w.ownsRow B e 4 v n xs) (hb : Below w.heap.size w w') : w'.ownsRow B e 4 v n xs := by
  obtain ⟨h0, h1 | ⟨g, cap, cur, h1, h2, h3, h4, h5, h6, h7⟩⟩ := h
  · exact ⟨h0, Or.inl h1⟩
  · exact ⟨h0, Or.inr ⟨g, cap, cur, h1, h2, (hb.block g (Array.getElem?_eq_some_iff.1 h3).1).trans h3, h4, h5, h6, h7⟩⟩
end Go.Proofs.Ytbkjcngehhdchaa
