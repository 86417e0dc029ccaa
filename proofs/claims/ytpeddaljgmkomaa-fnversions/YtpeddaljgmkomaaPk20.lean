/-
  Several texts of this seat as one: LonC, DoM, DdM.
-/
import Derived.Test.YtpeddaljgmkomaaPk19
import Derived.Lib.LastIndexLaws
import Derived.Lib.Split
import Derived.Deep.RegionWith
import Derived.RegionTactic
import Derived.Test.YtpeddaljgmkomaaPk01
import Derived.Test.YtpeddaljgmkomaaPk11

/-!   The longest that stood before: the code's ways to seek it. -/
namespace Go.Proofs.Ytpeddaljgmkomaa
open Go.RowKit
set_option linter.unusedVariables false
set_option linter.unusedSimpArgs false

theorem bl_trans3 {B C : Nat} {a b c : World} (h : Below B a b) (k : Below C b c) (hBC : B ≤ C) : Below B a c :=
  ⟨k.os.trans h.os, k.tape.trans h.tape, k.output.trans h.output, Nat.le_trans h.size k.size, fun i hi => (k.block i (Nat.lt_of_lt_of_le hi hBC)).trans (h.block i hi)⟩
theorem mlen_ge {bs : Nat → Nat} {M a e l : Nat} (hl : l ≤ M) : l ≤ mlen bs M a e ↔ ∀ t, t < l → bs (a + t - e) = bs (a + t) := by
  obtain ⟨h1, h2, h3⟩ := mlen_spec bs M a e
  constructor
  · intro h t ht; exact h2 t (by omega)
  · intro h
    by_cases c : l ≤ mlen bs M a e
    · exact c
    · exfalso
      rcases h3 with h3 | h3
      · omega
      · exact h3 (h _ (by omega))
theorem ext_lst (s : ByteArray) (i j : Nat) : (s.extract i j).data.toList = (s.data.toList.drop i).take (j - i) := by
  rw [ByteArray.data_extract, Array.toList_extract, List.extract_eq_take_drop]
theorem bsOf_ext (s : ByteArray) (i j k : Nat) (hk : k < j - i) : bsOf (s.extract i j) k = bsOf s (i + k) := by
  unfold bsOf
  rw [ext_lst, List.getD_eq_getElem?_getD, List.getD_eq_getElem?_getD, List.getElem?_take, if_pos hk, List.getElem?_drop]
theorem toNat_getD (l : List UInt8) (i j : Nat) (hi : i < l.length) (hj : j < l.length) : (l.getD i 0).toNat = (l.getD j 0).toNat ↔ l[i]? = l[j]? := by
  rw [List.getD_eq_getElem?_getD, List.getD_eq_getElem?_getD, List.getElem?_eq_getElem hi, List.getElem?_eq_getElem hj]
  simp [UInt8.toNat_inj]
theorem occ_iff (s : ByteArray) (a l j : Nat) (hl : 1 ≤ l) (hj : j < a) (ha : a + l ≤ s.size) :
    Lib.occAt (s.extract 0 (a + l - 1)).data.toList (s.extract a (a + l)).data.toList j = true ↔ ∀ t, t < l → bsOf s (j + t) = bsOf s (a + t) := by
  have hsz : s.size = s.data.toList.length := Lib.size_eq s
  have hsub : (s.extract a (a + l)).data.toList = (s.data.toList.drop a).take l := by rw [ext_lst]; congr 1; omega
  have hsl : ((s.data.toList.drop a).take l).length = l := by rw [List.length_take, List.length_drop]; omega
  rw [hsub, Lib.occAt_iff_take _ _ _ (by rw [hsl, ext_lst, List.length_take, List.length_drop]; omega), hsl, ext_lst, List.drop_zero, Nat.sub_zero, beq_iff_eq]
  constructor
  · intro h t ht
    have e := congrArg (fun x : List UInt8 => x[t]?) h
    simp only [List.getElem?_take, List.getElem?_drop, if_pos ht] at e
    rw [if_pos (by omega)] at e
    unfold bsOf
    exact (toNat_getD _ _ _ (by omega) (by omega)).2 e
  · intro h
    apply List.ext_getElem?
    intro t
    by_cases ht : t < l
    · simp only [List.getElem?_take, List.getElem?_drop, if_pos ht]
      rw [if_pos (by omega)]
      have := h t ht
      unfold bsOf at this
      exact (toNat_getD _ _ _ (by omega) (by omega)).1 this
    · simp only [List.getElem?_take, if_neg ht]
set_option maxRecDepth 100000 in
set_option maxHeartbeats 1000000 in
theorem same_any (x y : ByteArray) (w : World) (h : y.size ≤ x.size) (hs : x.size ≤ 4000) :
    Calls Try.prog 105 #[.string x, .string y] w fun e w' => (∃ n : Nat, n ≤ y.size ∧ (∀ j, j < n → bsOf x j = bsOf y j) ∧ (n = y.size ∨ bsOf x n ≠ bsOf y n) ∧ e = .returned (.int .i64 (n : Int))) ∧ Below w.heap.size w w' := by
  go_enter Try.func105, Try.ntmps105
  go_wp2_with fail
  go_loopw [8] (fun c wr => ∃ n : Nat, n ≤ y.size ∧ c = .int .i64 (n : Int) ∧ Hid (∀ j, j < n → bsOf x j = bsOf y j) ∧ Below w.heap.size w wr) (fun c _ => y.size - (lonIntOf c).toNat)
  case atStart => exact ⟨0, by omega, rfl, fun j hj => absurd hj (by omega), Below.refl _ _⟩
  case round =>
    obtain ⟨n, hn, rfl, HE, hb⟩ := hrel
    by_cases hlt : n < y.size
    · have hlt' : (n : Int) < (y.size : Int) := by omega
      have hx1 : n < x.size := by omega
      have hx1' : (n : Int) < (x.size : Int) := by omega
      have b1 := bsOf_at x n hx1
      have b2 := bsOf_at y n hlt
      have l1 := bsOf_lt x n
      have l2 := bsOf_lt y n
      by_cases heq : bsOf x n = bsOf y n
      · have HE2 : Hid (∀ j, j < n + 1 → bsOf x j = bsOf y j) := fun j hj => by
          by_cases e : j = n
          · subst e; exact heq
          · exact HE.out j (by omega)
        rw [heq] at b1
        generalize bsOf y n = c2 at b1 b2 l2
        clear heq l1 HE
        go_wp2_with fail
        go_region
        go_wp2_with fail
        go_roundw
        case rel => exact ⟨n + 1, by omega, by go_num, HE2, hb.drew⟩
        case measure => simp [lonIntOf]; omega
      · have hne : ¬ ((bsOf x n : Nat) : Int) = ((bsOf y n : Nat) : Int) := by omega
        have hne' : (((bsOf x n : Nat) : Int) != ((bsOf y n : Nat) : Int)) = true := by simp; omega
        have HQ : Hid (bsOf x n ≠ bsOf y n) := heq
        clear heq
        generalize bsOf x n = c1 at b1 l1 hne hne' HQ
        generalize bsOf y n = c2 at b2 l2 hne hne' HQ
        go_wp2_with fail
        go_region
        go_wp2_with fail
        go_ret
        exact ⟨⟨n, hn, HE.out, Or.inr (by have := HQ.out; rwa [← b1, ← b2, bsOf_at x n hx1, bsOf_at y n hlt] at this), rfl⟩, hb.drew⟩
    · obtain rfl : n = y.size := by omega
      go_wp2_with fail
      go_ret
      exact ⟨⟨y.size, Nat.le_refl _, HE.out, Or.inl rfl, rfl⟩, hb⟩
end Go.Proofs.Ytpeddaljgmkomaa

/-!   What DeltaOf answers: plain mathematics. -/
namespace Go.Proofs.Ytpeddaljgmkomaa
open Go.RowKit
set_option linter.unusedVariables false
set_option linter.unusedSimpArgs false
/-- how many bytes are the same from p and a on, at most m beyond i -/
def cm (bo bs : Nat → Nat) (p a : Nat) : Nat → Nat → Nat
  | 0, i => i
  | m + 1, i => if bo (p + i) = bs (a + i) then cm bo bs p a m (i + 1) else i
theorem cm_spec (bo bs : Nat → Nat) (p a : Nat) : ∀ (m i : Nat), i ≤ cm bo bs p a m i ∧ cm bo bs p a m i ≤ i + m ∧ (∀ j, i ≤ j → j < cm bo bs p a m i → bo (p + j) = bs (a + j)) ∧ (cm bo bs p a m i = i + m ∨ bo (p + cm bo bs p a m i) ≠ bs (a + cm bo bs p a m i))
  | 0, i => ⟨Nat.le_refl _, Nat.le_refl _, fun j h1 h2 => absurd h2 (by show ¬ j < i; omega), Or.inl rfl⟩
  | m + 1, i => by
    by_cases h : bo (p + i) = bs (a + i)
    · have e : cm bo bs p a (m + 1) i = cm bo bs p a m (i + 1) := by show (if _ then _ else _) = _; rw [if_pos h]
      obtain ⟨h1, h2, h3, h4⟩ := cm_spec bo bs p a m (i + 1)
      rw [e]
      refine ⟨by omega, by omega, fun j q1 q2 => ?_, ?_⟩
      · by_cases ej : j = i
        · subst ej; exact h
        · exact h3 j (by omega) q2
      · rcases h4 with h4 | h4
        · exact Or.inl (by omega)
        · exact Or.inr h4
    · have e : cm bo bs p a (m + 1) i = i := by show (if _ then _ else _) = _; rw [if_neg h]
      rw [e]
      exact ⟨Nat.le_refl _, by omega, fun j q1 q2 => absurd q2 (by omega), Or.inr h⟩
def clM (o s : ByteArray) (p a : Nat) : Nat := min (o.size - p) (s.size - a)
def cl (o s : ByteArray) (p a : Nat) : Nat := cm (bsOf o) (bsOf s) p a (clM o s p a) 0
theorem cl_spec (o s : ByteArray) (p a : Nat) : cl o s p a ≤ clM o s p a ∧ (∀ j, j < cl o s p a → bsOf o (p + j) = bsOf s (a + j)) ∧ (cl o s p a = clM o s p a ∨ bsOf o (p + cl o s p a) ≠ bsOf s (a + cl o s p a)) := by
  obtain ⟨h1, h2, h3, h4⟩ := cm_spec (bsOf o) (bsOf s) p a (clM o s p a) 0
  rw [Nat.zero_add] at h2 h4
  exact ⟨h2, fun j hj => h3 j (Nat.zero_le _) hj, h4⟩
theorem cl_eq {o s : ByteArray} {p a n : Nat} (h1 : n ≤ clM o s p a) (h2 : ∀ j, j < n → bsOf o (p + j) = bsOf s (a + j)) (h3 : n = clM o s p a ∨ bsOf o (p + n) ≠ bsOf s (a + n)) : cl o s p a = n := by
  obtain ⟨k1, k2, k3⟩ := cl_spec o s p a
  rcases Nat.lt_trichotomy (cl o s p a) n with h | h | h
  · rcases k3 with k3 | k3
    · omega
    · exact absurd (h2 _ h) k3
  · exact h
  · rcases h3 with h3 | h3
    · omega
    · exact absurd (k2 _ h) h3
def fo (o s : ByteArray) (a e : Nat) : Nat := cl o s (e - 1) a
/-- the longest that stands in the old text: one behind its place, its length -/
def bo (o s : ByteArray) (a : Nat) : Nat × Nat := best (fo o s a) o.size
theorem bo_le (o s : ByteArray) (a : Nat) : (bo o s a).1 ≤ o.size ∧ (bo o s a).2 ≤ s.size - a ∧ ((bo o s a).2 = 0 ∨ 1 ≤ (bo o s a).1 ∧ cl o s ((bo o s a).1 - 1) a = (bo o s a).2) := by
  obtain ⟨_, _, h⟩ := best_is (fo o s a) o.size
  have e : bo o s a = best (fo o s a) o.size := rfl
  rw [← e] at h
  rcases h with ⟨h1, h2⟩ | ⟨h1, h2, h3, h4⟩
  · rw [h1, h2]; exact ⟨Nat.zero_le _, Nat.zero_le _, Or.inl rfl⟩
  · have h5 : cl o s ((bo o s a).1 - 1) a = (bo o s a).2 := h3
    have h6 := (cl_spec o s ((bo o s a).1 - 1) a).1
    unfold clM at h6
    exact ⟨h2, by omega, Or.inr ⟨h1, h5⟩⟩
/-- a piece of data, where there is any -/
def wDat (acc : List PcI) (d : ByteArray) : List PcI := if d.size = 0 then acc else acc ++ [⟨0, 0, d⟩]
theorem wDat_no {acc : List PcI} {d : ByteArray} (h : d.size = 0) : wDat acc d = acc := by unfold wDat; rw [if_pos h]
theorem wDat_yes {acc : List PcI} {d : ByteArray} (h : d.size ≠ 0) : wDat acc d = acc ++ [⟨0, 0, d⟩] := by unfold wDat; rw [if_neg h]
theorem wDat_len (acc : List PcI) (d : ByteArray) : acc.length ≤ (wDat acc d).length ∧ (wDat acc d).length ≤ acc.length + 1 := by
  unfold wDat
  split
  · omega
  · rw [List.length_append]; exact ⟨Nat.le_add_right _ _, Nat.le_refl _⟩
/-- the pieces from place a on; what is told ends at t -/
def dl (o s : ByteArray) : Nat → Nat → Nat → List PcI → List PcI
  | 0, a, t, acc => wDat acc (s.extract t s.size)
  | k + 1, a, t, acc => if a < s.size then (if (bo o s a).2 < 6 then dl o s k (a + 1) t acc else dl o s k (a + (bo o s a).2) (a + (bo o s a).2) (wDat acc (s.extract t a) ++ [⟨((bo o s a).1 - 1 : Nat), ((bo o s a).2 : Nat), ⟨#[]⟩⟩])) else wDat acc (s.extract t s.size)
theorem dl_end {o s : ByteArray} {a t : Nat} {acc : List PcI} (h : ¬ a < s.size) : ∀ k, dl o s k a t acc = wDat acc (s.extract t s.size)
  | 0 => rfl
  | k + 1 => by show (if _ then _ else _) = _; rw [if_neg h]
theorem dl_byte {o s : ByteArray} {k a t : Nat} {acc : List PcI} (h : a < s.size) (h1 : (bo o s a).2 < 6) : dl o s (k + 1) a t acc = dl o s k (a + 1) t acc := by
  show (if _ then _ else _) = _
  rw [if_pos h, if_pos h1]
theorem dl_piece {o s : ByteArray} {k a t : Nat} {acc : List PcI} (h : a < s.size) (h1 : ¬ (bo o s a).2 < 6) : dl o s (k + 1) a t acc = dl o s k (a + (bo o s a).2) (a + (bo o s a).2) (wDat acc (s.extract t a) ++ [⟨((bo o s a).1 - 1 : Nat), ((bo o s a).2 : Nat), ⟨#[]⟩⟩]) := by
  show (if _ then _ else _) = _
  rw [if_pos h, if_neg h1]
def doL (o s : ByteArray) : List PcI := dl o s s.size 0 0 []
def doD (o s : ByteArray) : Option (List PcI) := if 4000 < o.size ∨ 4000 < s.size then none else if 500 < (doL o s).length then none else some (doL o s)
theorem doD_len (o s : ByteArray) : ((doD o s).getD []).length ≤ 500 := by
  unfold doD
  split
  · exact Nat.zero_le _
  · split
    · exact Nat.zero_le _
    · rename_i h
      show (doL o s).length ≤ 500
      omega
def DoPost (w : World) (R : Option (List PcI)) (e : Ending) (w' : World) : Prop := (∃ v, e = .returned (.tuple #[v, .bool R.isSome]) ∧ w'.ownsRow w.heap.size 89 3 v (R.getD []).length (pcC (R.getD []))) ∧ Below w.heap.size w w'
theorem do_nil {w w' : World} (h : Below w.heap.size w w') : DoPost w none (.returned (.tuple #[.slice none 0 0, .bool false])) w' := ⟨⟨_, rfl, rfl, Or.inl ⟨rfl, rfl⟩⟩, h⟩
theorem do_ne {d : ByteArray} (h : 1 ≤ d.size) : d.toList.isEmpty = false := by
  rw [ByteArray.toList_eq]
  cases hd : d.data.toList with
  | nil =>
    exfalso
    have e : d.size = d.data.toList.length := by show d.data.size = _; simp
    rw [hd] at e
    have e0 : ([] : List UInt8).length = 0 := rfl
    omega
  | cons x r => rfl
theorem do_zero {d : ByteArray} (h : d.size = 0) : d = ⟨#[]⟩ := by
  have e : d.data.size = 0 := h
  cases d; simp at e; subst e; rfl
theorem do_ext (s : ByteArray) (t a c : Nat) (h1 : t ≤ a) (h2 : a ≤ c) (h3 : c ≤ s.size) : s.extract t a ++ s.extract a c = s.extract t c := by
  apply ByteArray.ext
  apply Array.ext'
  have h := ext_lst s t a
  have h' := ext_lst s a c
  have h'' := ext_lst s t c
  rw [ByteArray.data_append, Array.toList_append, h, h', h'']
  have e : s.data.toList.drop a = (s.data.toList.drop t).drop (a - t) := by rw [List.drop_drop]; congr 1; omega
  rw [e, show c - t = (a - t) + (c - a) by omega, List.take_add]
/-- a list under way -/
structure DO (w wr : World) (v : Value) (acc : List PcI) : Prop where
  own : wr.ownsRow w.heap.size 89 3 v acc.length (pcC acc)
  below : Below w.heap.size w wr
theorem DO.drewN {w wr : World} {v : Value} {acc : List PcI} (h : DO w wr v acc) (n : Nat) : DO w (wr.drewN n) v acc := ⟨h.own, below_drewN h.below n⟩
theorem DO.call {w wr w' : World} {v : Value} {acc : List PcI} (h : DO w wr v acc) (hb : Below wr.heap.size wr w') : DO w w' v acc := ⟨own3_call h.own hb, bl3 h.below hb h.below.size⟩
theorem DO.put {w wr w4 : World} {v v' : Value} {acc : List PcI} {p : PcI} (h : DO w wr v acc) (X : Obj)
    (h1 : w4.ownsRow w.heap.size 89 3 v' (acc.length + 1) (pcC acc ++ [.int .i64 p.f, .int .i64 p.l, .string p.d])) (h2 : (wr.alloc X).grownBy w4 v.ownBlock) : DO w w4 v' (acc ++ [p]) := by
  have hsz := h.below.size
  refine ⟨?_, (h.below.alloc hsz _).grown h2 (by simp; omega) (fun k hk => (h.own.lt k hk).1)⟩
  rw [pcC_snoc] at h1
  rw [List.length_append]; exact h1
end Go.Proofs.Ytpeddaljgmkomaa

/-!   What DeltaOf answers makes the new text of the old one: plain mathematics. -/
namespace Go.Proofs.Ytpeddaljgmkomaa
open Go.RowKit
set_option linter.unusedVariables false
set_option linter.unusedSimpArgs false
theorem ba_bs {x y : ByteArray} (hs : x.size = y.size) (h : ∀ j, j < x.size → bsOf x j = bsOf y j) : x = y := by
  have hx : x.data.toList.length = x.size := by show _ = x.data.size; simp
  have hy : y.data.toList.length = y.size := by show _ = y.data.size; simp
  apply ByteArray.ext
  apply Array.ext'
  apply List.ext_getElem (by omega)
  intro i h1 h2
  have h3 := h i (by omega)
  unfold bsOf at h3
  rw [List.getD_eq_getElem?_getD, List.getD_eq_getElem?_getD, List.getElem?_eq_getElem h1, List.getElem?_eq_getElem h2] at h3
  exact UInt8.toNat_inj.1 h3
theorem patB_same {o : ByteArray} {F G : Nat → PcI} : ∀ n, (∀ i, i < n → F i = G i) → patB o F n = patB o G n
  | 0, _ => rfl
  | n + 1, h => by
    show patB o F n ++ pcTx o (F n) = patB o G n ++ pcTx o (G n)
    rw [patB_same n (fun i hi => h i (by omega)), h n (by omega)]
theorem pcF_lo (L : List PcI) (p : PcI) {i : Nat} (h : i < L.length) : pcF (L ++ [p]) i = pcF L i := by
  unfold pcF
  rw [List.getD_eq_getElem?_getD, List.getD_eq_getElem?_getD, List.getElem?_append_left h]
theorem pcF_hi (L : List PcI) (p : PcI) : pcF (L ++ [p]) L.length = p := by
  unfold pcF
  rw [List.getD_eq_getElem?_getD, List.getElem?_append_right (Nat.le_refl _), Nat.sub_self]; rfl
theorem patB_snoc (o : ByteArray) (L : List PcI) (p : PcI) : patB o (pcF (L ++ [p])) (L ++ [p]).length = patB o (pcF L) L.length ++ pcTx o p := by
  have e : (L ++ [p]).length = L.length + 1 := by simp
  rw [e]
  show patB o (pcF (L ++ [p])) L.length ++ pcTx o (pcF (L ++ [p]) L.length) = _
  rw [patB_same L.length (fun i hi => pcF_lo L p hi), pcF_hi]
/-- what is told so far makes the new text up to t -/
def Good (o s : ByteArray) (acc : List PcI) (t : Nat) : Prop := (∀ p ∈ acc, pcP p (o.size : Int)) ∧ patB o (pcF acc) acc.length = s.extract 0 t
theorem Good.snoc {o s : ByteArray} {acc : List PcI} {t a : Nat} {p : PcI} (h : Good o s acc t) (hp : pcP p (o.size : Int)) (ht : pcTx o p = s.extract t a) (h1 : t ≤ a) (h2 : a ≤ s.size) : Good o s (acc ++ [p]) a := by
  refine ⟨fun x hx => ?_, ?_⟩
  · rcases List.mem_append.1 hx with c | c
    · exact h.1 x c
    · obtain rfl : x = p := by simpa using c
      exact hp
  · rw [patB_snoc, h.2, ht]
    exact do_ext s 0 t a (by omega) h1 h2
theorem Good.wDat {o s : ByteArray} {acc : List PcI} {t a : Nat} (h : Good o s acc t) (h1 : t ≤ a) (h2 : a ≤ s.size) : Good o s (wDat acc (s.extract t a)) a := by
  have hz : (s.extract t a).size = a - t := by rw [ByteArray.size_extract]; omega
  by_cases h0 : (s.extract t a).size = 0
  · rw [wDat_no h0]
    obtain rfl : t = a := by omega
    exact h
  · rw [wDat_yes h0]
    have hne : s.extract t a ≠ ⟨#[]⟩ := fun e => h0 (by rw [e]; rfl)
    exact h.snoc (Or.inr ⟨hne, rfl, rfl⟩) (pcTx_yes hne) h1 h2
theorem good_copy {o s : ByteArray} {acc : List PcI} {a : Nat} (ha : a < s.size) (h : Good o s acc a) (h6 : ¬ (bo o s a).2 < 6) : Good o s (acc ++ [⟨((bo o s a).1 - 1 : Nat), ((bo o s a).2 : Nat), ⟨#[]⟩⟩]) (a + (bo o s a).2) := by
  obtain ⟨h1, h2, h3⟩ := bo_le o s a
  rcases h3 with h3 | ⟨h3, h4⟩
  · omega
  · obtain ⟨k1, k2, k3⟩ := cl_spec o s ((bo o s a).1 - 1) a
    rw [h4] at k1 k2
    unfold clM at k1
    generalize (bo o s a).1 - 1 = p at k1 k2 ⊢
    generalize (bo o s a).2 = n at h6 h2 k1 k2 ⊢
    refine h.snoc (Or.inl ⟨rfl, by show (1 : Int) ≤ (n : Int); omega, by show (n : Int) ≤ _; omega, by show (0 : Int) ≤ (p : Int); omega, by show (p : Int) ≤ _ - (n : Int); omega⟩) ?_ (by omega) (by omega)
    rw [pcTx_no rfl]
    show o.extract (p : Int).toNat ((p : Int) + (n : Int)).toNat = _
    rw [Int.toNat_natCast, show ((p : Int) + (n : Int)).toNat = p + n by omega]
    have z1 : (o.extract p (p + n)).size = n := by rw [ByteArray.size_extract]; omega
    have z2 : (s.extract a (a + n)).size = n := by rw [ByteArray.size_extract]; omega
    refine ba_bs (by omega) fun j hj => ?_
    rw [bsOf_ext _ _ _ _ (by omega), bsOf_ext _ _ _ _ (by omega)]
    exact k2 j (by omega)
theorem good_dl {o s : ByteArray} : ∀ (k a t : Nat) (acc : List PcI), t ≤ a → a ≤ s.size → s.size ≤ a + k → Good o s acc t → Good o s (dl o s k a t acc) s.size
  | 0, a, t, acc, h1, h2, h3, h => by
    have e : dl o s 0 a t acc = wDat acc (s.extract t s.size) := rfl
    rw [e]
    exact h.wDat (by omega) (Nat.le_refl _)
  | k + 1, a, t, acc, h1, h2, h3, h => by
    by_cases hlt : a < s.size
    · by_cases h6 : (bo o s a).2 < 6
      · rw [dl_byte hlt h6]
        exact good_dl k (a + 1) t acc (by omega) (by omega) (by omega) h
      · rw [dl_piece hlt h6]
        have hb := (bo_le o s a).2.1
        exact good_dl k _ _ _ (Nat.le_refl _) (by omega) (by omega) (good_copy hlt (h.wDat h1 (by omega)) h6)
    · rw [dl_end hlt]
      exact h.wDat (by omega) (Nat.le_refl _)
theorem doL_good (o s : ByteArray) (ho : o.size ≤ 4000) (hs : s.size ≤ 4000) (hl : (doL o s).length ≤ 500) : pcR (pcF (doL o s)) (doL o s).length (o.size : Int) ∧ patB o (pcF (doL o s)) (doL o s).length = s := by
  have h : Good o s (doL o s) s.size := good_dl s.size 0 0 [] (Nat.le_refl _) (Nat.zero_le _) (by omega) ⟨fun p hp => (by cases hp), (do_zero (by rw [ByteArray.size_extract]; omega)).symm⟩
  have hp : ∀ i, i < (doL o s).length → pcP (pcF (doL o s) i) (o.size : Int) := fun i hi => by
    have e : pcF (doL o s) i = (doL o s)[i] := by unfold pcF; rw [List.getD_eq_getElem?_getD, List.getElem?_eq_getElem hi]; rfl
    rw [e]; exact h.1 _ (List.getElem_mem hi)
  have hx := h.2
  rw [ByteArray.extract_zero_size] at hx
  have hz := patB_size hp
  rw [hx] at hz
  exact ⟨⟨by omega, by omega, hl, hp, by omega⟩, hx⟩
theorem doL_same (o : ByteArray) (h : 6 ≤ o.size) : doL o o = [⟨0, (o.size : Int), ⟨#[]⟩⟩] := by
  have hf1 : fo o o 0 1 = o.size := by
    show cl o o (1 - 1) 0 = _
    exact cl_eq (by unfold clM; omega) (fun j _ => rfl) (Or.inl (by unfold clM; omega))
  have hb : IsB (fo o o 0) o.size 1 o.size := by
    refine ⟨fun e _ _ => ?_, fun e h1 h2 => by omega, Or.inr ⟨Nat.le_refl _, by omega, hf1, by omega⟩⟩
    have := (cl_spec o o (e - 1) 0).1
    unfold clM at this
    show cl o o (e - 1) 0 ≤ o.size
    omega
  obtain ⟨e1, e2⟩ := (best_is (fo o o 0) o.size).uniq hb
  have eb : bo o o 0 = best (fo o o 0) o.size := rfl
  rw [← eb] at e1 e2
  have hk : ∃ k, o.size = k + 1 := ⟨o.size - 1, by omega⟩
  obtain ⟨k, hk⟩ := hk
  have e3 : doL o o = dl o o (k + 1) 0 0 [] := by unfold doL; rw [hk]
  rw [e3, dl_piece (by omega) (by omega), e1, e2, dl_end (by omega)]
  have z0 : (o.extract 0 0).size = 0 := by rw [ByteArray.size_extract]; omega
  have z1 : (o.extract (0 + o.size) o.size).size = 0 := by rw [ByteArray.size_extract]; omega
  rw [wDat_no z0, wDat_no z1]; rfl
theorem dl_len {o s : ByteArray} : ∀ (k a t : Nat) (acc : List PcI), t ≤ a → a ≤ s.size → s.size ≤ a + k → (dl o s k a t acc).length ≤ acc.length + (s.size - t) + 1
  | 0, a, t, acc, h1, h2, h3 => by
    have e : dl o s 0 a t acc = wDat acc (s.extract t s.size) := rfl
    rw [e]
    have := wDat_len acc (s.extract t s.size)
    omega
  | k + 1, a, t, acc, h1, h2, h3 => by
    by_cases hlt : a < s.size
    · by_cases h6 : (bo o s a).2 < 6
      · rw [dl_byte hlt h6]
        exact dl_len k (a + 1) t acc (by omega) (by omega) (by omega)
      · rw [dl_piece hlt h6]
        have hb := (bo_le o s a).2.1
        have hw := wDat_len acc (s.extract t a)
        have := dl_len (o := o) (s := s) k (a + (bo o s a).2) (a + (bo o s a).2) (wDat acc (s.extract t a) ++ [⟨((bo o s a).1 - 1 : Nat), ((bo o s a).2 : Nat), ⟨#[]⟩⟩]) (Nat.le_refl _) (by omega) (by omega)
        rw [List.length_append] at this
        have e1 : ([(⟨((bo o s a).1 - 1 : Nat), ((bo o s a).2 : Nat), ⟨#[]⟩⟩ : PcI)]).length = 1 := rfl
        omega
    · rw [dl_end hlt]
      have := wDat_len acc (s.extract t s.size)
      omega
theorem doL_self (o : ByteArray) : (doL o o).length ≤ 500 := by
  by_cases h : 6 ≤ o.size
  · rw [doL_same o h]; show 1 ≤ 500; omega
  · have := dl_len (o := o) (s := o) o.size 0 0 [] (Nat.le_refl _) (Nat.zero_le _) (by omega)
    show (dl o o o.size 0 0 []).length ≤ 500
    have e : ([] : List PcI).length = 0 := rfl
    omega
end Go.Proofs.Ytpeddaljgmkomaa
