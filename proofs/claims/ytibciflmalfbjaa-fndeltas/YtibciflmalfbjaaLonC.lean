/-
  The longest that stood before: the code's ways to seek it.
-/
import Derived.Test.YtibciflmalfbjaaLonS
import Derived.Test.YtibciflmalfbjaaShelfL
import Derived.Lib.LastIndexLaws
import Derived.Lib.Split
import Derived.Deep.RegionWith
import Derived.RegionTactic
namespace Go.Proofs.Ytibciflmalfbjaa
open Go.RowKit
set_option linter.unusedVariables false
set_option linter.unusedSimpArgs false

theorem bl_trans3 {B C : Nat} {a b c : World} (h : Below B a b) (k : Below C b c) (hBC : B ≤ C) : Below B a c :=
  ⟨k.os.trans h.os, k.tape.trans h.tape, k.output.trans h.output, Nat.le_trans h.size k.size, fun i hi => (k.block i (Nat.lt_of_lt_of_le hi hBC)).trans (h.block i hi)⟩
theorem mlen_ge {bs : Nat → Nat} {M a e l : Nat} (hl : l ≤ M) : l ≤ mlen bs M a e ↔ ∀ t, t < l → bs (a + t - e) = bs (a + t) := by
  obtain ⟨h1, h2, h3⟩ := mlen_spec bs M a e
  constructor
  · intro h t ht; exact h2 t (by omega)
  · intro h
    by_cases c : l ≤ mlen bs M a e
    · exact c
    · exfalso
      rcases h3 with h3 | h3
      · omega
      · exact h3 (h _ (by omega))
theorem ext_lst (s : ByteArray) (i j : Nat) : (s.extract i j).data.toList = (s.data.toList.drop i).take (j - i) := by
  rw [ByteArray.data_extract, Array.toList_extract, List.extract_eq_take_drop]
theorem bsOf_ext (s : ByteArray) (i j k : Nat) (hk : k < j - i) : bsOf (s.extract i j) k = bsOf s (i + k) := by
  unfold bsOf
  rw [ext_lst, List.getD_eq_getElem?_getD, List.getD_eq_getElem?_getD, List.getElem?_take, if_pos hk, List.getElem?_drop]
theorem toNat_getD (l : List UInt8) (i j : Nat) (hi : i < l.length) (hj : j < l.length) : (l.getD i 0).toNat = (l.getD j 0).toNat ↔ l[i]? = l[j]? := by
  rw [List.getD_eq_getElem?_getD, List.getD_eq_getElem?_getD, List.getElem?_eq_getElem hi, List.getElem?_eq_getElem hj]
  simp [UInt8.toNat_inj]
theorem occ_iff (s : ByteArray) (a l j : Nat) (hl : 1 ≤ l) (hj : j < a) (ha : a + l ≤ s.size) :
    Lib.occAt (s.extract 0 (a + l - 1)).data.toList (s.extract a (a + l)).data.toList j = true ↔ ∀ t, t < l → bsOf s (j + t) = bsOf s (a + t) := by
  have hsz : s.size = s.data.toList.length := Lib.size_eq s
  have hsub : (s.extract a (a + l)).data.toList = (s.data.toList.drop a).take l := by rw [ext_lst]; congr 1; omega
  have hsl : ((s.data.toList.drop a).take l).length = l := by rw [List.length_take, List.length_drop]; omega
  rw [hsub, Lib.occAt_iff_take _ _ _ (by rw [hsl, ext_lst, List.length_take, List.length_drop]; omega), hsl, ext_lst, List.drop_zero, Nat.sub_zero, beq_iff_eq]
  constructor
  · intro h t ht
    have e := congrArg (fun x : List UInt8 => x[t]?) h
    simp only [List.getElem?_take, List.getElem?_drop, if_pos ht] at e
    rw [if_pos (by omega)] at e
    unfold bsOf
    exact (toNat_getD _ _ _ (by omega) (by omega)).2 e
  · intro h
    apply List.ext_getElem?
    intro t
    by_cases ht : t < l
    · simp only [List.getElem?_take, List.getElem?_drop, if_pos ht]
      rw [if_pos (by omega)]
      have := h t ht
      unfold bsOf at this
      exact (toNat_getD _ _ _ (by omega) (by omega)).1 this
    · simp only [List.getElem?_take, if_neg ht]
set_option maxRecDepth 100000 in
set_option maxHeartbeats 1000000 in
theorem same_any (x y : ByteArray) (w : World) (h : y.size ≤ x.size) (hs : x.size ≤ 4000) :
    Calls Try.prog 65 #[.string x, .string y] w fun e w' => (∃ n : Nat, n ≤ y.size ∧ (∀ j, j < n → bsOf x j = bsOf y j) ∧ (n = y.size ∨ bsOf x n ≠ bsOf y n) ∧ e = .returned (.int .i64 (n : Int))) ∧ Below w.heap.size w w' := by
  go_enter Try.func65, Try.ntmps65
  go_wp2_with fail
  go_loopw [8] (fun c wr => ∃ n : Nat, n ≤ y.size ∧ c = .int .i64 (n : Int) ∧ Hid (∀ j, j < n → bsOf x j = bsOf y j) ∧ Below w.heap.size w wr) (fun c _ => y.size - (lonIntOf c).toNat)
  case atStart => exact ⟨0, by omega, rfl, fun j hj => absurd hj (by omega), Below.refl _ _⟩
  case round =>
    obtain ⟨n, hn, rfl, HE, hb⟩ := hrel
    by_cases hlt : n < y.size
    · have hlt' : (n : Int) < (y.size : Int) := by omega
      have hx1 : n < x.size := by omega
      have hx1' : (n : Int) < (x.size : Int) := by omega
      have b1 := bsOf_at x n hx1
      have b2 := bsOf_at y n hlt
      have l1 := bsOf_lt x n
      have l2 := bsOf_lt y n
      by_cases heq : bsOf x n = bsOf y n
      · have HE2 : Hid (∀ j, j < n + 1 → bsOf x j = bsOf y j) := fun j hj => by
          by_cases e : j = n
          · subst e; exact heq
          · exact HE.out j (by omega)
        rw [heq] at b1
        generalize bsOf y n = c2 at b1 b2 l2
        clear heq l1 HE
        go_wp2_with fail
        go_region
        go_wp2_with fail
        go_roundw
        case rel => exact ⟨n + 1, by omega, by go_num, HE2, hb.drew⟩
        case measure => simp [lonIntOf]; omega
      · have hne : ¬ ((bsOf x n : Nat) : Int) = ((bsOf y n : Nat) : Int) := by omega
        have hne' : (((bsOf x n : Nat) : Int) != ((bsOf y n : Nat) : Int)) = true := by simp; omega
        have HQ : Hid (bsOf x n ≠ bsOf y n) := heq
        clear heq
        generalize bsOf x n = c1 at b1 l1 hne hne' HQ
        generalize bsOf y n = c2 at b2 l2 hne hne' HQ
        go_wp2_with fail
        go_region
        go_wp2_with fail
        go_ret
        exact ⟨⟨n, hn, HE.out, Or.inr (by have := HQ.out; rwa [← b1, ← b2, bsOf_at x n hx1, bsOf_at y n hlt] at this), rfl⟩, hb.drew⟩
    · obtain rfl : n = y.size := by omega
      go_wp2_with fail
      go_ret
      exact ⟨⟨y.size, Nat.le_refl _, HE.out, Or.inl rfl, rfl⟩, hb⟩
end Go.Proofs.Ytibciflmalfbjaa
