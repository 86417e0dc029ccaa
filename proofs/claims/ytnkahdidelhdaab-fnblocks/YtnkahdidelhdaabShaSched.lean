/-
  What schedule answers: the words of a block.
-/
import Derived.Test.YtnkahdidelhdaabShaWord
import Derived.Laws.Rows
import Derived.Lib.Strings
import Derived.Deep.WholeRow
import Derived.WalkSmall
namespace Go.Proofs.Ytnkahdidelhdaab
open Go.RowKit

theorem pt_four (bs : Nat → Nat) (i : Nat) (h : i < 16) : ((pt bs i 4 : Nat) : Int) = wd bs i := by
  rw [wd_low h]; simp only [pt, Nat.zero_mul, Nat.zero_add, Nat.add_zero]
/-- the words' cells -/
def wdTab (bs : Nat → Nat) : Array Value := Array.ofFn fun i : Fin 64 => Value.int .u32 (wd bs i.val)
theorem wdTab_size (bs : Nat → Nat) : (wdTab bs).size = 64 := by simp [wdTab]
theorem wdTab_at (bs : Nat → Nat) (j : Nat) (h : j < 64) : (wdTab bs)[j]? = some (.int .u32 (wd bs j)) := by simp [wdTab, h]
theorem wdTab_one (bs : Nat → Nat) : (wdTab bs).all (·.oneCell') = true := by
  rw [Array.all_eq_true]
  intro i hi
  simp only [wdTab, Array.getElem_ofFn]
  rfl
theorem wdTab_eq {bs : Nat → Nat} {cur : Array Value} (hs : cur.size = 64) (h : ∀ j, j < 64 → cur[j]? = some (.int .u32 (wd bs j))) : cur = wdTab bs := by
  apply Array.ext_getElem?
  intro i
  by_cases hi : i < 64
  · rw [h i hi, wdTab_at bs i hi]
  · rw [Array.getElem?_eq_none (by omega), Array.getElem?_eq_none (by rw [wdTab_size]; omega)]

theorem set_get {cur : Array Value} {t k : Nat} {v : Value} (hs : cur.size = 64) (ht : t < 64) : (cur.setIfInBounds t v)[k]? = if t = k then some v else cur[k]? := by
  by_cases e : t = k
  · subst e; rw [if_pos rfl, Array.getElem?_setIfInBounds_self_of_lt (by omega)]
  · rw [if_neg e, Array.getElem?_setIfInBounds_ne e]

end Go.Proofs.Ytnkahdidelhdaab
