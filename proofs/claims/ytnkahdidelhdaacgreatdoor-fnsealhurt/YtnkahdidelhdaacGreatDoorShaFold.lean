/-
  Many blocks: what they make of the state, as plain mathematics.
-/
import Derived.Test.YtnkahdidelhdaacGreatDoorShaSched
namespace Go.Proofs.YtnkahdidelhdaacGreatDoor

theorem wd_congr {a b : Nat → Nat} (h : ∀ j, j < 64 → a j = b j) : wd a = wd b := by
  funext j
  induction j using Nat.strongRecOn with
  | _ j ih =>
    by_cases hj : j < 16
    · rw [wd_low hj, wd_low hj, h (4 * j) (by omega), h (4 * j + 1) (by omega), h (4 * j + 2) (by omega), h (4 * j + 3) (by omega)]
    · rw [wd_high (bs := a) (j := j) (by omega), wd_high (bs := b) (j := j) (by omega), ih (j - 2) (by omega), ih (j - 7) (by omega), ih (j - 15) (by omega), ih (j - 16) (by omega)]
theorem blockV_congr {a b : Nat → Nat} (hv K : Nat → Int) (h : ∀ j, j < 64 → a j = b j) : blockV hv K a = blockV hv K b := by
  funext j
  unfold blockV
  rw [wd_congr h]
/-- the state behind so many blocks -/
def foldV (hv K : Nat → Int) (D : Nat → Nat) : Nat → (Nat → Int)
  | 0 => hv
  | i + 1 => blockV (foldV hv K D i) K (fun j => D (64 * i + j))
theorem foldV_congr {a b : Nat → Nat} (hv K : Nat → Int) : ∀ n, (∀ j, j < 64 * n → a j = b j) → foldV hv K a n = foldV hv K b n
  | 0, _ => rfl
  | n + 1, h => by
    show blockV _ K _ = blockV _ K _
    rw [foldV_congr hv K n (fun j hj => h j (by omega))]
    exact blockV_congr _ _ (fun j hj => h (64 * n + j) (by omega))
theorem foldV_add (hv K : Nat → Int) (D : Nat → Nat) (m : Nat) : ∀ n, foldV hv K D (m + n) = foldV (foldV hv K D m) K (fun j => D (64 * m + j)) n
  | 0 => rfl
  | n + 1 => by
    show blockV (foldV hv K D (m + n)) K (fun j => D (64 * (m + n) + j)) = blockV _ K _
    rw [foldV_add hv K D m n]
    refine blockV_congr _ _ (fun j _ => ?_)
    show D _ = D _
    congr 1; omega
theorem bsOf_extract (s : ByteArray) (a b j : Nat) (h : b ≤ s.size) (hj : a + j < b) : bsOf (s.extract a b) j = bsOf s (a + j) := by
  have h1 : j < (s.extract a b).size := by rw [ByteArray.size_extract]; omega
  rw [← bsOf_at _ _ h1, ← bsOf_at s (a + j) (by omega), ByteArray.getElem_extract]
theorem bsOf_append_left (s r : ByteArray) (j : Nat) (h : j < s.size) : bsOf (s ++ r) j = bsOf s j := by
  rw [← bsOf_at _ _ (by rw [ByteArray.size_append]; omega), ← bsOf_at s j h, ByteArray.getElem_append_left h]
theorem bsOf_append_right (s r : ByteArray) (j : Nat) (h1 : s.size ≤ j) (h : j < s.size + r.size) : bsOf (s ++ r) j = bsOf r (j - s.size) := by
  rw [← bsOf_at _ _ (by rw [ByteArray.size_append]; omega), ← bsOf_at r (j - s.size) (by omega), ByteArray.getElem_append_right h1]
end Go.Proofs.YtnkahdidelhdaacGreatDoor
