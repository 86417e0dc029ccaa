/-
  What wordAt answers: four bytes as a word.
-/
import Derived.Test.YtibciflmalfbjaaShaMath
import Derived.Laws.Rows
import Derived.Lib.Strings
import Derived.Deep.WholeRow
import Derived.WalkSmall
namespace Go.Proofs.Ytibciflmalfbjaa
open Go.RowKit

def bsOf (s : ByteArray) (j : Nat) : Nat := (s.data.toList.getD j 0).toNat
theorem bsOf_lt (s : ByteArray) (j : Nat) : bsOf s j < 256 := UInt8.toNat_lt _
theorem bsOf_at (s : ByteArray) (j : Nat) (h : j < s.size) : s[j].toNat = bsOf s j := by
  unfold bsOf
  rw [List.getD_eq_getElem?_getD, List.getElem?_eq_getElem (by rw [← Lib.size_eq]; exact h)]; rfl
/-- the first bytes of a word -/
def pt (bs : Nat → Nat) (i : Nat) : Nat → Nat
  | 0 => 0
  | j + 1 => pt bs i j * 256 + bs (4 * i + j)
theorem pt_lt {bs : Nat → Nat} (hb : ∀ j, bs j < 256) (i : Nat) : ∀ j, j < 4 → pt bs i j < 16777216 := by
  intro j hj
  have h0 := hb (4 * i + 0)
  have h1 := hb (4 * i + 1)
  have h2 := hb (4 * i + 2)
  match j, hj with
  | 0, _ => simp [pt]
  | 1, _ => simp only [pt]; omega
  | 2, _ => simp only [pt]; omega
  | 3, _ => simp only [pt]; omega

set_option maxRecDepth 100000 in
set_option maxHeartbeats 1000000 in
theorem word_any (s : ByteArray) (i : Nat) (w : World) (hs : 4 * i + 4 ≤ s.size) (hi : i < 1000000) :
    Calls Try.prog 74 #[.string s, .int .i64 (i : Int)] w fun e w' => e = .returned (.int .u32 (pt (bsOf s) i 4 : Nat)) ∧ w' = w := by
  go_enter Try.func74, Try.ntmps74
  go_wp2_with fail
  go_loop [5, 7] (fun p c => ∃ j : Nat, j ≤ 4 ∧ c = .int .i64 (j : Int) ∧ p = .int .u32 (pt (bsOf s) i j : Nat)) (fun _ c => 4 - (shaIntOf c).toNat)
  case atStart => exact ⟨0, by omega, rfl, rfl⟩
  case round =>
    obtain ⟨j, hj, rfl, rfl⟩ := hrel
    by_cases hj4 : j < 4
    · have hp := pt_lt (bsOf_lt s) i j hj4
      have hx1 : 4 * i + j < s.size := by omega
      have hx2 : 4 * (i : Int) + j < s.size := by omega
      have hx3 : 0 ≤ 4 * (i : Int) + j := by omega
      have hb := bsOf_at s (4 * i + j) hx1
      have hbl := bsOf_lt s (4 * i + j)
      have hor := or_byte (pt (bsOf s) i j) (bsOf s (4 * i + j)) hp hbl
      have HPT : Hid (pt (bsOf s) i (j + 1) = pt (bsOf s) i j * 256 + bsOf s (4 * i + j)) := rfl
      generalize pt (bsOf s) i j = p at hp hor HPT
      generalize bsOf s (4 * i + j) = b at hb hbl hor HPT
      go_wp2_with fail
      go_round
      case rel => exact ⟨j + 1, by omega, by go_num, by rw [HPT.out]; rfl⟩
      case measure => simp [shaIntOf]; omega
    · obtain rfl : j = 4 := by omega
      go_wp2_with fail
      go_ret
      exact ⟨rfl, rfl⟩
end Go.Proofs.Ytibciflmalfbjaa
