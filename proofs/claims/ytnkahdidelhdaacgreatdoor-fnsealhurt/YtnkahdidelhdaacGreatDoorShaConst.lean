/-
  The constants of SHA-256, and the digest of bytes, as plain mathematics.
-/
import Derived.Test.YtnkahdidelhdaacGreatDoorShaFold
import Derived.Test.YtnkahdidelhdaacGreatDoorShaHigh
namespace Go.Proofs.YtnkahdidelhdaacGreatDoor

def ivL : List Int := [1779033703, 3144134277, 1013904242, 2773480762, 1359893119, 2600822924, 528734635, 1541459225]
def ivF (j : Nat) : Int := ivL.getD j 0
def kL : List Int := [
  1116352408, 1899447441, 3049323471, 3921009573, 961987163, 1508970993, 2453635748, 2870763221,
  3624381080, 310598401, 607225278, 1426881987, 1925078388, 2162078206, 2614888103, 3248222580,
  3835390401, 4022224774, 264347078, 604807628, 770255983, 1249150122, 1555081692, 1996064986,
  2554220882, 2821834349, 2952996808, 3210313671, 3336571891, 3584528711, 113926993, 338241895,
  666307205, 773529912, 1294757372, 1396182291, 1695183700, 1986661051, 2177026350, 2456956037,
  2730485921, 2820302411, 3259730800, 3345764771, 3516065817, 3600352804, 4094571909, 275423344,
  430227734, 506948616, 659060556, 883997877, 958139571, 1322822218, 1537002063, 1747873779,
  1955562222, 2024104815, 2227730452, 2361852424, 2428436474, 2756734187, 3204031479, 3329325298]
def kF (j : Nat) : Int := kL.getD j 0
/-- how many noughts -/
def zs (n : Nat) : Nat := (119 - n % 64) % 64
theorem zs_lt (n : Nat) : zs n < 64 := by unfold zs; omega
theorem zs_mod (n : Nat) : (n + 9 + zs n) % 64 = 0 := by unfold zs; omega
/-- what stands behind so many bytes -/
def padB (n : Nat) : ByteArray := (⟨#[128]⟩ ++ ⟨(List.replicate (zs n) (0 : UInt8)).toArray⟩) ++ ⟨(bigL (8 * n) 8).toArray⟩
theorem padB_size (n : Nat) : (padB n).size = 9 + zs n := by
  have hX : (⟨(List.replicate (zs n) (0 : UInt8)).toArray⟩ : ByteArray).size = zs n := by show (List.replicate (zs n) (0 : UInt8)).toArray.size = zs n; simp
  have hY : (⟨(bigL (8 * n) 8).toArray⟩ : ByteArray).size = 8 := by show (bigL (8 * n) 8).toArray.size = 8; rw [List.size_toArray, bigL_len]
  have h1 : (⟨#[128]⟩ : ByteArray).size = 1 := rfl
  unfold padB
  rw [ByteArray.size_append, ByteArray.size_append, hX, hY, h1]; omega
/-- the state behind a whole message -/
def sumV (s : ByteArray) : Nat → Int := foldV ivF kF (bsOf (s ++ padB s.size)) ((s.size + 9 + zs s.size) / 64)
theorem blockV_bd (hv K : Nat → Int) (bs : Nat → Nat) (j : Nat) : 0 ≤ blockV hv K bs j ∧ blockV hv K bs j < 4294967296 := by
  unfold blockV; omega
theorem sumV_bd (s : ByteArray) (j : Nat) : 0 ≤ sumV s j ∧ sumV s j < 4294967296 := by
  unfold sumV
  obtain ⟨m, hm⟩ : ∃ m, (s.size + 9 + zs s.size) / 64 = m + 1 := ⟨(s.size + 9 + zs s.size) / 64 - 1, by have := zs_mod s.size; omega⟩
  rw [hm]
  exact blockV_bd _ _ _ _
/-- the bytes of so many words -/
def wordsL (f : Nat → Int) : Nat → List UInt8
  | 0 => []
  | k + 1 => wordsL f k ++ bigL (f k).toNat 4
theorem wordsL_len (f : Nat → Int) : ∀ k, (wordsL f k).length = 4 * k
  | 0 => rfl
  | k + 1 => by rw [wordsL, List.length_append, wordsL_len f k, bigL_len]; omega
/-- the digest -/
def sumL (s : ByteArray) : List UInt8 := wordsL (sumV s) 8
theorem sumL_len (s : ByteArray) : (sumL s).length = 32 := wordsL_len _ 8
def sumB (s : ByteArray) : ByteArray := ⟨(sumL s).toArray⟩
theorem sumB_size (s : ByteArray) : (sumB s).size = 32 := by show (sumL s).toArray.size = 32; rw [List.size_toArray, sumL_len]
/-- in two parts -/
theorem sumV_parts (s : ByteArray) (q p : Nat) (hp : p = 64 * q) (hq : q = s.size / 64) :
    foldV (foldV ivF kF (bsOf (s.extract 0 p)) q) kF (bsOf (s.extract p s.size ++ padB s.size)) ((s.size - p + 9 + zs s.size) / 64) = sumV s := by
  subst hp
  have hz := zs_mod s.size
  have hps := padB_size s.size
  unfold sumV
  rw [show (s.size + 9 + zs s.size) / 64 = q + (s.size - 64 * q + 9 + zs s.size) / 64 by omega, foldV_add]
  have e1 : foldV ivF kF (bsOf (s.extract 0 (64 * q))) q = foldV ivF kF (bsOf (s ++ padB s.size)) q :=
    foldV_congr _ _ _ (fun j hj => by
      rw [bsOf_extract s 0 (64 * q) j (by omega) (by omega), Nat.zero_add, bsOf_append_left _ _ _ (by omega)])
  rw [e1]
  refine foldV_congr _ _ _ (fun j hj => ?_)
  have hxs : (s.extract (64 * q) s.size).size = s.size - 64 * q := by rw [ByteArray.size_extract]; omega
  by_cases hlt : j < s.size - 64 * q
  · rw [bsOf_append_left _ _ _ (by omega), bsOf_extract s (64 * q) s.size j (by omega) (by omega), bsOf_append_left _ _ _ (by omega)]
  · rw [bsOf_append_right _ _ _ (by omega) (by omega), bsOf_append_right _ _ _ (by omega) (by omega), hxs]
    congr 1; omega
end Go.Proofs.YtnkahdidelhdaacGreatDoor
