/-
  Two blocks are not made one: each step of a round can be undone.
-/
import Derived.Test.YtnkahdidelhdaabEncC
import Derived.Test.YtnkahdidelhdaabCntS
namespace Go.Proofs.Ytnkahdidelhdaab
open Go.RowKit
set_option linter.unusedVariables false

def unbox : List Nat := [
  82, 9, 106, 213, 48, 54, 165, 56, 191, 64, 163, 158, 129, 243, 215, 251,
  124, 227, 57, 130, 155, 47, 255, 135, 52, 142, 67, 68, 196, 222, 233, 203,
  84, 123, 148, 50, 166, 194, 35, 61, 238, 76, 149, 11, 66, 250, 195, 78,
  8, 46, 161, 102, 40, 217, 36, 178, 118, 91, 162, 73, 109, 139, 209, 37,
  114, 248, 246, 100, 134, 104, 152, 22, 212, 164, 92, 204, 93, 101, 182, 146,
  108, 112, 72, 80, 253, 237, 185, 218, 94, 21, 70, 87, 167, 141, 157, 132,
  144, 216, 171, 0, 140, 188, 211, 10, 247, 228, 88, 5, 184, 179, 69, 6,
  208, 44, 30, 143, 202, 63, 15, 2, 193, 175, 189, 3, 1, 19, 138, 107,
  58, 145, 17, 65, 79, 103, 220, 234, 151, 242, 207, 206, 240, 180, 230, 115,
  150, 172, 116, 34, 231, 173, 53, 133, 226, 249, 55, 232, 28, 117, 223, 110,
  71, 241, 26, 113, 29, 41, 197, 137, 111, 183, 98, 14, 170, 24, 190, 27,
  252, 86, 62, 75, 198, 210, 121, 32, 154, 219, 192, 254, 120, 205, 90, 244,
  31, 221, 168, 51, 136, 7, 199, 49, 177, 18, 16, 89, 39, 128, 236, 95,
  96, 81, 127, 169, 25, 181, 74, 13, 45, 229, 122, 159, 147, 201, 156, 239,
  160, 224, 59, 77, 174, 42, 245, 176, 200, 235, 187, 60, 131, 83, 153, 97,
  23, 43, 4, 126, 186, 119, 214, 38, 225, 105, 20, 99, 85, 33, 12, 125]
theorem unbox_ok : ∀ x, x < 256 → unbox.getD (sbox x) 0 = x := by
  have k : ∀ x : Fin 256, unbox.getD (sbox x.val) 0 = x.val := by decide +kernel
  exact fun x hx => k ⟨x, hx⟩
theorem sbox_inj {x y : Nat} (hx : x < 256) (hy : y < 256) (h : sbox x = sbox y) : x = y := by
  rw [← unbox_ok x hx, ← unbox_ok y hy, h]

theorem xor_back {a b c : Nat} (h : a ^^^ c = b ^^^ c) : a = b := by
  have e := congrArg (· ^^^ c) h
  simpa [Nat.xor_assoc] using e
theorem addB_inj {s t w : Nat → Nat} {r : Nat} (h : ∀ i, i < 16 → addB s w r i = addB t w r i) : ∀ i, i < 16 → s i = t i := fun i hi => xor_back (h i hi)
theorem subsB_inj {s t : Nat → Nat} (hs : ∀ i, s i < 256) (ht : ∀ i, t i < 256) (h : ∀ i, i < 16 → subsB s i = subsB t i) : ∀ i, i < 16 → s i = t i := fun i hi => by
  have e := h ((i + 12 * (i % 4)) % 16) (by omega)
  have e2 := sbox_inj (hs _) (ht _) e
  rwa [show ((i + 12 * (i % 4)) % 16 + 4 * ((i + 12 * (i % 4)) % 16 % 4)) % 16 = i by omega] at e2
theorem mul_zero (a : Nat) : mulB a 0 = 0 := gm_zero 8 a 0
/-- the first byte of a column, out of what is made of it -/
theorem unmix {a b c d : Nat} (ha : a < 256) (hb : b < 256) (hc : c < 256) (hd : d < 256) :
    mulB (mx a b c d) 14 ^^^ mulB (mx b c d a) 11 ^^^ mulB (mx c d a b) 13 ^^^ mulB (mx d a b c) 9 = a := by
  have e : ∀ x y z u k, x < 256 → y < 256 → z < 256 → u < 256 → k < 256 → mulB (mx x y z u) k = mulB x (mulB 2 k) ^^^ mulB y (mulB 3 k) ^^^ mulB z k ^^^ mulB u k := fun x y z u k hx hy hz hu hk => by
    have h1 := mulB_lt x 2 hx
    have h2 := mulB_lt y 3 hy
    unfold mx
    rw [mul_xorl (xor_byte (xor_byte h1 h2) hz) hu, mul_xorl (xor_byte h1 h2) hz, mul_xorl h1 h2, mul_assoc hx (by omega) hk, mul_assoc hy (by omega) hk]
  rw [e _ _ _ _ _ ha hb hc hd (by omega), e _ _ _ _ _ hb hc hd ha (by omega), e _ _ _ _ _ hc hd ha hb (by omega), e _ _ _ _ _ hd ha hb hc (by omega)]
  have sa : mulB a (mulB 2 14) ^^^ mulB a 11 ^^^ mulB a 13 ^^^ mulB a (mulB 3 9) = a := by
    rw [← mul_xorr, ← mul_xorr, ← mul_xorr, show mulB 2 14 ^^^ 11 ^^^ 13 ^^^ mulB 3 9 = 1 by decide +kernel, mul_one ha]
  have sb : mulB b (mulB 3 14) ^^^ mulB b (mulB 2 11) ^^^ mulB b 13 ^^^ mulB b 9 = 0 := by
    rw [← mul_xorr, ← mul_xorr, ← mul_xorr, show mulB 3 14 ^^^ mulB 2 11 ^^^ 13 ^^^ 9 = 0 by decide +kernel, mul_zero]
  have sc : mulB c 14 ^^^ mulB c (mulB 3 11) ^^^ mulB c (mulB 2 13) ^^^ mulB c 9 = 0 := by
    rw [← mul_xorr, ← mul_xorr, ← mul_xorr, show 14 ^^^ mulB 3 11 ^^^ mulB 2 13 ^^^ 9 = 0 by decide +kernel, mul_zero]
  have sd : mulB d 14 ^^^ mulB d 11 ^^^ mulB d (mulB 3 13) ^^^ mulB d (mulB 2 9) = 0 := by
    rw [← mul_xorr, ← mul_xorr, ← mul_xorr, show 14 ^^^ 11 ^^^ mulB 3 13 ^^^ mulB 2 9 = 0 by decide +kernel, mul_zero]
  have key : (mulB a (mulB 2 14) ^^^ mulB b (mulB 3 14) ^^^ mulB c 14 ^^^ mulB d 14) ^^^ (mulB b (mulB 2 11) ^^^ mulB c (mulB 3 11) ^^^ mulB d 11 ^^^ mulB a 11) ^^^ (mulB c (mulB 2 13) ^^^ mulB d (mulB 3 13) ^^^ mulB a 13 ^^^ mulB b 13) ^^^ (mulB d (mulB 2 9) ^^^ mulB a (mulB 3 9) ^^^ mulB b 9 ^^^ mulB c 9)
      = (mulB a (mulB 2 14) ^^^ mulB a 11 ^^^ mulB a 13 ^^^ mulB a (mulB 3 9)) ^^^ (mulB b (mulB 3 14) ^^^ mulB b (mulB 2 11) ^^^ mulB b 13 ^^^ mulB b 9) ^^^ (mulB c 14 ^^^ mulB c (mulB 3 11) ^^^ mulB c (mulB 2 13) ^^^ mulB c 9) ^^^ (mulB d 14 ^^^ mulB d 11 ^^^ mulB d (mulB 3 13) ^^^ mulB d (mulB 2 9)) := by
    ac_rfl
  rw [key, sa, sb, sc, sd]; simp
theorem mixB_inj {s t : Nat → Nat} (hs : ∀ i, s i < 256) (ht : ∀ i, t i < 256) (h : ∀ i, i < 16 → mixB s i = mixB t i) : ∀ i, i < 16 → s i = t i := fun i hi => by
  have key : ∀ u : Nat → Nat, (∀ i, u i < 256) → mulB (mixB u i) 14 ^^^ mulB (mixB u (i / 4 * 4 + (i % 4 + 1) % 4)) 11 ^^^ mulB (mixB u (i / 4 * 4 + (i % 4 + 2) % 4)) 13 ^^^ mulB (mixB u (i / 4 * 4 + (i % 4 + 3) % 4)) 9 = u i := fun u hu => by
    unfold mixB
    have q : i % 4 = 0 ∨ i % 4 = 1 ∨ i % 4 = 2 ∨ i % 4 = 3 := by omega
    have e1 : (i / 4 * 4 + (i % 4 + 1) % 4) / 4 = i / 4 := by omega
    have e2 : (i / 4 * 4 + (i % 4 + 2) % 4) / 4 = i / 4 := by omega
    have e3 : (i / 4 * 4 + (i % 4 + 3) % 4) / 4 = i / 4 := by omega
    have m1 : (i / 4 * 4 + (i % 4 + 1) % 4) % 4 = (i % 4 + 1) % 4 := by omega
    have m2 : (i / 4 * 4 + (i % 4 + 2) % 4) % 4 = (i % 4 + 2) % 4 := by omega
    have m3 : (i / 4 * 4 + (i % 4 + 3) % 4) % 4 = (i % 4 + 3) % 4 := by omega
    rw [e1, e2, e3, m1, m2, m3]
    have c1 : ((i % 4 + 1) % 4 + 1) % 4 = (i % 4 + 2) % 4 := by omega
    have c2 : ((i % 4 + 1) % 4 + 2) % 4 = (i % 4 + 3) % 4 := by omega
    have c3 : ((i % 4 + 1) % 4 + 3) % 4 = i % 4 := by omega
    have d1 : ((i % 4 + 2) % 4 + 1) % 4 = (i % 4 + 3) % 4 := by omega
    have d2 : ((i % 4 + 2) % 4 + 2) % 4 = i % 4 := by omega
    have d3 : ((i % 4 + 2) % 4 + 3) % 4 = (i % 4 + 1) % 4 := by omega
    have f1 : ((i % 4 + 3) % 4 + 1) % 4 = i % 4 := by omega
    have f2 : ((i % 4 + 3) % 4 + 2) % 4 = (i % 4 + 1) % 4 := by omega
    have f3 : ((i % 4 + 3) % 4 + 3) % 4 = (i % 4 + 2) % 4 := by omega
    rw [c1, c2, c3, d1, d2, d3, f1, f2, f3, show i / 4 * 4 + i % 4 = i by omega]
    exact unmix (hu _) (hu _) (hu _) (hu _)
  rw [← key s hs, ← key t ht, h _ hi, h _ (by omega), h _ (by omega), h _ (by omega)]
theorem stB_inj {s t w : Nat → Nat} (hs : ∀ i, s i < 256) (ht : ∀ i, t i < 256) : ∀ r, (∀ i, i < 16 → stB s w r i = stB t w r i) → ∀ i, i < 16 → s i = t i
  | 0, h => addB_inj h
  | r + 1, h => by
    have h1 : ∀ i, i < 16 → midB (stB s w r) (r + 1) i = midB (stB t w r) (r + 1) i := addB_inj h
    have h2 : ∀ i, i < 16 → subsB (stB s w r) i = subsB (stB t w r) i := by
      unfold midB at h1
      by_cases hr : r + 1 < 14
      · rw [if_pos hr, if_pos hr] at h1
        exact mixB_inj (subsB_lt (stB_lt hs r)) (subsB_lt (stB_lt ht r)) h1
      · rw [if_neg hr, if_neg hr] at h1
        exact h1
    exact stB_inj hs ht r (subsB_inj (stB_lt hs r) (stB_lt ht r) h2)
theorem encB_inj {s t : ByteArray} {W : Nat → Nat} (hs : s.size = 16) (ht : t.size = 16) (h : encB (bsOf s) W = encB (bsOf t) W) : s = t := by
  have h1 : ∀ i, i < 16 → stB (bsOf s) W 14 i = stB (bsOf t) W 14 i := fun i hi => by
    have e := congrArg (fun b => bsOf b i) h
    have a := bsOf_out (stB_lt (w := W) (bsOf_lt s) 14) hi
    have b := bsOf_out (stB_lt (w := W) (bsOf_lt t) 14) hi
    exact a.symm.trans (e.trans b)
  have h2 := stB_inj (bsOf_lt s) (bsOf_lt t) 14 h1
  apply ByteArray.ext
  apply Array.ext
  · exact hs.trans ht.symm
  · intro i hi1 hi2
    have h16 : i < 16 := by have : s.data.size = 16 := hs
                            omega
    have e := h2 i h16
    have a := bsOf_at s i hi1
    have b := bsOf_at t i hi2
    rw [← a, ← b] at e
    exact UInt8.toNat_inj.1 e
theorem enc_diff {s t : ByteArray} {W : Nat → Nat} {k : Nat} (hs : s.size = 16) (hk : k < s.size) {b : UInt8} (h : t.data.toList = s.data.toList.set k b) (hb : b ≠ s[k]) : t.size = 16 ∧ encB (bsOf t) W ≠ encB (bsOf s) W := by
  have ht : t.size = 16 := by rw [Lib.size_eq, h, List.length_set, ← Lib.size_eq]; exact hs
  refine ⟨ht, fun e => ?_⟩
  have hst := encB_inj ht hs e
  rw [hst] at h
  have hl : k < s.data.toList.length := by rw [← Lib.size_eq]; exact hk
  have := congrArg (fun l => l[k]?) h
  simp only [List.getElem?_set_self hl, List.getElem?_eq_getElem hl] at this
  exact hb (Option.some.inj this).symm
end Go.Proofs.Ytnkahdidelhdaab
