/-
  Several texts of this seat as one: ShaTurn, ShaMath, ShaWord.
-/
import Derived.Test.YtpeddaljgmkomaaRows
import Derived.WalkKit
import Derived.WalkSpells
import Derived.Laws.BitsAllLaws
import Derived.Laws.Rows
import Derived.Lib.Strings
import Derived.Deep.WholeRow
import Derived.WalkSmall

/-!   Words turned to the right: the code's and the specification's. -/
namespace Go.Proofs.Ytpeddaljgmkomaa
open Go.RowKit

def shaIntOf : Value → Int | .int _ q => q | _ => 0
/-- a word turned to the right -/
def rot (x : Int) (k : Nat) : Int := bits .or .u32 (x / 2 ^ k) (IntKind.u32.wrap (x * 2 ^ (32 - k)))
theorem or_comm32 (a b : Int) : bits .or .u32 a b = bits .or .u32 b a := by
  show IntKind.u32.wrap ((BitVec.ofInt 32 a ||| BitVec.ofInt 32 b).toNat : Int) = IntKind.u32.wrap ((BitVec.ofInt 32 b ||| BitVec.ofInt 32 a).toNat : Int)
  rw [BitVec.or_comm]

end Go.Proofs.Ytpeddaljgmkomaa

/-!   The words and the rounds of SHA-256, as plain mathematics over whole numbers. -/
namespace Go.Proofs.Ytpeddaljgmkomaa

def sg0 (x : Int) : Int := bits .xor .u32 (bits .xor .u32 (rot x 7) (rot x 18)) (x / 8)
def sg1 (x : Int) : Int := bits .xor .u32 (bits .xor .u32 (rot x 17) (rot x 19)) (x / 1024)
/-- the words of a block -/
def wd (bs : Nat → Nat) (j : Nat) : Int :=
  if h : j < 16 then ((((bs (4 * j) * 256 + bs (4 * j + 1)) * 256 + bs (4 * j + 2)) * 256 + bs (4 * j + 3) : Nat) : Int)
  else (sg1 (wd bs (j - 2)) + wd bs (j - 7) + sg0 (wd bs (j - 15)) + wd bs (j - 16)) % 4294967296
  termination_by j
  decreasing_by all_goals omega
theorem wd_low {bs : Nat → Nat} {j : Nat} (h : j < 16) : wd bs j = ((((bs (4 * j) * 256 + bs (4 * j + 1)) * 256 + bs (4 * j + 2)) * 256 + bs (4 * j + 3) : Nat) : Int) := by rw [wd, dif_pos h]
theorem wd_high {bs : Nat → Nat} {j : Nat} (h : 16 ≤ j) : wd bs j = (sg1 (wd bs (j - 2)) + wd bs (j - 7) + sg0 (wd bs (j - 15)) + wd bs (j - 16)) % 4294967296 := by rw [wd, dif_neg (by omega)]
theorem or_low {a b m : Nat} {i : Nat} (hm : m = 2 ^ i) (hb : b < m) (ha : m * a + b < 4294967296) : bits .or .u32 ((m * a : Nat) : Int) (b : Int) = ((m * a + b : Nat) : Int) := by
  subst hm
  rw [u32_or_nat _ _ (by omega) (by omega), ← Nat.two_pow_add_eq_or_of_lt hb]
theorem or_word (b0 b1 b2 b3 : Nat) (h0 : b0 < 256) (h1 : b1 < 256) (h2 : b2 < 256) (h3 : b3 < 256) :
    bits .or .u32 (bits .or .u32 (bits .or .u32 ((b0 : Int) * 16777216) ((b1 : Int) * 65536)) ((b2 : Int) * 256)) (b3 : Int) = ((((b0 * 256 + b1) * 256 + b2) * 256 + b3 : Nat) : Int) := by
  have e0 : (b0 : Int) * 16777216 = ((16777216 * b0 : Nat) : Int) := by omega
  have e1 : (b1 : Int) * 65536 = ((b1 * 65536 : Nat) : Int) := by omega
  have e2 : (b2 : Int) * 256 = ((b2 * 256 : Nat) : Int) := by omega
  rw [e0, e1, e2, or_low (i := 24) rfl (by omega) (by omega)]
  rw [show ((16777216 * b0 + b1 * 65536 : Nat) : Int) = ((65536 * (b0 * 256 + b1) : Nat) : Int) from by omega, or_low (i := 16) rfl (by omega) (by omega)]
  rw [show ((65536 * (b0 * 256 + b1) + b2 * 256 : Nat) : Int) = ((256 * ((b0 * 256 + b1) * 256 + b2) : Nat) : Int) from by omega, or_low (i := 8) rfl (by omega) (by omega)]
  congr 1; omega
theorem or_byte (x b : Nat) (hx : x < 16777216) (hb : b < 256) : bits .or .u32 ((x : Int) * 256) (b : Int) = ((x * 256 + b : Nat) : Int) := by
  rw [show (x : Int) * 256 = ((256 * x : Nat) : Int) from by omega, or_low (i := 8) rfl hb (by omega)]
  congr 1; omega
theorem words_set {bs : Nat → Nat} {cur : Array Value} {t n : Nat} (hs : cur.size = n) (ht : t < n) (h : ∀ j, j < t → cur[j]? = some (.int .u32 (wd bs j))) {x : Int} (hx : x = wd bs t) :
    ∀ j, j < t + 1 → (cur.setIfInBounds t (.int .u32 x))[j]? = some (.int .u32 (wd bs j)) := by
  subst hx
  intro j hj
  by_cases e : t = j
  · subst e; rw [Array.getElem?_setIfInBounds_self_of_lt (by omega)]
  · rw [Array.getElem?_setIfInBounds_ne e]; exact h j (by omega)
def bS1 (e : Int) : Int := bits .xor .u32 (bits .xor .u32 (rot e 6) (rot e 11)) (rot e 25)
def bS0 (a : Int) : Int := bits .xor .u32 (bits .xor .u32 (rot a 2) (rot a 13)) (rot a 22)
def chf (e f g : Int) : Int := bits .xor .u32 (bits .and .u32 e f) (bits .and .u32 (bits .xor .u32 4294967295 e) g)
def maj (a b c : Int) : Int := bits .xor .u32 (bits .xor .u32 (bits .and .u32 a b) (bits .and .u32 a c)) (bits .and .u32 b c)
def tone (v : Nat → Int) (k x : Int) : Int := (v 7 + bS1 (v 4) + chf (v 4) (v 5) (v 6) + k + x) % 4294967296
def ttwo (v : Nat → Int) : Int := (bS0 (v 0) + maj (v 0) (v 1) (v 2)) % 4294967296
/-- a round -/
def nextV (v : Nat → Int) (k x : Int) : Nat → Int
  | 0 => (tone v k x + ttwo v) % 4294967296
  | 1 => v 0
  | 2 => v 1
  | 3 => v 2
  | 4 => (v 3 + tone v k x) % 4294967296
  | 5 => v 4
  | 6 => v 5
  | _ => v 6
/-- so many rounds -/
def vAt (hv K W : Nat → Int) : Nat → (Nat → Int)
  | 0 => hv
  | t + 1 => nextV (vAt hv K W t) (K t) (W t)
/-- what a block makes of the state -/
def blockV (hv K : Nat → Int) (bs : Nat → Nat) (j : Nat) : Int := (hv j + vAt hv K (wd bs) 64 j) % 4294967296
theorem next_cells (v : Nat → Int) (kt x : Int) : ∀ j, j < 8 →
    (#[Value.int .u32 ((v 7 + bits .xor .u32 (bits .xor .u32 (rot (v 4) 6) (rot (v 4) 11)) (rot (v 4) 25) + bits .xor .u32 (bits .and .u32 (v 4) (v 5)) (bits .and .u32 (bits .xor .u32 IntKind.u32.max (v 4)) (v 6)) + kt + x +
        (bits .xor .u32 (bits .xor .u32 (rot (v 0) 2) (rot (v 0) 13)) (rot (v 0) 22) + bits .xor .u32 (bits .xor .u32 (bits .and .u32 (v 0) (v 1)) (bits .and .u32 (v 0) (v 2))) (bits .and .u32 (v 1) (v 2)))) % 4294967296),
      .int .u32 (v 0), .int .u32 (v 1), .int .u32 (v 2),
      .int .u32 ((v 3 + (v 7 + bits .xor .u32 (bits .xor .u32 (rot (v 4) 6) (rot (v 4) 11)) (rot (v 4) 25) + bits .xor .u32 (bits .and .u32 (v 4) (v 5)) (bits .and .u32 (bits .xor .u32 IntKind.u32.max (v 4)) (v 6)) + kt + x)) % 4294967296),
      .int .u32 (v 4), .int .u32 (v 5), .int .u32 (v 6)] : Array Value)[j]? = some (.int .u32 (nextV v kt x j)) := by
  have h1 : ∀ p q : Int, (p + q) % 4294967296 = (p % 4294967296 + q % 4294967296) % 4294967296 := by intro p q; omega
  have h2 : ∀ p q : Int, (p + q) % 4294967296 = (p + q % 4294967296) % 4294967296 := by intro p q; omega
  intro j hj
  match j, hj with
  | 0, _ => exact congrArg (fun z => some (Value.int .u32 z)) (h1 _ _)
  | 1, _ => rfl
  | 2, _ => rfl
  | 3, _ => rfl
  | 4, _ => exact congrArg (fun z => some (Value.int .u32 z)) (h2 _ _)
  | 5, _ => rfl
  | 6, _ => rfl
  | 7, _ => rfl
end Go.Proofs.Ytpeddaljgmkomaa

/-!   What wordAt answers: four bytes as a word. -/
namespace Go.Proofs.Ytpeddaljgmkomaa
open Go.RowKit

def bsOf (s : ByteArray) (j : Nat) : Nat := (s.data.toList.getD j 0).toNat
theorem bsOf_lt (s : ByteArray) (j : Nat) : bsOf s j < 256 := UInt8.toNat_lt _
theorem bsOf_at (s : ByteArray) (j : Nat) (h : j < s.size) : s[j].toNat = bsOf s j := by
  unfold bsOf
  rw [List.getD_eq_getElem?_getD, List.getElem?_eq_getElem (by rw [← Lib.size_eq]; exact h)]; rfl
/-- the first bytes of a word -/
def pt (bs : Nat → Nat) (i : Nat) : Nat → Nat
  | 0 => 0
  | j + 1 => pt bs i j * 256 + bs (4 * i + j)
theorem pt_lt {bs : Nat → Nat} (hb : ∀ j, bs j < 256) (i : Nat) : ∀ j, j < 4 → pt bs i j < 16777216 := by
  intro j hj
  have h0 := hb (4 * i + 0)
  have h1 := hb (4 * i + 1)
  have h2 := hb (4 * i + 2)
  match j, hj with
  | 0, _ => simp [pt]
  | 1, _ => simp only [pt]; omega
  | 2, _ => simp only [pt]; omega
  | 3, _ => simp only [pt]; omega

end Go.Proofs.Ytpeddaljgmkomaa
