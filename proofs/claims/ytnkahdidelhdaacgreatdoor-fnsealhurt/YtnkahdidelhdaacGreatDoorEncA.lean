/-
  Several texts of this seat as one: EncMath, EncMix, EncShift, EncRound, EncAll, EncC.
-/
import Derived.Test.YtnkahdidelhdaacGreatDoorCipKeys
import Derived.Test.YtnkahdidelhdaacGreatDoorCipWith
import Derived.BigQuiet
import Derived.Lib.BytesEntry
import Derived.Lib.UnsafeStr

/-!   A block of sixteen bytes, by bytes and by words. -/
namespace Go.Proofs.YtnkahdidelhdaacGreatDoor
open Go.RowKit
set_option linter.unusedVariables false

/-- four bytes as a word -/
def pk (a b c d : Nat) : Nat := ((a * 256 + b) * 256 + c) * 256 + d
theorem pk_lt {a b c d : Nat} (ha : a < 256) (hb : b < 256) (hc : c < 256) (hd : d < 256) : pk a b c d < 4294967296 := by unfold pk; omega
theorem pk_eta {x : Nat} (h : x < 4294967296) : pk (x / 16777216) (x / 65536 % 256) (x / 256 % 256) (x % 256) = x := by unfold pk; omega
theorem pk0 {a b c d : Nat} (hb : b < 256) (hc : c < 256) (hd : d < 256) : pk a b c d / 16777216 = a := by unfold pk; omega
theorem pk1 {a b c d : Nat} (hb : b < 256) (hc : c < 256) (hd : d < 256) : pk a b c d / 65536 % 256 = b := by unfold pk; omega
theorem pk2 {a b c d : Nat} (hc : c < 256) (hd : d < 256) : pk a b c d / 256 % 256 = c := by unfold pk; omega
theorem pk3 {a b c d : Nat} (hd : d < 256) : pk a b c d % 256 = d := by unfold pk; omega
theorem rl8_pk {a b c d : Nat} (ha : a < 256) (hb : b < 256) (hc : c < 256) (hd : d < 256) : rl8 (pk a b c d) = pk b c d a := by unfold rl8 pk; omega
theorem rl16_pk {a b c d : Nat} (ha : a < 256) (hb : b < 256) (hc : c < 256) (hd : d < 256) : rl16 (pk a b c d) = pk c d a b := by unfold rl16 pk; omega
theorem rl24_pk {a b c d : Nat} (ha : a < 256) (hb : b < 256) (hc : c < 256) (hd : d < 256) : rl24 (pk a b c d) = pk d a b c := by unfold rl24 pk; omega
theorem xor_split (x y u v : Nat) (hy : y < 256) (hv : v < 256) : (x * 256 + y) ^^^ (u * 256 + v) = (x ^^^ u) * 256 + (y ^^^ v) := by
  have hd := Nat.xor_div_two_pow (a := x * 256 + y) (b := u * 256 + v) (n := 8)
  have hm := Nat.xor_mod_two_pow (a := x * 256 + y) (b := u * 256 + v) (n := 8)
  rw [show (2 : Nat) ^ 8 = 256 from rfl] at hd hm
  rw [show (x * 256 + y) / 256 = x by omega, show (u * 256 + v) / 256 = u by omega] at hd
  rw [show (x * 256 + y) % 256 = y by omega, show (u * 256 + v) % 256 = v by omega] at hm
  omega
theorem and_split (x y u v : Nat) (hy : y < 256) (hv : v < 256) : (x * 256 + y) &&& (u * 256 + v) = (x &&& u) * 256 + (y &&& v) := by
  have hd := Nat.and_div_two_pow (a := x * 256 + y) (b := u * 256 + v) (n := 8)
  have hm := Nat.and_mod_two_pow (a := x * 256 + y) (b := u * 256 + v) (n := 8)
  rw [show (2 : Nat) ^ 8 = 256 from rfl] at hd hm
  rw [show (x * 256 + y) / 256 = x by omega, show (u * 256 + v) / 256 = u by omega] at hd
  rw [show (x * 256 + y) % 256 = y by omega, show (u * 256 + v) % 256 = v by omega] at hm
  omega
theorem pk_xor {a b c d e f g h : Nat} (hb : b < 256) (hc : c < 256) (hd : d < 256) (hf : f < 256) (hg : g < 256) (hh : h < 256) :
    pk a b c d ^^^ pk e f g h = pk (a ^^^ e) (b ^^^ f) (c ^^^ g) (d ^^^ h) := by
  unfold pk
  rw [xor_split _ _ _ _ hd hh, xor_split _ _ _ _ hc hg, xor_split _ _ _ _ hb hf]
theorem pk_and {a b c d e f g h : Nat} (hb : b < 256) (hc : c < 256) (hd : d < 256) (hf : f < 256) (hg : g < 256) (hh : h < 256) :
    pk a b c d &&& pk e f g h = pk (a &&& e) (b &&& f) (c &&& g) (d &&& h) := by
  unfold pk
  rw [and_split _ _ _ _ hd hh, and_split _ _ _ _ hc hg, and_split _ _ _ _ hb hf]
theorem and_127 (a : Nat) : a &&& 127 = a % 128 := Nat.and_two_pow_sub_one_eq_mod a 7
theorem and_255 {a : Nat} (h : a < 256) : a &&& 255 = a := by
  have := Nat.and_two_pow_sub_one_eq_mod a 8
  rw [show (2 : Nat) ^ 8 - 1 = 255 from rfl, show (2 : Nat) ^ 8 = 256 from rfl] at this
  rw [this, Nat.mod_eq_of_lt h]
theorem xt_bits : ∀ y, y < 256 → (y % 128 * 2) ^^^ (y / 128 * 27) = xt y := by
  intro y hy
  have k : ∀ y : Fin 256, (y.val % 128 * 2) ^^^ (y.val / 128 * 27) = xt y.val := by decide +kernel
  exact k ⟨y, hy⟩
/-- all four bytes times x -/
theorem dbl_pk {a b c d : Nat} (ha : a < 256) (hb : b < 256) (hc : c < 256) (hd : d < 256) :
    (pk a b c d / 128) &&& 16843009 = pk (a / 128) (b / 128) (c / 128) (d / 128) ∧
    (pk a b c d) &&& 2139062143 = pk (a % 128) (b % 128) (c % 128) (d % 128) ∧
    pk (a % 128) (b % 128) (c % 128) (d % 128) * 2 ^^^ pk (a / 128) (b / 128) (c / 128) (d / 128) * 27 = pk (xt a) (xt b) (xt c) (xt d) := by
  refine ⟨?_, ?_, ?_⟩
  · rw [show pk a b c d / 128 = pk (a / 128) (a % 128 * 2 + b / 128) (b % 128 * 2 + c / 128) (c % 128 * 2 + d / 128) by unfold pk; omega,
      show 16843009 = pk 1 1 1 1 from rfl, pk_and (by omega) (by omega) (by omega) (by omega) (by omega) (by omega)]
    simp only [Nat.and_one_is_mod]
    rw [show a / 128 % 2 = a / 128 by omega, show (a % 128 * 2 + b / 128) % 2 = b / 128 by omega, show (b % 128 * 2 + c / 128) % 2 = c / 128 by omega, show (c % 128 * 2 + d / 128) % 2 = d / 128 by omega]
  · rw [show 2139062143 = pk 127 127 127 127 from rfl, pk_and hb hc hd (by omega) (by omega) (by omega)]
    simp only [and_127]
  · rw [show pk (a % 128) (b % 128) (c % 128) (d % 128) * 2 = pk (a % 128 * 2) (b % 128 * 2) (c % 128 * 2) (d % 128 * 2) by unfold pk; omega,
      show pk (a / 128) (b / 128) (c / 128) (d / 128) * 27 = pk (a / 128 * 27) (b / 128 * 27) (c / 128 * 27) (d / 128 * 27) by unfold pk; omega,
      pk_xor (by omega) (by omega) (by omega) (by omega) (by omega) (by omega), xt_bits a ha, xt_bits b hb, xt_bits c hc, xt_bits d hd]
theorem mul_two {a : Nat} (h : a < 256) : mulB a 2 = xt a := by
  have k : ∀ y : Fin 256, mulB y.val 2 = xt y.val := by decide +kernel
  exact k ⟨a, h⟩
theorem mul_three {a : Nat} (h : a < 256) : mulB a 3 = xt a ^^^ a := by
  have k : ∀ y : Fin 256, mulB y.val 3 = xt y.val ^^^ y.val := by decide +kernel
  exact k ⟨a, h⟩
/-- one byte of a column, mixed -/
def mx (a b c d : Nat) : Nat := mulB a 2 ^^^ mulB b 3 ^^^ c ^^^ d
theorem mx_lt {a b c d : Nat} (ha : a < 256) (hb : b < 256) (hc : c < 256) (hd : d < 256) : mx a b c d < 256 :=
  xor_byte (xor_byte (xor_byte (mulB_lt _ _ ha) (mulB_lt _ _ hb)) hc) hd
theorem mx_eq {a b c d : Nat} (ha : a < 256) (hb : b < 256) : ((xt (a ^^^ b) ^^^ b) ^^^ c) ^^^ d = mx a b c d := by
  unfold mx
  rw [mul_two ha, mul_three hb, xt_xor ha hb, Nat.xor_assoc (xt a)]
def mixW (a b c d : Nat) : Nat := pk (mx a b c d) (mx b c d a) (mx c d a b) (mx d a b c)
theorem mix_pk {a b c d : Nat} (ha : a < 256) (hb : b < 256) (hc : c < 256) (hd : d < 256) :
    ((pk (xt (a ^^^ b)) (xt (b ^^^ c)) (xt (c ^^^ d)) (xt (d ^^^ a)) ^^^ pk b c d a) ^^^ pk c d a b) ^^^ pk d a b c = mixW a b c d := by
  have h1 := xt_lt (xor_byte ha hb)
  have h2 := xt_lt (xor_byte hb hc)
  have h3 := xt_lt (xor_byte hc hd)
  have h4 := xt_lt (xor_byte hd ha)
  have g2 := xor_byte h2 hc
  have g3 := xor_byte h3 hd
  have g4 := xor_byte h4 ha
  have f2 := xor_byte g2 hd
  have f3 := xor_byte g3 ha
  have f4 := xor_byte g4 hb
  rw [pk_xor h2 h3 h4 hc hd ha, pk_xor g2 g3 g4 hd ha hb, pk_xor f2 f3 f4 ha hb hc, mx_eq ha hb, mx_eq hb hc, mx_eq hc hd, mx_eq hd ha]
  rfl

/-! ### the block by bytes -/
def addB (s w : Nat → Nat) (r i : Nat) : Nat := s i ^^^ (w (4 * r + i / 4) / 2 ^ (24 - 8 * (i % 4)) % 256)
def subsB (s : Nat → Nat) (i : Nat) : Nat := sbox (s ((i + 4 * (i % 4)) % 16))
def mixB (x : Nat → Nat) (i : Nat) : Nat := mx (x i) (x (i / 4 * 4 + (i % 4 + 1) % 4)) (x (i / 4 * 4 + (i % 4 + 2) % 4)) (x (i / 4 * 4 + (i % 4 + 3) % 4))
def midB (s : Nat → Nat) (r : Nat) : Nat → Nat := if r < 14 then mixB (subsB s) else subsB s
/-- the block behind round r -/
def stB (s0 w : Nat → Nat) : Nat → Nat → Nat
  | 0 => addB s0 w 0
  | r + 1 => addB (midB (stB s0 w r) (r + 1)) w (r + 1)
theorem addB_lt {s w : Nat → Nat} {r : Nat} (hs : ∀ i, s i < 256) (i : Nat) : addB s w r i < 256 := xor_byte (hs i) (by omega)
theorem subsB_lt {s : Nat → Nat} (hs : ∀ i, s i < 256) (i : Nat) : subsB s i < 256 := sbox_lt (hs _)
theorem mixB_lt {s : Nat → Nat} (hs : ∀ i, s i < 256) (i : Nat) : mixB s i < 256 := mx_lt (hs _) (hs _) (hs _) (hs _)
theorem midB_lt {s : Nat → Nat} (hs : ∀ i, s i < 256) (r i : Nat) : midB s r i < 256 := by
  unfold midB; split
  · exact mixB_lt (subsB_lt hs) i
  · exact subsB_lt hs i
theorem stB_lt {s w : Nat → Nat} (hs : ∀ i, s i < 256) : ∀ r i, stB s w r i < 256
  | 0, i => addB_lt hs i
  | r + 1, i => addB_lt (midB_lt (stB_lt hs r) _) i
/-- a column of it -/
def cl (s : Nat → Nat) (j : Nat) : Nat := pk (s (4 * j)) (s (4 * j + 1)) (s (4 * j + 2)) (s (4 * j + 3))
theorem cl_lt {s : Nat → Nat} (hs : ∀ i, s i < 256) (j : Nat) : cl s j < 4294967296 := pk_lt (hs _) (hs _) (hs _) (hs _)
theorem cl_add {s w : Nat → Nat} {r j : Nat} (hs : ∀ i, s i < 256) (hw : w (4 * r + j) < 4294967296) : cl (addB s w r) j = cl s j ^^^ w (4 * r + j) := by
  have e := pk_eta hw
  conv => rhs; rw [← e]
  unfold cl addB
  rw [pk_xor (hs _) (hs _) (hs _) (by omega) (by omega) (by omega)]
  rw [show 4 * j / 4 = j by omega, show (4 * j + 1) / 4 = j by omega, show (4 * j + 2) / 4 = j by omega, show (4 * j + 3) / 4 = j by omega,
    show 4 * j % 4 = 0 by omega, show (4 * j + 1) % 4 = 1 by omega, show (4 * j + 2) % 4 = 2 by omega, show (4 * j + 3) % 4 = 3 by omega]
  rw [show (2 : Nat) ^ (24 - 8 * 0) = 16777216 from rfl, show (2 : Nat) ^ (24 - 8 * 1) = 65536 from rfl, show (2 : Nat) ^ (24 - 8 * 2) = 256 from rfl, show (2 : Nat) ^ (24 - 8 * 3) = 1 from rfl, Nat.div_one]
  rw [show w (4 * r + j) / 16777216 % 256 = w (4 * r + j) / 16777216 by omega]
/-- the bytes that go into a column -/
def shW (s : Nat → Nat) (j : Nat) : Nat := pk (s (4 * j)) (s (4 * ((j + 1) % 4) + 1)) (s (4 * ((j + 2) % 4) + 2)) (s (4 * ((j + 3) % 4) + 3))
theorem shW_lt {s : Nat → Nat} (hs : ∀ i, s i < 256) (j : Nat) : shW s j < 4294967296 := pk_lt (hs _) (hs _) (hs _) (hs _)
theorem cl_subs {s : Nat → Nat} {j : Nat} (hs : ∀ i, s i < 256) (hj : j < 4) : cl (subsB s) j = subW (shW s j) := by
  unfold subW shW
  rw [pk0 (hs _) (hs _) (hs _), pk1 (hs _) (hs _) (hs _), pk2 (hs _) (hs _), pk3 (hs _)]
  unfold cl subsB pk
  rw [show (4 * j + 4 * (4 * j % 4)) % 16 = 4 * j by omega, show (4 * j + 1 + 4 * ((4 * j + 1) % 4)) % 16 = 4 * ((j + 1) % 4) + 1 by omega,
    show (4 * j + 2 + 4 * ((4 * j + 2) % 4)) % 16 = 4 * ((j + 2) % 4) + 2 by omega, show (4 * j + 3 + 4 * ((4 * j + 3) % 4)) % 16 = 4 * ((j + 3) % 4) + 3 by omega]
theorem cl_mix {s : Nat → Nat} {j : Nat} : cl (mixB s) j = mixW (s (4 * j)) (s (4 * j + 1)) (s (4 * j + 2)) (s (4 * j + 3)) := by
  unfold cl mixB mixW
  rw [show 4 * j / 4 * 4 = 4 * j by omega, show (4 * j + 1) / 4 * 4 = 4 * j by omega, show (4 * j + 2) / 4 * 4 = 4 * j by omega, show (4 * j + 3) / 4 * 4 = 4 * j by omega,
    show 4 * j % 4 = 0 by omega, show (4 * j + 1) % 4 = 1 by omega, show (4 * j + 2) % 4 = 2 by omega, show (4 * j + 3) % 4 = 3 by omega]
  rfl
/-- the four bytes, out of four words -/
theorem sh_or (s : Nat → Nat) (hs : ∀ i, s i < 256) (j : Nat) :
    bits .or .u32 (bits .or .u32 (bits .or .u32 (bits .and .u32 (cl s j : Nat) 4278190080) (bits .and .u32 (cl s ((j + 1) % 4) : Nat) 16711680)) (bits .and .u32 (cl s ((j + 2) % 4) : Nat) 65280)) (bits .and .u32 (cl s ((j + 3) % 4) : Nat) 255) = ((shW s j : Nat) : Int) := by
  have m : ∀ j a b c d, a ≤ 255 → b ≤ 255 → c ≤ 255 → d ≤ 255 → bits .and .u32 (cl s j : Nat) ((pk a b c d : Nat) : Int) = ((pk (s (4 * j) &&& a) (s (4 * j + 1) &&& b) (s (4 * j + 2) &&& c) (s (4 * j + 3) &&& d) : Nat) : Int) := fun j a b c d ha hb hc hd => by
    rw [u32_and_nat _ _ (cl_lt hs j) (pk_lt (by omega) (by omega) (by omega) (by omega)), cl, pk_and (hs _) (hs _) (hs _) (by omega) (by omega) (by omega)]
  have m0 := m j 255 0 0 0 (by omega) (by omega) (by omega) (by omega)
  have m1 := m ((j + 1) % 4) 0 255 0 0 (by omega) (by omega) (by omega) (by omega)
  have m2 := m ((j + 2) % 4) 0 0 255 0 (by omega) (by omega) (by omega) (by omega)
  have m3 := m ((j + 3) % 4) 0 0 0 255 (by omega) (by omega) (by omega) (by omega)
  simp only [Nat.and_zero, and_255 (hs _)] at m0 m1 m2 m3
  rw [show ((pk 255 0 0 0 : Nat) : Int) = 4278190080 from rfl] at m0
  rw [show ((pk 0 255 0 0 : Nat) : Int) = 16711680 from rfl] at m1
  rw [show ((pk 0 0 255 0 : Nat) : Int) = 65280 from rfl] at m2
  rw [show ((pk 0 0 0 255 : Nat) : Int) = 255 from rfl] at m3
  rw [m0, m1, m2, m3]
  have e := or_word (s (4 * j)) (s (4 * ((j + 1) % 4) + 1)) (s (4 * ((j + 2) % 4) + 2)) (s (4 * ((j + 3) % 4) + 3)) (hs _) (hs _) (hs _) (hs _)
  rw [show ((pk (s (4 * j)) 0 0 0 : Nat) : Int) = (s (4 * j) : Int) * 16777216 by unfold pk; omega,
    show ((pk 0 (s (4 * ((j + 1) % 4) + 1)) 0 0 : Nat) : Int) = (s (4 * ((j + 1) % 4) + 1) : Int) * 65536 by unfold pk; omega,
    show ((pk 0 0 (s (4 * ((j + 2) % 4) + 2)) 0 : Nat) : Int) = (s (4 * ((j + 2) % 4) + 2) : Int) * 256 by unfold pk; omega,
    show ((pk 0 0 0 (s (4 * ((j + 3) % 4) + 3)) : Nat) : Int) = (s (4 * ((j + 3) % 4) + 3) : Int) by unfold pk; omega]
  exact e
/-- a byte of a column -/
theorem cl_byte {s : Nat → Nat} (hs : ∀ i, s i < 256) (i : Nat) : cl s (i / 4) / 2 ^ (24 - 8 * (i % 4)) % 256 = s i := by
  have h : i % 4 = 0 ∨ i % 4 = 1 ∨ i % 4 = 2 ∨ i % 4 = 3 := by omega
  unfold cl
  rcases h with h | h | h | h <;> rw [h]
  · rw [show (2 : Nat) ^ (24 - 8 * 0) = 16777216 from rfl, pk0 (hs _) (hs _) (hs _), show 4 * (i / 4) = i by omega, Nat.mod_eq_of_lt (hs i)]
  · rw [show (2 : Nat) ^ (24 - 8 * 1) = 65536 from rfl, pk1 (hs _) (hs _) (hs _), show 4 * (i / 4) + 1 = i by omega]
  · rw [show (2 : Nat) ^ (24 - 8 * 2) = 256 from rfl, pk2 (hs _) (hs _), show 4 * (i / 4) + 2 = i by omega]
  · rw [show (2 : Nat) ^ (24 - 8 * 3) = 1 from rfl, Nat.div_one, pk3 (hs _), show 4 * (i / 4) + 3 = i by omega]
theorem cl_pt (bs : Nat → Nat) (i : Nat) : pt bs i 4 = cl bs i := by
  unfold cl pk
  simp only [pt]
  simp
end Go.Proofs.YtnkahdidelhdaacGreatDoor

/-!   A column mixed: the code's; and its rows moved. -/
namespace Go.Proofs.YtnkahdidelhdaacGreatDoor
open Go.RowKit

set_option maxRecDepth 100000 in
theorem dblw_any (a b c d : Nat) (w : World) (ha : a < 256) (hb : b < 256) (hc : c < 256) (hd : d < 256) :
    Calls Tryz.prog 87 #[.int .u32 (pk a b c d : Nat)] w fun e w' => e = .returned (.int .u32 (pk (xt a) (xt b) (xt c) (xt d) : Nat)) ∧ w' = w := by
  obtain ⟨h1, h2, h3⟩ := dbl_pk ha hb hc hd
  have hx := pk_lt ha hb hc hd
  have hm : pk (a % 128) (b % 128) (c % 128) (d % 128) * 2 < 4294967296 := by unfold pk; omega
  have hq : pk (a / 128) (b / 128) (c / 128) (d / 128) * 27 < 4294967296 := by unfold pk; omega
  have k1 : bits .and .u32 ((pk a b c d : Nat) / 128 : Int) 16843009 = ((pk (a / 128) (b / 128) (c / 128) (d / 128) : Nat) : Int) := by
    rw [← h1, show ((pk a b c d : Nat) : Int) / 128 = ((pk a b c d / 128 : Nat) : Int) by omega]
    exact u32_and_nat _ 16843009 (by omega) (by omega)
  have k2 : bits .and .u32 ((pk a b c d : Nat) : Int) 2139062143 = ((pk (a % 128) (b % 128) (c % 128) (d % 128) : Nat) : Int) := by
    rw [← h2]
    exact u32_and_nat _ 2139062143 (by omega) (by omega)
  have k3 : bits .xor .u32 (((pk (a % 128) (b % 128) (c % 128) (d % 128) : Nat) : Int) * 2) (((pk (a / 128) (b / 128) (c / 128) (d / 128) : Nat) : Int) * 27) = ((pk (xt a) (xt b) (xt c) (xt d) : Nat) : Int) := by
    rw [← h3, show ((pk (a % 128) (b % 128) (c % 128) (d % 128) : Nat) : Int) * 2 = ((pk (a % 128) (b % 128) (c % 128) (d % 128) * 2 : Nat) : Int) by omega,
      show ((pk (a / 128) (b / 128) (c / 128) (d / 128) : Nat) : Int) * 27 = ((pk (a / 128) (b / 128) (c / 128) (d / 128) * 27 : Nat) : Int) by omega]
    exact u32_xor_nat _ _ (by omega) (by omega)
  generalize pk (a % 128) (b % 128) (c % 128) (d % 128) = m at k2 k3 hm
  generalize pk (a / 128) (b / 128) (c / 128) (d / 128) = q at k1 k3 hq
  generalize pk (xt a) (xt b) (xt c) (xt d) = r at k3
  generalize pk a b c d = x at k1 k2 hx
  clear h1 h2 h3
  go_enter Tryz.func87, Tryz.ntmps87
  go_wp2_with fail
  go_ret
  exact ⟨rfl, rfl⟩
set_option maxRecDepth 100000 in
set_option maxHeartbeats 1000000 in
theorem mixed_any (a b c d : Nat) (w : World) (ha : a < 256) (hb : b < 256) (hc : c < 256) (hd : d < 256) :
    Calls Tryz.prog 84 #[.int .u32 (pk a b c d : Nat)] w fun e w' => e = .returned (.int .u32 (mixW a b c d : Nat)) ∧ w' = w := by
  have hx := pk_lt ha hb hc hd
  have hn := pk_lt hb hc hd ha
  have h16 := pk_lt hc hd ha hb
  have h24 := pk_lt hd ha hb hc
  have a1 := xor_byte ha hb
  have a2 := xor_byte hb hc
  have a3 := xor_byte hc hd
  have a4 := xor_byte hd ha
  have hD := pk_lt (xt_lt a1) (xt_lt a2) (xt_lt a3) (xt_lt a4)
  have H8 : Hid (∀ w, Calls Tryz.prog 74 #[.int .u32 (pk a b c d : Nat), .int .i64 8] w fun e w' => e = .returned (.int .u32 (pk b c d a : Nat)) ∧ w' = w) := fun w => by
    have := rl8_any _ w hx; rwa [rl8_pk ha hb hc hd] at this
  have H16 : Hid (∀ w, Calls Tryz.prog 74 #[.int .u32 (pk a b c d : Nat), .int .i64 16] w fun e w' => e = .returned (.int .u32 (pk c d a b : Nat)) ∧ w' = w) := fun w => by
    have := rl16_any _ w hx; rwa [rl16_pk ha hb hc hd] at this
  have H24 : Hid (∀ w, Calls Tryz.prog 74 #[.int .u32 (pk a b c d : Nat), .int .i64 24] w fun e w' => e = .returned (.int .u32 (pk d a b c : Nat)) ∧ w' = w) := fun w => by
    have := rl24_any _ w hx; rwa [rl24_pk ha hb hc hd] at this
  have k1 : bits .xor .u32 ((pk a b c d : Nat) : Int) ((pk b c d a : Nat) : Int) = ((pk (a ^^^ b) (b ^^^ c) (c ^^^ d) (d ^^^ a) : Nat) : Int) := by
    rw [u32_xor_nat _ _ hx hn, pk_xor hb hc hd hc hd ha]
  have HDB : Hid (∀ w, Calls Tryz.prog 87 #[.int .u32 (pk (a ^^^ b) (b ^^^ c) (c ^^^ d) (d ^^^ a) : Nat)] w fun e w' => e = .returned (.int .u32 (pk (xt (a ^^^ b)) (xt (b ^^^ c)) (xt (c ^^^ d)) (xt (d ^^^ a)) : Nat)) ∧ w' = w) := fun w => dblw_any _ _ _ _ w a1 a2 a3 a4
  have HM := mix_pk ha hb hc hd
  have g1 := xor32 hD hn
  have g2 := xor32 g1 h16
  have k2 : bits .xor .u32 (bits .xor .u32 (bits .xor .u32 ((pk (xt (a ^^^ b)) (xt (b ^^^ c)) (xt (c ^^^ d)) (xt (d ^^^ a)) : Nat) : Int) ((pk b c d a : Nat) : Int)) ((pk c d a b : Nat) : Int)) ((pk d a b c : Nat) : Int) = ((mixW a b c d : Nat) : Int) := by
    rw [u32_xor_nat _ _ hD hn, u32_xor_nat _ _ g1 h16, u32_xor_nat _ _ g2 h24, HM]
  have HK2 : Hid _ := k2
  clear HM g1 g2 k2 a1 a2 a3 a4 hD
  generalize pk (xt (a ^^^ b)) (xt (b ^^^ c)) (xt (c ^^^ d)) (xt (d ^^^ a)) = D at HK2 HDB
  generalize pk (a ^^^ b) (b ^^^ c) (c ^^^ d) (d ^^^ a) = X at k1 HDB
  generalize mixW a b c d = R at HK2
  generalize pk a b c d = x at hx k1 H8 H16 H24
  generalize pk b c d a = y at hn k1 H8 HK2
  generalize pk c d a b = y2 at h16 H16 HK2
  generalize pk d a b c = y3 at h24 H24 HK2
  go_enter Tryz.func84, Tryz.ntmps84
  go_wp2_with fail
  refine (H8.out _).mono ?_
  rintro e w' ⟨rfl, hw⟩
  subst w'
  go_wp2_with fail
  refine (HDB.out _).mono ?_
  rintro e w' ⟨rfl, hw⟩
  subst w'
  go_wp2_with fail
  refine (H16.out _).mono ?_
  rintro e w' ⟨rfl, hw⟩
  subst w'
  go_wp2_with fail
  refine (H24.out _).mono ?_
  rintro e w' ⟨rfl, hw⟩
  subst w'
  go_wp2_with fail
  go_ret
  exact ⟨by rw [← HK2.out]; rfl, rfl⟩

/-! ### four columns -/
def cols (f : Nat → Nat) : Array Value := #[.int .u32 (f 0 : Nat), .int .u32 (f 1 : Nat), .int .u32 (f 2 : Nat), .int .u32 (f 3 : Nat)]
theorem cols_at (f : Nat → Nat) {j : Nat} (h : j < 4) : (cols f)[j]? = some (.int .u32 (f j : Nat)) := by
  match j, h with
  | 0, _ => rfl
  | 1, _ => rfl
  | 2, _ => rfl
  | 3, _ => rfl
theorem cols_size (f : Nat → Nat) : (cols f).size = 4 := rfl
theorem cols_one (f : Nat → Nat) : (cols f).all (·.oneCell') = true := by
  simp [cols]
  exact ⟨rfl, rfl, rfl, rfl⟩
/-- the first n are new -/
def upTo (f g : Nat → Nat) (n j : Nat) : Nat := if j < n then f j else g j
theorem cols_set (f g : Nat → Nat) {n : Nat} (h : n < 4) : (cols (upTo f g n)).setIfInBounds n (.int .u32 (f n : Nat)) = cols (upTo f g (n + 1)) := by
  match n, h with
  | 0, _ => rfl
  | 1, _ => rfl
  | 2, _ => rfl
  | 3, _ => rfl
theorem cols_start (f g : Nat → Nat) : cols (upTo f g 0) = cols g := rfl
theorem cols_end (f g : Nat → Nat) : cols (upTo f g 4) = cols f := rfl
theorem cols_congr {f g : Nat → Nat} (h : ∀ j, j < 4 → f j = g j) : cols f = cols g := by
  unfold cols
  rw [h 0 (by omega), h 1 (by omega), h 2 (by omega), h 3 (by omega)]
theorem upTo_new (f g : Nat → Nat) (n : Nat) {j : Nat} (h : ¬ j < n) : upTo f g n j = g j := if_neg h
/-- a cipher lies in block b -/
structure KC (b : Nat) (W : Nat → Nat) (wr : World) : Prop where
  lt : b < wr.heap.size
  word : ∀ j, j < 60 → wr.cell? ⟨b, j, none⟩ = some (.int .u32 (W j : Nat))
  box : ∀ j, j < 256 → wr.cell? ⟨b, 60 + j, none⟩ = some (.int .u32 (sbox j : Nat))
theorem KC.below {b : Nat} {W : Nat → Nat} {w w' : World} {B : Nat} (h : KC b W w) (hb : Below B w w') (hB : b < B) : KC b W w' :=
  ⟨Nat.lt_of_lt_of_le h.lt hb.size, fun j hj => (hb.cell (p := ⟨b, j, none⟩) hB).trans (h.word j hj), fun j hj => (hb.cell (p := ⟨b, 60 + j, none⟩) hB).trans (h.box j hj)⟩
theorem CW.kc {w wr : World} {b : Nat} {W : Nat → Nat} (h : CW w b W 60 wr) : KC b W wr := ⟨h.lt, h.word, h.box⟩
/-- a row of columns in block g, written from B on -/
structure AW (w : World) (B g : Nat) (cur : Array Value) (wr : World) : Prop where
  below : Below B w wr
  low : B ≤ g
  row : wr.heap[g]? = some (.cells cur 105 (0, 0))
theorem AW.set {w wr : World} {B g : Nat} {cur : Array Value} (h : AW w B g cur wr) (t : Nat) (v : Value) : AW w B g (cur.setIfInBounds t v) (wr.setCell ⟨g, t, none⟩ v) :=
  ⟨h.below.setCell (p := ⟨g, t, none⟩) h.low v, h.low, heap_setCell_same wr _ t _ _ _ h.row⟩
theorem AW.cell {w wr : World} {B g : Nat} {cur : Array Value} (h : AW w B g cur wr) (t : Nat) : wr.cell? ⟨g, t, none⟩ = cur[t]? := cell_of_row wr _ t _ _ _ h.row
theorem AW.fz {w wr : World} {B g : Nat} {cur : Array Value} (h : AW w B g cur wr) (t : Nat) : wr.frozen? ⟨g, t, none⟩ = false := frozen_of_row wr _ t _ _ h.row
theorem col_info : (Tryz.prog.info? 105).map (·.size) = some 4 := by kernel_rfl
theorem col_ty : Tryz.prog.underlying 105 = some (.array (Tryz.prog.arrayLen 105) (Tryz.prog.elem 105)) := by kernel_rfl
theorem cols_rep : Array.replicate 4 (Value.int .u32 0) = cols fun _ => 0 := rfl
theorem col_zero : ∀ w : World, (zeroValue 105).run Tryz.prog w = .ok (.agg (cols fun _ => 0)) w := by
  rw [← cols_rep]
  exact (zero_of_info (n := 4) (by kernel_rfl)).1
end Go.Proofs.YtnkahdidelhdaacGreatDoor

/-!   The rows moved, the substitutes put in. -/
namespace Go.Proofs.YtnkahdidelhdaacGreatDoor
open Go.RowKit
set_option linter.unusedVariables false

/-- three rows that the call has made: the state, the answer, and what is made -/
structure ShfW (w : World) (S Z cur : Array Value) (wr : World) : Prop where
  below : Below w.heap.size w wr
  ra : wr.heap[w.heap.size]? = some (.cells S 105 (0, 0))
  rr : wr.heap[w.heap.size + 1]? = some (.cells Z 105 (0, 0))
  ro : wr.heap[w.heap.size + 2]? = some (.cells cur 105 (0, 0))
theorem ShfW.set {w wr : World} {S Z cur : Array Value} (h : ShfW w S Z cur wr) (t : Nat) (v : Value) : ShfW w S Z (cur.setIfInBounds t v) (wr.setCell ⟨w.heap.size + 2, t, none⟩ v) :=
  ⟨h.below.setCell (p := ⟨w.heap.size + 2, t, none⟩) (by show _ ≤ w.heap.size + 2; omega) v,
    by rw [heap_setCell_other wr ⟨w.heap.size + 2, t, none⟩ _ v (by show _ ≠ w.heap.size + 2; omega)]; exact h.ra,
    by rw [heap_setCell_other wr ⟨w.heap.size + 2, t, none⟩ _ v (by show _ ≠ w.heap.size + 2; omega)]; exact h.rr,
    heap_setCell_same wr _ t _ _ _ h.ro⟩
theorem ShfW.drew {w wr : World} {S Z cur : Array Value} (h : ShfW w S Z cur wr) : ShfW w S Z cur wr.drew := ⟨h.below.drew, h.ra, h.rr, h.ro⟩

theorem heap_al (w : World) (o : Obj) : (w.alloc o).heap[w.heap.size]? = some o ∧ ∀ r', r' < w.heap.size → (w.alloc o).heap[r']? = w.heap[r']? := by
  have e : (w.alloc o).heap = w.heap.push o := rfl
  rw [e]
  exact ⟨by simp, fun r' h => by simp [Array.getElem?_push, Nat.ne_of_lt h]⟩
theorem ShfW.start (w : World) (S Z : Array Value) : ShfW w S Z Z (((w.alloc (.cells S 105)).alloc (.cells Z 105)).alloc (.cells Z 105)) := by
  refine ⟨(((Below.refl _ _).alloc (Nat.le_refl _) _).alloc (by simp) _).alloc (by simp; omega) _, ?_, ?_, ?_⟩
  · rw [(heap_al _ _).2 _ (by simp; omega), (heap_al _ _).2 _ (by simp), (heap_al _ _).1]
  · rw [(heap_al _ _).2 _ (by simp), show w.heap.size + 1 = (w.alloc (.cells S 105)).heap.size by simp, (heap_al _ _).1]
  · rw [show w.heap.size + 2 = ((w.alloc (.cells S 105)).alloc (.cells Z 105)).heap.size by simp, (heap_al _ _).1]
set_option maxRecDepth 100000 in
set_option maxHeartbeats 2000000 in
theorem shifted_any (b : Nat) (W s : Nat → Nat) (w : World) (hs : ∀ i, s i < 256) (hk : KC b W w) :
    Calls Tryz.prog 83 #[.pointer (some ⟨b, 0, none⟩), .agg (cols (cl s))] w fun e w' => e = .returned (.agg (cols (cl (subsB s)))) ∧ Below w.heap.size w w' := by
  have HF : Hid (∀ i, s i < 256) := hs
  have HK : Hid (∀ wr, Below w.heap.size w wr → KC b W wr) := fun wr h => hk.below h hk.lt
  obtain ⟨C, hC⟩ : ∃ C : Nat → Array Value, C = fun n => cols (upTo (cl (subsB s)) (fun _ => 0) n) := ⟨_, rfl⟩
  have HST : Hid (∀ n, n < 4 → (C n).setIfInBounds n (.int .u32 (subW (shW s n) : Nat)) = C (n + 1)) := fun n hn => by
    have := cols_set (cl (subsB s)) (fun _ => 0) hn
    rw [cl_subs hs hn] at this
    rw [hC]; exact this
  have HCS : Hid (∀ n, n < 4 → (C n)[n]? = some (.int .u32 0)) := fun n hn => by
    rw [hC]; show (cols _)[n]? = _
    rw [cols_at _ hn, upTo_new _ _ _ (by omega)]; rfl
  have hEN : cols (cl (subsB s)) = C 4 := by rw [hC]; rfl
  have HON : Hid ((C 4).size = 4 ∧ (C 4).all (·.oneCell') = true) := by rw [← hEN]; exact ⟨rfl, cols_one _⟩
  have hS0 : (cols fun _ => 0) = C 0 := by rw [hC]; rfl
  have hz := col_zero
  rw [hS0] at hz
  rw [hEN]
  have hZs : (C 0).size = 4 := by rw [← hS0]; rfl
  have hZc : (Value.agg (C 0)).cells = C 0 := by rw [← hS0]; kernel_rfl
  obtain ⟨S, hS⟩ : ∃ S : Array Value, S = cols (cl s) := ⟨_, rfl⟩
  have hSc : (Value.agg S).cells = S := by rw [hS]; kernel_rfl
  have hSs : S.size = 4 := by rw [hS]; rfl
  have HC : Hid (∀ j, j < 4 → S[j]? = some (.int .u32 (cl s j : Nat))) := fun j hj => by rw [hS]; exact cols_at _ hj
  rw [← hS]
  clear hS hEN hS0 hC hs hk
  have HI : Hid _ := col_info
  go_enter Tryz.func83, Tryz.ntmps83
  go_wp2_with fail
  have HW0 : Hid (ShfW w S (C 0) (C 0) (((w.alloc (.cells S 105)).alloc (.cells (C 0) 105)).alloc (.cells (C 0) 105))) := ShfW.start w S (C 0)
  have e2 : w.heap.size + 1 + 1 = w.heap.size + 2 := rfl
  rw [e2]
  clear e2 hz hZc hSc
  generalize ((w.alloc (.cells S 105)).alloc (.cells (C 0) 105)).alloc (.cells (C 0) 105) = W3 at HW0 ⊢
  go_loopw [8] (fun c wr => ∃ n : Nat, n ≤ 4 ∧ c = .int .i64 (n : Int) ∧ Hid (ShfW w S (C 0) (C n) wr)) (fun c _ => 4 - (cipIntOf c).toNat)
  case atStart => exact ⟨0, by omega, rfl, HW0⟩
  case round =>
    obtain ⟨n, hn, rfl, HS⟩ := hrel
    clear HW0
    by_cases hlt : n < 4
    · have c0 := (cell_of_row wr _ n _ _ _ HS.out.ra).trans (HC.out n hlt)
      have c1 := (cell_of_row wr _ ((n + 1) % 4) _ _ _ HS.out.ra).trans (HC.out ((n + 1) % 4) (by omega))
      have c2 := (cell_of_row wr _ ((n + 2) % 4) _ _ _ HS.out.ra).trans (HC.out ((n + 2) % 4) (by omega))
      have c3 := (cell_of_row wr _ ((n + 3) % 4) _ _ _ HS.out.ra).trans (HC.out ((n + 3) % 4) (by omega))
      have ho := sh_or s HF.out n
      have hv0 := (cell_of_row wr _ n _ _ _ HS.out.ro).trans (HCS.out n hlt)
      have hfz := frozen_of_row wr _ n _ _ HS.out.ro
      have HX : Hid (∀ W', Below w.heap.size w W' → Calls Tryz.prog 75 #[.pointer (some ⟨b, 0, none⟩), .int .u32 (shW s n : Nat)] W' fun e w' => e = .returned (.int .u32 (subW (shW s n) : Nat)) ∧ w' = W'.drew) := fun W' hW => subst_any b _ W' (shW_lt HF.out n) (HK.out W' hW).box
      have HN : Hid (ShfW w S (C 0) (C (n + 1)) (wr.drew.drew.setCell ⟨w.heap.size + 2, n, none⟩ (.int .u32 (subW (shW s n) : Nat)))) := by
        have := HS.out.drew.drew.set n (.int .u32 (subW (shW s n) : Nat))
        rwa [HST.out n hlt] at this
      generalize subW (shW s n) = r at HX HN
      generalize shW s n = x at ho HX
      generalize cl s n = x0 at c0 ho
      generalize cl s ((n + 1) % 4) = x1 at c1 ho
      generalize cl s ((n + 2) % 4) = x2 at c2 ho
      generalize cl s ((n + 3) % 4) = x3 at c3 ho
      have e1 : ((n : Int) + 1) % 4 = (((n + 1) % 4 : Nat) : Int) := by omega
      have e2 : ((n : Int) + 2) % 4 = (((n + 2) % 4 : Nat) : Int) := by omega
      have e3 : ((n : Int) + 3) % 4 = (((n + 3) % 4 : Nat) : Int) := by omega
      have i1 : (n + 1) % 4 < 4 := by omega
      have i2 : (n + 2) % 4 < 4 := by omega
      have i3 : (n + 3) % 4 < 4 := by omega
      generalize (n + 1) % 4 = j1 at c1 e1 i1
      generalize (n + 2) % 4 = j2 at c2 e2 i2
      generalize (n + 3) % 4 = j3 at c3 e3 i3
      have HB : Hid _ := HS.out.below
      go_wp2_with fail
      go_region
      go_wp2_with fail
      refine (HX.out _ HB.out.drew).mono ?_
      rintro e w' ⟨rfl, hw⟩
      subst w'
      go_wp2_with fail
      go_roundw
      case rel => exact ⟨n + 1, by omega, by go_num, HN⟩
      case measure => simp [cipIntOf]; omega
    · obtain rfl : n = 4 := by omega
      have H1 : Hid _ := HS.out.ro
      have H2 : Hid _ := HS.out.rr
      have hi52 : (Tryz.prog.info? 105).map (·.size) = some (C 4).size := by rw [HON.out.1]; exact HI.out
      have H4 : Hid _ := hi52
      have H5 : Hid ((C 0).size = (C 4).size) := by show _ = _; rw [HON.out.1]; exact hZs
      have H3 : Hid _ := setRow_heap wr (w.heap.size + 1) (C 0) (C 4) 105 (0, 0) HS.out.rr
      have H6 : Hid (Below w.heap.size w (wr.setRow (w.heap.size + 1) (C 4))) := HS.out.below.trans ⟨rfl, rfl, rfl, by simp, fun k hk => setRow_other _ _ _ _ (by omega)⟩
      have H7 : Hid _ := HON.out.2
      clear hi52 HS HST HCS HON hZs hSs
      generalize hD : C 4 = D at H1 H2 H3 H4 H5 H6 H7
      have HDD : Hid (C 4 = D) := hD
      clear hD
      generalize C 0 = Z at H2 H5
      go_wp2_with (first
        | (refine wpList_load_row rfl 105 _ rfl (w.heap.size + 2) rfl 105 D (0, 0) _ H1.out Tryz.underlying105 rfl H4.out ?_)
        | (refine wpList_store_row rfl 105 _ (.tmp 42) rfl (w.heap.size + 1) D rfl rfl 105 Z H2.out H4.out H5.out H7.out ?_))
      (try simp only [Exit.inBlock, Exit.then])
      exact bodyPost_ret (results_cell_row rfl _ _ (w.heap.size + 1) 105 D (0, 0) _ rfl H3.out Tryz.underlying105 rfl H4.out) rfl ⟨by rw [HDD.out], H6.out⟩
end Go.Proofs.YtnkahdidelhdaacGreatDoor

/-!   A round, and all rounds. -/
namespace Go.Proofs.YtnkahdidelhdaacGreatDoor
open Go.RowKit
set_option linter.unusedVariables false

/-- two rows that the call has made: the state and the answer -/
structure RW (w : World) (cur Z : Array Value) (wr : World) : Prop where
  below : Below w.heap.size w wr
  ra : wr.heap[w.heap.size]? = some (.cells cur 105 (0, 0))
  rr : wr.heap[w.heap.size + 1]? = some (.cells Z 105 (0, 0))
theorem RW.set {w wr : World} {Z cur : Array Value} (h : RW w cur Z wr) (t : Nat) (v : Value) : RW w (cur.setIfInBounds t v) Z (wr.setCell ⟨w.heap.size, t, none⟩ v) :=
  ⟨h.below.setCell (p := ⟨w.heap.size, t, none⟩) (Nat.le_refl _) v, heap_setCell_same wr _ t _ _ _ h.ra,
    by rw [heap_setCell_other wr ⟨w.heap.size, t, none⟩ _ v (by show _ ≠ w.heap.size; omega)]; exact h.rr⟩
theorem RW.drew {w wr : World} {Z cur : Array Value} (h : RW w cur Z wr) : RW w cur Z wr.drew := ⟨h.below.drew, h.ra, h.rr⟩
theorem RW.lt {w wr : World} {Z cur : Array Value} (h : RW w cur Z wr) : w.heap.size + 1 < wr.heap.size := (Array.getElem?_eq_some_iff.1 h.rr).1
theorem below_trans {B C : Nat} {a b c : World} (h : Below B a b) (k : Below C b c) (hBC : B ≤ C) : Below B a c :=
  ⟨k.os.trans h.os, k.tape.trans h.tape, k.output.trans h.output, Nat.le_trans h.size k.size, fun i hi => (k.block i (Nat.lt_of_lt_of_le hi hBC)).trans (h.block i hi)⟩
theorem RW.call {w wr w' : World} {Z cur : Array Value} (h : RW w cur Z wr) (hb : Below wr.heap.size wr w') : RW w cur Z w' :=
  ⟨below_trans h.below hb h.below.size, (hb.block _ (by have := h.lt; omega)).trans h.ra, (hb.block _ h.lt).trans h.rr⟩
theorem RW.row {w wr : World} {Z cur : Array Value} (h : RW w cur Z wr) (new : Array Value) : RW w new Z (wr.setRow w.heap.size new) :=
  ⟨h.below.trans ⟨rfl, rfl, rfl, by simp, fun k hk => setRow_other _ _ _ _ (by omega)⟩, setRow_heap wr w.heap.size cur new 105 (0, 0) h.ra, by rw [setRow_other _ _ _ _ (by omega)]; exact h.rr⟩
theorem RW.start (w : World) (S Z : Array Value) : RW w S Z ((w.alloc (.cells S 105)).alloc (.cells Z 105)) := by
  refine ⟨((Below.refl _ _).alloc (Nat.le_refl _) _).alloc (by simp) _, ?_, ?_⟩
  · rw [(heap_al _ _).2 _ (by simp), (heap_al _ _).1]
  · rw [show w.heap.size + 1 = (w.alloc (.cells S 105)).heap.size by simp, (heap_al _ _).1]
theorem index_col (f : Nat → Nat) (j : Nat) (w : World) (hj : j < 4) :
    (Instr.index 105 (.agg (cols f)) (.int .i64 (j : Int))).run Tryz.prog w = .ok (.int .u32 (f j : Nat)) w := by
  have hs : (sizeOf 67).run Tryz.prog w = .ok 1 w := by kernel_rfl
  have ha : (isAgg 67).run Tryz.prog w = .ok false w := by kernel_rfl
  have hc := cols_at f hj
  simp [Instr.index, asIntOf, run_underlying Tryz.underlying105, part, hs, ha, hc, Result.andThen]
  intro h; omega
/-- the block behind a round -/
def rdB (s W : Nat → Nat) (r : Nat) : Nat → Nat := addB (if r = 0 then s else midB s r) W r

set_option maxRecDepth 100000 in
set_option maxHeartbeats 2000000 in
theorem round_any (b : Nat) (W s : Nat → Nat) (r : Nat) (w : World) (hs : ∀ i, s i < 256) (hk : KC b W w) (hr : r ≤ 14) (hW : ∀ j, j < 60 → W j < 4294967296) :
    Calls Tryz.prog 76 #[.pointer (some ⟨b, 0, none⟩), .agg (cols (cl s)), .int .i64 (r : Int)] w fun e w' => e = .returned (.agg (cols (cl (rdB s W r)))) ∧ Below w.heap.size w w' := by
  have HK : Hid (∀ wr, Below w.heap.size w wr → KC b W wr) := fun wr h => hk.below h hk.lt
  have HF : Hid (∀ i, s i < 256) := hs
  have HWL : Hid (∀ j, j < 60 → W j < 4294967296) := hW
  have hbl : b < w.heap.size := hk.lt
  clear hk hs hW
  obtain ⟨Z, hZ⟩ : ∃ Z : Array Value, Z = cols fun _ => 0 := ⟨_, rfl⟩
  have hz := col_zero
  rw [← hZ] at hz
  have hZs : Z.size = 4 := by rw [hZ]; rfl
  have hZc : (Value.agg Z).cells = Z := by rw [hZ]; kernel_rfl
  have hSc : (Value.agg (cols (cl s))).cells = cols (cl s) := by kernel_rfl
  have hSs : (cols (cl s)).size = 4 := rfl
  clear hZ
  have HI : Hid _ := col_info
  obtain ⟨S, hS⟩ : ∃ S : Array Value, S = cols (cl s) := ⟨_, rfl⟩
  rw [← hS] at hSc hSs
  rw [← hS]
  have HS0 : Hid (S = cols (cl s)) := hS
  clear hS
  have HSs : Hid (S.size = 4) := hSs
  clear hSs
  go_enter Tryz.func76, Tryz.ntmps76
  rcases (by omega : r = 0 ∨ (0 < r ∧ r < 14) ∨ r = 14) with hr0 | hrm | hr14
  · have h0 : ¬ (0 : Int) < (r : Int) := by omega
    have HR0 : Hid (r = 0) := hr0
    clear hr0
    go_wp2_with fail
    have HR : Hid (RW w S Z ((w.alloc (.cells S 105)).alloc (.cells Z 105))) := RW.start w S Z
    clear hz hZc hSc
    generalize (w.alloc (.cells S 105)).alloc (.cells Z 105) = W2 at HR ⊢
    obtain ⟨y, hy⟩ : ∃ y, y = (s) := ⟨_, rfl⟩
    have HY : Hid (∀ i, y i < 256) := by rw [hy]; exact HF.out
    have HP0 : Hid (rdB s W r = addB y W r) := by rw [hy]; exact (by show _ = _; unfold rdB; rw [if_pos HR0.out])
    obtain ⟨C, hC⟩ : ∃ C : Nat → Array Value, C = fun n => cols (upTo (cl (addB y W r)) (cl y) n) := ⟨_, rfl⟩
    have HRC : Hid (RW w (C 0) Z W2) := by
      rw [hC]; show RW w (cols (cl y)) Z _
      rw [hy]; exact by rw [← HS0.out]; exact HR.out
    have HCS : Hid (∀ n, n < 4 → (C n).setIfInBounds n (.int .u32 ((cl y n ^^^ W (4 * r + n) : Nat) : Int)) = C (n + 1)) := fun n hn => by
      have := cols_set (cl (addB y W r)) (cl y) hn
      rw [cl_add HY.out (HWL.out _ (by omega))] at this
      rw [hC]; exact this
    have HCA : Hid (∀ n, n < 4 → (C n)[n]? = some (.int .u32 (cl y n : Nat))) := fun n hn => by
      rw [hC]; show (cols _)[n]? = _
      rw [cols_at _ hn, upTo_new _ _ _ (by omega)]
    have HC4 : Hid ((C 4).size = 4 ∧ (C 4).all (·.oneCell') = true ∧ cols (cl (rdB s W r)) = C 4) := by
      rw [HP0.out, hC]; exact ⟨rfl, cols_one _, rfl⟩
    clear HP0 hC hy
    go_loopw [32] (fun c wr => ∃ n : Nat, n ≤ 4 ∧ c = .int .i64 (n : Int) ∧ Hid (RW w (C n) Z wr)) (fun c _ => 4 - (cipIntOf c).toNat)
    case atStart => exact ⟨0, by omega, rfl, HRC⟩
    case round =>
      obtain ⟨n, hn, rfl, HQ⟩ := hrel
      clear HRC
      by_cases hlt : n < 4
      · have c0 := (cell_of_row wr _ n _ _ _ HQ.out.ra).trans (HCA.out n hlt)
        have c1 := (HK.out wr HQ.out.below).word (4 * r + n) (by omega)
        have l0 := cl_lt HY.out n
        have l1 := HWL.out (4 * r + n) (by omega)
        have hfz := frozen_of_row wr _ n _ _ HQ.out.ra
        have hxo : bits .xor .u32 (cl y n : Nat) (W (4 * r + n) : Nat) = ((cl y n ^^^ W (4 * r + n) : Nat) : Int) := u32_xor_nat _ _ l0 l1
        have HN : Hid (RW w (C (n + 1)) Z (wr.drew.setCell ⟨w.heap.size, n, none⟩ (.int .u32 ((cl y n ^^^ W (4 * r + n) : Nat) : Int)))) := by
          have := HQ.out.drew.set n (.int .u32 ((cl y n ^^^ W (4 * r + n) : Nat) : Int))
          rwa [HCS.out n hlt] at this
        generalize cl y n ^^^ W (4 * r + n) = v at hxo HN
        generalize cl y n = x0 at c0 l0 hxo
        generalize W (4 * r + n) = x1 at c1 l1 hxo
        have e1 : 4 * (r : Int) + (n : Int) = ((4 * r + n : Nat) : Int) := by omega
        have e1l : 4 * r + n < 60 := by omega
        generalize 4 * r + n = q at c1 e1 e1l
        go_wp2_with fail
        go_region
        go_wp2_with fail
        go_roundw
        case rel => exact ⟨n + 1, by omega, by go_num, HN⟩
        case measure => simp [cipIntOf]; omega
      · obtain rfl : n = 4 := by omega
        have H1 : Hid _ := HQ.out.ra
        have H2 : Hid _ := HQ.out.rr
        have H4 : Hid (Option.map (·.size) (Tryz.prog.info? 105) = some (C 4).size) := by show _ = _; rw [HC4.out.1]; exact HI.out
        have H5 : Hid (Z.size = (C 4).size) := by show _ = _; rw [HC4.out.1]; exact hZs
        have H3 : Hid _ := setRow_heap wr (w.heap.size + 1) Z (C 4) 105 (0, 0) HQ.out.rr
        have H6 : Hid (Below w.heap.size w (wr.setRow (w.heap.size + 1) (C 4))) := HQ.out.below.trans ⟨rfl, rfl, rfl, by simp, fun k hk => setRow_other _ _ _ _ (by omega)⟩
        have H7 : Hid _ := HC4.out.2.1
        have H8 : Hid _ := HC4.out.2.2
        clear HQ HCS HCA HC4 hZs
        generalize C 4 = D at H1 H2 H3 H4 H5 H6 H7 H8
        go_wp2_with (first
          | (refine wpList_load_row rfl 105 _ rfl (w.heap.size) rfl 105 D (0, 0) _ H1.out Tryz.underlying105 rfl H4.out ?_)
          | (refine wpList_store_row rfl 105 _ (.tmp 50) rfl (w.heap.size + 1) D rfl rfl 105 Z H2.out H4.out H5.out H7.out ?_))
        (try simp only [Exit.inBlock, Exit.then])
        exact bodyPost_ret (results_cell_row rfl _ _ (w.heap.size + 1) 105 D (0, 0) _ rfl H3.out Tryz.underlying105 rfl H4.out) rfl ⟨by rw [H8.out], H6.out⟩
  · obtain ⟨hrp, hrl⟩ := hrm
    have h0 : (0 : Int) < (r : Int) := by omega
    have h14 : (r : Int) < 14 := by omega
    have HR : Hid (RW w S Z ((w.alloc (.cells S 105)).alloc (.cells Z 105))) := RW.start w S Z
    have hld : ((w.alloc (.cells S 105)).alloc (.cells Z 105)).heap[w.heap.size]? = some (.cells S 105 (0, 0)) := HR.out.ra
    have HLD : Hid _ := hld
    clear hld
    have hi4 : (Tryz.prog.info? 105).map (·.size) = some S.size := by rw [HSs.out]; exact HI.out
    have HI4 : Hid _ := hi4
    clear hi4
    have HSH : Hid (Calls Tryz.prog 83 #[.pointer (some ⟨b, 0, none⟩), .agg S] ((w.alloc (.cells S 105)).alloc (.cells Z 105)) fun e w' => e = .returned (.agg (cols (cl (subsB s)))) ∧ Below ((w.alloc (.cells S 105)).alloc (.cells Z 105)).heap.size ((w.alloc (.cells S 105)).alloc (.cells Z 105)) w') := by
      have t := shifted_any b W s ((w.alloc (.cells S 105)).alloc (.cells Z 105)) HF.out (HK.out ((w.alloc (.cells S 105)).alloc (.cells Z 105)) HR.out.below)
      rw [← HS0.out] at t
      exact t
    obtain ⟨X, hX⟩ : ∃ X : Array Value, X = cols (cl (subsB s)) := ⟨_, rfl⟩
    rw [← hX] at HSH
    have hXs : X.size = S.size := by rw [hX, HSs.out]; rfl
    have HXI : Hid (Option.map (·.size) (Tryz.prog.info? 105) = some X.size ∧ S.size = X.size ∧ X.all (·.oneCell') = true) := ⟨by rw [hXs]; exact HI4.out, hXs.symm, by rw [hX]; exact cols_one _⟩
    have HX : Hid _ := hX
    clear hX hXs
    go_wp2_with (refine wpList_load_row rfl 105 _ rfl (w.heap.size) rfl 105 S (0, 0) _ HLD.out Tryz.underlying105 rfl HI4.out ?_)
    refine HSH.out.mono ?_
    rintro e w3 ⟨rfl, hb3⟩
    have HR3 : Hid (RW w S Z w3) := HR.out.call hb3
    have HR4 : Hid (RW w X Z (w3.setRow w.heap.size X)) := HR3.out.row X
    have HLD3 : Hid (w3.heap[w.heap.size]? = some (.cells S 105 (0, 0))) := HR3.out.ra
    clear hb3 HSH HR HLD
    have HLD4 : Hid ((w3.setRow w.heap.size X).heap[w.heap.size]? = some (.cells X 105 (0, 0))) := HR4.out.ra
    go_wp2_with (first
      | (refine wpList_store_row rfl 105 _ (.tmp 14) rfl (w.heap.size) X rfl rfl 105 S HLD3.out HXI.out.1 HXI.out.2.1 HXI.out.2.2 ?_)
      | (refine wpList_load_row rfl 105 _ rfl (w.heap.size) rfl 105 X (0, 0) _ HLD4.out Tryz.underlying105 rfl HXI.out.1 ?_))
    clear HLD3 HR3 HLD4
    generalize w3.setRow w.heap.size X = W4 at HR4 ⊢
    have HMX : Hid (RW w X Z W4) := HR4.out
    clear HR4
    obtain ⟨y1, hy1⟩ : ∃ y1, y1 = subsB s := ⟨_, rfl⟩
    have HY1 : Hid (∀ i, y1 i < 256) := by rw [hy1]; exact subsB_lt HF.out
    have HYE : Hid (y1 = subsB s) := hy1
    have HX1 : Hid (X = cols (cl y1)) := by rw [hy1]; exact HX.out
    clear hy1
    obtain ⟨C, hC⟩ : ∃ C : Nat → Array Value, C = fun n => cols (upTo (cl (mixB y1)) (cl y1) n) := ⟨_, rfl⟩
    have HRC : Hid (RW w (C 0) Z W4) := by
      rw [hC]; show RW w (cols (cl y1)) Z _
      rw [← HX1.out]; exact HMX.out
    have HCS : Hid (∀ n, n < 4 → (C n).setIfInBounds n (.int .u32 (cl (mixB y1) n : Nat)) = C (n + 1)) := fun n hn => by
      rw [hC]; exact cols_set (cl (mixB y1)) (cl y1) hn
    have HCA : Hid (∀ n, n < 4 → (C n)[n]? = some (.int .u32 (cl y1 n : Nat))) := fun n hn => by
      rw [hC]; show (cols _)[n]? = _
      rw [cols_at _ hn, upTo_new _ _ _ (by omega)]
    have HC4 : Hid (C 4 = cols (cl (mixB y1))) := by rw [hC]; rfl
    clear hC
    have HIX : Hid (∀ (n : Nat) (w' : World), n < 4 → (Instr.index 105 (.agg X) (.int .i64 (n : Int))).run Tryz.prog w' = .ok (.int .u32 (cl y1 n : Nat)) w') := fun n w' hn => by rw [HX1.out]; exact index_col _ n w' hn
    clear HMX HX HI4
    go_loopw [23] (fun c wr => ∃ n : Nat, n ≤ 4 ∧ c = .int .i64 (n : Int) ∧ Hid (RW w (C n) Z wr)) (fun c _ => 4 - (cipIntOf c).toNat)
    case atStart => exact ⟨0, by omega, rfl, HRC⟩
    case round =>
      obtain ⟨n, hn, rfl, HQ⟩ := hrel
      clear HRC
      by_cases hlt : n < 4
      · have hix : ∀ w', (Instr.index 105 (.agg X) (.int .i64 (n : Int))).run Tryz.prog w' = .ok (.int .u32 (cl y1 n : Nat)) w' := fun w' => HIX.out n w' hlt
        have c0 := (cell_of_row wr _ n _ _ _ HQ.out.ra).trans (HCA.out n hlt)
        have hfz := frozen_of_row wr _ n _ _ HQ.out.ra
        have HM : Hid (∀ w', Calls Tryz.prog 84 #[.int .u32 (cl y1 n : Nat)] w' fun e w'' => e = .returned (.int .u32 (cl (mixB y1) n : Nat)) ∧ w'' = w') := fun w' => by
          rw [cl_mix]; exact mixed_any _ _ _ _ w' (HY1.out _) (HY1.out _) (HY1.out _) (HY1.out _)
        have HN : Hid (RW w (C (n + 1)) Z (wr.setCell ⟨w.heap.size, n, none⟩ (.int .u32 (cl (mixB y1) n : Nat)))) := by
          have := HQ.out.set n (.int .u32 (cl (mixB y1) n : Nat))
          rwa [HCS.out n hlt] at this
        generalize cl (mixB y1) n = v at HM HN
        generalize cl y1 n = x0 at c0 hix HM
        go_wp2_with fail
        refine (HM.out _).mono ?_
        rintro e w' ⟨rfl, hw⟩
        subst w'
        go_wp2_with fail
        go_roundw
        case rel => exact ⟨n + 1, by omega, by go_num, HN⟩
        case measure => simp [cipIntOf]; omega
      · obtain rfl : n = 4 := by omega
        have HR4 : Hid (RW w (cols (cl (mixB y1))) Z wr) := by rw [← HC4.out]; exact HQ.out
        clear HCS HCA HQ HIX HC4
        go_wp2_with fail
        obtain ⟨y, hy⟩ : ∃ y, y = (mixB y1) := ⟨_, rfl⟩
        have HY : Hid (∀ i, y i < 256) := by rw [hy]; exact mixB_lt HY1.out
        have HP0 : Hid (rdB s W r = addB y W r) := by rw [hy]; exact (by show _ = _; rw [HYE.out]; unfold rdB midB; rw [if_neg (by omega), if_pos hrl])
        obtain ⟨C, hC⟩ : ∃ C : Nat → Array Value, C = fun n => cols (upTo (cl (addB y W r)) (cl y) n) := ⟨_, rfl⟩
        have HRC : Hid (RW w (C 0) Z wr) := by
          rw [hC]; show RW w (cols (cl y)) Z _
          rw [hy]; exact HR4.out
        have HCS : Hid (∀ n, n < 4 → (C n).setIfInBounds n (.int .u32 ((cl y n ^^^ W (4 * r + n) : Nat) : Int)) = C (n + 1)) := fun n hn => by
          have := cols_set (cl (addB y W r)) (cl y) hn
          rw [cl_add HY.out (HWL.out _ (by omega))] at this
          rw [hC]; exact this
        have HCA : Hid (∀ n, n < 4 → (C n)[n]? = some (.int .u32 (cl y n : Nat))) := fun n hn => by
          rw [hC]; show (cols _)[n]? = _
          rw [cols_at _ hn, upTo_new _ _ _ (by omega)]
        have HC4 : Hid ((C 4).size = 4 ∧ (C 4).all (·.oneCell') = true ∧ cols (cl (rdB s W r)) = C 4) := by
          rw [HP0.out, hC]; exact ⟨rfl, cols_one _, rfl⟩
        clear HP0 hC hy
        go_loopw [32] (fun c wr => ∃ n : Nat, n ≤ 4 ∧ c = .int .i64 (n : Int) ∧ Hid (RW w (C n) Z wr)) (fun c _ => 4 - (cipIntOf c).toNat)
        case atStart => exact ⟨0, by omega, rfl, HRC⟩
        case round =>
          obtain ⟨n, hn, rfl, HQ⟩ := hrel
          clear HRC
          by_cases hlt : n < 4
          · have c0 := (cell_of_row wr _ n _ _ _ HQ.out.ra).trans (HCA.out n hlt)
            have c1 := (HK.out wr HQ.out.below).word (4 * r + n) (by omega)
            have l0 := cl_lt HY.out n
            have l1 := HWL.out (4 * r + n) (by omega)
            have hfz := frozen_of_row wr _ n _ _ HQ.out.ra
            have hxo : bits .xor .u32 (cl y n : Nat) (W (4 * r + n) : Nat) = ((cl y n ^^^ W (4 * r + n) : Nat) : Int) := u32_xor_nat _ _ l0 l1
            have HN : Hid (RW w (C (n + 1)) Z (wr.drew.setCell ⟨w.heap.size, n, none⟩ (.int .u32 ((cl y n ^^^ W (4 * r + n) : Nat) : Int)))) := by
              have := HQ.out.drew.set n (.int .u32 ((cl y n ^^^ W (4 * r + n) : Nat) : Int))
              rwa [HCS.out n hlt] at this
            generalize cl y n ^^^ W (4 * r + n) = v at hxo HN
            generalize cl y n = x0 at c0 l0 hxo
            generalize W (4 * r + n) = x1 at c1 l1 hxo
            have e1 : 4 * (r : Int) + (n : Int) = ((4 * r + n : Nat) : Int) := by omega
            have e1l : 4 * r + n < 60 := by omega
            generalize 4 * r + n = q at c1 e1 e1l
            go_wp2_with fail
            go_region
            go_wp2_with fail
            go_roundw
            case rel => exact ⟨n + 1, by omega, by go_num, HN⟩
            case measure => simp [cipIntOf]; omega
          · obtain rfl : n = 4 := by omega
            have H1 : Hid _ := HQ.out.ra
            have H2 : Hid _ := HQ.out.rr
            have H4 : Hid (Option.map (·.size) (Tryz.prog.info? 105) = some (C 4).size) := by show _ = _; rw [HC4.out.1]; exact HI.out
            have H5 : Hid (Z.size = (C 4).size) := by show _ = _; rw [HC4.out.1]; exact hZs
            have H3 : Hid _ := setRow_heap wr (w.heap.size + 1) Z (C 4) 105 (0, 0) HQ.out.rr
            have H6 : Hid (Below w.heap.size w (wr.setRow (w.heap.size + 1) (C 4))) := HQ.out.below.trans ⟨rfl, rfl, rfl, by simp, fun k hk => setRow_other _ _ _ _ (by omega)⟩
            have H7 : Hid _ := HC4.out.2.1
            have H8 : Hid _ := HC4.out.2.2
            clear HQ HCS HCA HC4 hZs
            generalize C 4 = D at H1 H2 H3 H4 H5 H6 H7 H8
            go_wp2_with (first
              | (refine wpList_load_row rfl 105 _ rfl (w.heap.size) rfl 105 D (0, 0) _ H1.out Tryz.underlying105 rfl H4.out ?_)
              | (refine wpList_store_row rfl 105 _ (.tmp 50) rfl (w.heap.size + 1) D rfl rfl 105 Z H2.out H4.out H5.out H7.out ?_))
            (try simp only [Exit.inBlock, Exit.then])
            exact bodyPost_ret (results_cell_row rfl _ _ (w.heap.size + 1) 105 D (0, 0) _ rfl H3.out Tryz.underlying105 rfl H4.out) rfl ⟨by rw [H8.out], H6.out⟩
  · have h0 : (0 : Int) < (r : Int) := by omega
    have h14 : ¬ (r : Int) < 14 := by omega
    have HR0 : Hid (r = 14) := hr14
    clear hr14
    have HR : Hid (RW w S Z ((w.alloc (.cells S 105)).alloc (.cells Z 105))) := RW.start w S Z
    have hld : ((w.alloc (.cells S 105)).alloc (.cells Z 105)).heap[w.heap.size]? = some (.cells S 105 (0, 0)) := HR.out.ra
    have HLD : Hid _ := hld
    clear hld
    have hi4 : (Tryz.prog.info? 105).map (·.size) = some S.size := by rw [HSs.out]; exact HI.out
    have HI4 : Hid _ := hi4
    clear hi4
    have HSH : Hid (Calls Tryz.prog 83 #[.pointer (some ⟨b, 0, none⟩), .agg S] ((w.alloc (.cells S 105)).alloc (.cells Z 105)) fun e w' => e = .returned (.agg (cols (cl (subsB s)))) ∧ Below ((w.alloc (.cells S 105)).alloc (.cells Z 105)).heap.size ((w.alloc (.cells S 105)).alloc (.cells Z 105)) w') := by
      have t := shifted_any b W s ((w.alloc (.cells S 105)).alloc (.cells Z 105)) HF.out (HK.out ((w.alloc (.cells S 105)).alloc (.cells Z 105)) HR.out.below)
      rw [← HS0.out] at t
      exact t
    obtain ⟨X, hX⟩ : ∃ X : Array Value, X = cols (cl (subsB s)) := ⟨_, rfl⟩
    rw [← hX] at HSH
    have hXs : X.size = S.size := by rw [hX, HSs.out]; rfl
    have HXI : Hid (Option.map (·.size) (Tryz.prog.info? 105) = some X.size ∧ S.size = X.size ∧ X.all (·.oneCell') = true) := ⟨by rw [hXs]; exact HI4.out, hXs.symm, by rw [hX]; exact cols_one _⟩
    have HX : Hid _ := hX
    clear hX hXs
    go_wp2_with (refine wpList_load_row rfl 105 _ rfl (w.heap.size) rfl 105 S (0, 0) _ HLD.out Tryz.underlying105 rfl HI4.out ?_)
    refine HSH.out.mono ?_
    rintro e w3 ⟨rfl, hb3⟩
    have HR3 : Hid (RW w S Z w3) := HR.out.call hb3
    have HR4 : Hid (RW w X Z (w3.setRow w.heap.size X)) := HR3.out.row X
    have HLD3 : Hid (w3.heap[w.heap.size]? = some (.cells S 105 (0, 0))) := HR3.out.ra
    clear hb3 HSH HR HLD
    have HLD4 : Hid ((w3.setRow w.heap.size X).heap[w.heap.size]? = some (.cells X 105 (0, 0))) := HR4.out.ra
    go_wp2_with (first
      | (refine wpList_store_row rfl 105 _ (.tmp 14) rfl (w.heap.size) X rfl rfl 105 S HLD3.out HXI.out.1 HXI.out.2.1 HXI.out.2.2 ?_)
      | (refine wpList_load_row rfl 105 _ rfl (w.heap.size) rfl 105 X (0, 0) _ HLD4.out Tryz.underlying105 rfl HXI.out.1 ?_))
    clear HLD3 HR3 HLD4
    generalize w3.setRow w.heap.size X = W4 at HR4 ⊢
    obtain ⟨y, hy⟩ : ∃ y, y = (subsB s) := ⟨_, rfl⟩
    have HY : Hid (∀ i, y i < 256) := by rw [hy]; exact subsB_lt HF.out
    have HP0 : Hid (rdB s W r = addB y W r) := by rw [hy]; exact (by show _ = _; unfold rdB midB; rw [if_neg (by have := HR0.out; omega), if_neg (by have := HR0.out; omega)])
    obtain ⟨C, hC⟩ : ∃ C : Nat → Array Value, C = fun n => cols (upTo (cl (addB y W r)) (cl y) n) := ⟨_, rfl⟩
    have HRC : Hid (RW w (C 0) Z W4) := by
      rw [hC]; show RW w (cols (cl y)) Z _
      rw [hy]; exact by rw [← HX.out]; exact HR4.out
    have HCS : Hid (∀ n, n < 4 → (C n).setIfInBounds n (.int .u32 ((cl y n ^^^ W (4 * r + n) : Nat) : Int)) = C (n + 1)) := fun n hn => by
      have := cols_set (cl (addB y W r)) (cl y) hn
      rw [cl_add HY.out (HWL.out _ (by omega))] at this
      rw [hC]; exact this
    have HCA : Hid (∀ n, n < 4 → (C n)[n]? = some (.int .u32 (cl y n : Nat))) := fun n hn => by
      rw [hC]; show (cols _)[n]? = _
      rw [cols_at _ hn, upTo_new _ _ _ (by omega)]
    have HC4 : Hid ((C 4).size = 4 ∧ (C 4).all (·.oneCell') = true ∧ cols (cl (rdB s W r)) = C 4) := by
      rw [HP0.out, hC]; exact ⟨rfl, cols_one _, rfl⟩
    clear HP0 hC hy
    go_loopw [32] (fun c wr => ∃ n : Nat, n ≤ 4 ∧ c = .int .i64 (n : Int) ∧ Hid (RW w (C n) Z wr)) (fun c _ => 4 - (cipIntOf c).toNat)
    case atStart => exact ⟨0, by omega, rfl, HRC⟩
    case round =>
      obtain ⟨n, hn, rfl, HQ⟩ := hrel
      clear HRC
      by_cases hlt : n < 4
      · have c0 := (cell_of_row wr _ n _ _ _ HQ.out.ra).trans (HCA.out n hlt)
        have c1 := (HK.out wr HQ.out.below).word (4 * r + n) (by omega)
        have l0 := cl_lt HY.out n
        have l1 := HWL.out (4 * r + n) (by omega)
        have hfz := frozen_of_row wr _ n _ _ HQ.out.ra
        have hxo : bits .xor .u32 (cl y n : Nat) (W (4 * r + n) : Nat) = ((cl y n ^^^ W (4 * r + n) : Nat) : Int) := u32_xor_nat _ _ l0 l1
        have HN : Hid (RW w (C (n + 1)) Z (wr.drew.setCell ⟨w.heap.size, n, none⟩ (.int .u32 ((cl y n ^^^ W (4 * r + n) : Nat) : Int)))) := by
          have := HQ.out.drew.set n (.int .u32 ((cl y n ^^^ W (4 * r + n) : Nat) : Int))
          rwa [HCS.out n hlt] at this
        generalize cl y n ^^^ W (4 * r + n) = v at hxo HN
        generalize cl y n = x0 at c0 l0 hxo
        generalize W (4 * r + n) = x1 at c1 l1 hxo
        have e1 : 4 * (r : Int) + (n : Int) = ((4 * r + n : Nat) : Int) := by omega
        have e1l : 4 * r + n < 60 := by omega
        generalize 4 * r + n = q at c1 e1 e1l
        go_wp2_with fail
        go_region
        go_wp2_with fail
        go_roundw
        case rel => exact ⟨n + 1, by omega, by go_num, HN⟩
        case measure => simp [cipIntOf]; omega
      · obtain rfl : n = 4 := by omega
        have H1 : Hid _ := HQ.out.ra
        have H2 : Hid _ := HQ.out.rr
        have H4 : Hid (Option.map (·.size) (Tryz.prog.info? 105) = some (C 4).size) := by show _ = _; rw [HC4.out.1]; exact HI.out
        have H5 : Hid (Z.size = (C 4).size) := by show _ = _; rw [HC4.out.1]; exact hZs
        have H3 : Hid _ := setRow_heap wr (w.heap.size + 1) Z (C 4) 105 (0, 0) HQ.out.rr
        have H6 : Hid (Below w.heap.size w (wr.setRow (w.heap.size + 1) (C 4))) := HQ.out.below.trans ⟨rfl, rfl, rfl, by simp, fun k hk => setRow_other _ _ _ _ (by omega)⟩
        have H7 : Hid _ := HC4.out.2.1
        have H8 : Hid _ := HC4.out.2.2
        clear HQ HCS HCA HC4 hZs
        generalize C 4 = D at H1 H2 H3 H4 H5 H6 H7 H8
        go_wp2_with (first
          | (refine wpList_load_row rfl 105 _ rfl (w.heap.size) rfl 105 D (0, 0) _ H1.out Tryz.underlying105 rfl H4.out ?_)
          | (refine wpList_store_row rfl 105 _ (.tmp 50) rfl (w.heap.size + 1) D rfl rfl 105 Z H2.out H4.out H5.out H7.out ?_))
        (try simp only [Exit.inBlock, Exit.then])
        exact bodyPost_ret (results_cell_row rfl _ _ (w.heap.size + 1) 105 D (0, 0) _ rfl H3.out Tryz.underlying105 rfl H4.out) rfl ⟨by rw [H8.out], H6.out⟩
end Go.Proofs.YtnkahdidelhdaacGreatDoor

/-!   All rounds; a block as columns, and a byte of it. -/
namespace Go.Proofs.YtnkahdidelhdaacGreatDoor
open Go.RowKit
set_option linter.unusedVariables false

/-- the block ahead of round n -/
def ahead (s W : Nat → Nat) : Nat → Nat → Nat
  | 0 => s
  | n + 1 => rdB (ahead s W n) W n
theorem ahead_st (s W : Nat → Nat) : ∀ r, ahead s W (r + 1) = stB s W r
  | 0 => by show rdB s W 0 = _; unfold rdB; rw [if_pos rfl]; rfl
  | r + 1 => by
    show rdB (ahead s W (r + 1)) W (r + 1) = _
    rw [ahead_st s W r]; unfold rdB; rw [if_neg (by omega)]; rfl
theorem ahead_lt {s W : Nat → Nat} (hs : ∀ i, s i < 256) (n i : Nat) : ahead s W n i < 256 := by
  cases n with
  | zero => exact hs i
  | succ r => rw [ahead_st]; exact stB_lt hs r i

set_option maxRecDepth 100000 in
set_option maxHeartbeats 2000000 in
theorem enc_any (b : Nat) (W s : Nat → Nat) (w : World) (hs : ∀ i, s i < 256) (hk : KC b W w) (hW : ∀ j, j < 60 → W j < 4294967296) :
    Calls Tryz.prog 63 #[.pointer (some ⟨b, 0, none⟩), .agg (cols (cl s))] w fun e w' => e = .returned (.agg (cols (cl (stB s W 14)))) ∧ Below w.heap.size w w' := by
  have HK : Hid (∀ wr, Below w.heap.size w wr → KC b W wr) := fun wr h => hk.below h hk.lt
  have HF : Hid (∀ i, s i < 256) := hs
  have HWL : Hid (∀ j, j < 60 → W j < 4294967296) := hW
  clear hk hs hW
  obtain ⟨Z, hZ⟩ : ∃ Z : Array Value, Z = cols fun _ => 0 := ⟨_, rfl⟩
  have hz := col_zero
  rw [← hZ] at hz
  have hZs : Z.size = 4 := by rw [hZ]; rfl
  have hZc : (Value.agg Z).cells = Z := by rw [hZ]; kernel_rfl
  have HZS : Hid _ := hZs
  clear hZ
  have HI : Hid _ := col_info
  obtain ⟨C, hC⟩ : ∃ C : Nat → Array Value, C = fun n => cols (cl (ahead s W n)) := ⟨_, rfl⟩
  have hSc : (Value.agg (C 0)).cells = C 0 := by rw [hC]; kernel_rfl
  have HCI : Hid (∀ n, Option.map (·.size) (Tryz.prog.info? 105) = some (C n).size ∧ (∀ m, (C m).size = (C n).size) ∧ (C n).all (·.oneCell') = true ∧ Z.size = (C n).size) := fun n => by
    rw [hC, HZS.out]; exact ⟨HI.out, fun _ => rfl, cols_one _, rfl⟩
  have HRD : Hid (∀ n w', n ≤ 14 → Below w.heap.size w w' → Calls Tryz.prog 76 #[.pointer (some ⟨b, 0, none⟩), .agg (C n), .int .i64 (n : Int)] w' fun e w'' => e = .returned (.agg (C (n + 1))) ∧ Below w'.heap.size w' w'') := fun n w' hn hb => by
    rw [hC]; exact round_any b W (ahead s W n) n w' (ahead_lt HF.out n) (HK.out w' hb) hn HWL.out
  have HE : Hid (cols (cl (stB s W 14)) = C 15) := by rw [hC, ← ahead_st]; exact rfl
  rw [show cols (cl s) = C 0 by rw [hC]; rfl]
  clear hC hZs
  have HR : Hid (RW w (C 0) Z ((w.alloc (.cells (C 0) 105)).alloc (.cells Z 105))) := RW.start w (C 0) Z
  go_enter Tryz.func63, Tryz.ntmps63
  go_wp2_with fail
  clear hz hZc hSc
  generalize (w.alloc (.cells (C 0) 105)).alloc (.cells Z 105) = W2 at HR ⊢
  go_loopw [6] (fun c wr => ∃ n : Nat, n ≤ 15 ∧ c = .int .i64 (n : Int) ∧ Hid (RW w (C n) Z wr)) (fun c _ => 15 - (cipIntOf c).toNat)
  case atStart => exact ⟨0, by omega, rfl, HR⟩
  case round =>
    obtain ⟨n, hn, rfl, HQ⟩ := hrel
    clear HR
    by_cases hlt : n < 15
    · have HC1 : Hid (Calls Tryz.prog 76 #[.pointer (some ⟨b, 0, none⟩), .agg (C n), .int .i64 (n : Int)] wr fun e w'' => e = .returned (.agg (C (n + 1))) ∧ Below wr.heap.size wr w'') := HRD.out n wr (by omega) HQ.out.below
      have HL : Hid (wr.heap[w.heap.size]? = some (.cells (C n) 105 (0, 0))) := HQ.out.ra
      have HC2 : Hid _ := HCI.out n
      have HC3 : Hid (Option.map (·.size) (Tryz.prog.info? 105) = some (C (n + 1)).size ∧ (C n).size = (C (n + 1)).size ∧ (C (n + 1)).all (·.oneCell') = true) := ⟨(HCI.out (n + 1)).1, (HCI.out (n + 1)).2.1 n, (HCI.out (n + 1)).2.2.1⟩
      have HQ2 : Hid (∀ w'', Below wr.heap.size wr w'' → w''.heap[w.heap.size]? = some (.cells (C n) 105 (0, 0)) ∧ RW w (C (n + 1)) Z (w''.setRow w.heap.size (C (n + 1)))) := fun w'' hb => ⟨(HQ.out.call hb).ra, (HQ.out.call hb).row _⟩
      clear HQ HRD
      generalize C n = D at HC1 HL HC2 HC3 HQ2
      generalize hE : C (n + 1) = E at HC1 HC3 HQ2
      have HEE : Hid (C (n + 1) = E) := hE
      clear hE
      go_wp2_with (refine wpList_load_row rfl 105 _ rfl (w.heap.size) rfl 105 D (0, 0) _ HL.out Tryz.underlying105 rfl HC2.out.1 ?_)
      refine HC1.out.mono ?_
      rintro e w3 ⟨rfl, hb3⟩
      have HL3 : Hid (w3.heap[w.heap.size]? = some (.cells D 105 (0, 0))) := (HQ2.out w3 hb3).1
      have HN : Hid (RW w E Z (w3.setRow w.heap.size E)) := (HQ2.out w3 hb3).2
      clear hb3
      go_wp2_with (refine wpList_store_row rfl 105 _ (.tmp 12) rfl (w.heap.size) E rfl rfl 105 D HL3.out HC3.out.1 HC3.out.2.1 HC3.out.2.2 ?_)
      go_roundw
      case rel => exact ⟨n + 1, by omega, by go_num, by rw [HEE.out]; exact HN⟩
      case measure => simp [cipIntOf]; omega
    · obtain rfl : n = 15 := by omega
      have H1 : Hid _ := HQ.out.ra
      have H2 : Hid _ := HQ.out.rr
      have HC2 : Hid _ := HCI.out 15
      have H3 : Hid _ := setRow_heap wr (w.heap.size + 1) Z (C 15) 105 (0, 0) HQ.out.rr
      have H6 : Hid (Below w.heap.size w (wr.setRow (w.heap.size + 1) (C 15))) := HQ.out.below.trans ⟨rfl, rfl, rfl, by simp, fun k hk => setRow_other _ _ _ _ (by omega)⟩
      clear HQ HRD HCI
      generalize C 15 = D at H1 H2 H3 H6 HC2 HE
      go_wp2_with (first
        | (refine wpList_load_row rfl 105 _ rfl (w.heap.size) rfl 105 D (0, 0) _ H1.out Tryz.underlying105 rfl HC2.out.1 ?_)
        | (refine wpList_store_row rfl 105 _ (.tmp 14) rfl (w.heap.size + 1) D rfl rfl 105 Z H2.out HC2.out.1 HC2.out.2.2.2 HC2.out.2.2.1 ?_))
      (try simp only [Exit.inBlock, Exit.then])
      exact bodyPost_ret (results_cell_row rfl _ _ (w.heap.size + 1) 105 D (0, 0) _ rfl H3.out Tryz.underlying105 rfl HC2.out.1) rfl ⟨by rw [HE.out], H6.out⟩

/-- two rows that the call has made: the answer and what is made -/
structure QW (w : World) (cur Z : Array Value) (wr : World) : Prop where
  below : Below w.heap.size w wr
  rr : wr.heap[w.heap.size]? = some (.cells Z 105 (0, 0))
  ro : wr.heap[w.heap.size + 1]? = some (.cells cur 105 (0, 0))
theorem QW.set {w wr : World} {Z cur : Array Value} (h : QW w cur Z wr) (t : Nat) (v : Value) : QW w (cur.setIfInBounds t v) Z (wr.setCell ⟨w.heap.size + 1, t, none⟩ v) :=
  ⟨h.below.setCell (p := ⟨w.heap.size + 1, t, none⟩) (by show _ ≤ w.heap.size + 1; omega) v,
    by rw [heap_setCell_other wr ⟨w.heap.size + 1, t, none⟩ _ v (by show _ ≠ w.heap.size + 1; omega)]; exact h.rr, heap_setCell_same wr _ t _ _ _ h.ro⟩
set_option maxRecDepth 100000 in
set_option maxHeartbeats 2000000 in
theorem columns_any (k : ByteArray) (w : World) (hk : 16 ≤ k.size) :
    Calls Tryz.prog 62 #[.string k] w fun e w' => e = .returned (.agg (cols (cl (bsOf k)))) ∧ Below w.heap.size w w' := by
  have HK : Hid (16 ≤ k.size) := hk
  obtain ⟨C, hC⟩ : ∃ C : Nat → Array Value, C = fun n => cols (upTo (cl (bsOf k)) (fun _ => 0) n) := ⟨_, rfl⟩
  have HST : Hid (∀ n, n < 4 → (C n).setIfInBounds n (.int .u32 (cl (bsOf k) n : Nat)) = C (n + 1)) := fun n hn => by
    rw [hC]; exact cols_set _ _ hn
  have HCS : Hid (∀ n, n < 4 → (C n)[n]? = some (.int .u32 0)) := fun n hn => by
    rw [hC]; show (cols _)[n]? = _
    rw [cols_at _ hn, upTo_new _ _ _ (by omega)]; rfl
  have HI : Hid _ := col_info
  have HEN : Hid (cols (cl (bsOf k)) = C 4) := by rw [hC]; rfl
  have HON : Hid (Option.map (·.size) (Tryz.prog.info? 105) = some (C 4).size ∧ (C 0).size = (C 4).size ∧ (C 4).all (·.oneCell') = true) := by rw [hC]; exact ⟨HI.out, rfl, cols_one _⟩
  have hz := col_zero
  rw [show (cols fun _ => 0) = C 0 by rw [hC]; rfl] at hz
  have hZc : (Value.agg (C 0)).cells = C 0 := by rw [hC]; kernel_rfl
  clear hk hC
  have HR : Hid (QW w (C 0) (C 0) ((w.alloc (.cells (C 0) 105)).alloc (.cells (C 0) 105))) := ⟨(RW.start w (C 0) (C 0)).below, (RW.start w (C 0) (C 0)).ra, (RW.start w (C 0) (C 0)).rr⟩
  go_enter Tryz.func62, Tryz.ntmps62
  go_wp2_with fail
  clear hz hZc
  generalize (w.alloc (.cells (C 0) 105)).alloc (.cells (C 0) 105) = W2 at HR ⊢
  go_loopw [5] (fun c wr => ∃ n : Nat, n ≤ 4 ∧ c = .int .i64 (n : Int) ∧ Hid (QW w (C n) (C 0) wr)) (fun c _ => 4 - (cipIntOf c).toNat)
  case atStart => exact ⟨0, by omega, rfl, HR⟩
  case round =>
    obtain ⟨n, hn, rfl, HQ⟩ := hrel
    clear HR
    by_cases hlt : n < 4
    · have c0 := (cell_of_row wr _ n _ _ _ HQ.out.ro).trans (HCS.out n hlt)
      have hfz := frozen_of_row wr _ n _ _ HQ.out.ro
      have HW : Hid (∀ w', Calls Tryz.prog 67 #[.string k, .int .i64 (n : Int)] w' fun e w'' => e = .returned (.int .u32 (cl (bsOf k) n : Nat)) ∧ w'' = w') := fun w' => by
        have := word_any k n w' (by have := HK.out; omega) (by omega)
        rwa [cl_pt] at this
      have HN : Hid (QW w (C (n + 1)) (C 0) (wr.setCell ⟨w.heap.size + 1, n, none⟩ (.int .u32 (cl (bsOf k) n : Nat)))) := by
        have := HQ.out.set n (.int .u32 (cl (bsOf k) n : Nat))
        rwa [HST.out n hlt] at this
      generalize cl (bsOf k) n = v at HW HN
      go_wp2_with fail
      refine (HW.out _).mono ?_
      rintro e w' ⟨rfl, hw⟩
      subst w'
      go_wp2_with fail
      go_roundw
      case rel => exact ⟨n + 1, by omega, by go_num, HN⟩
      case measure => simp [cipIntOf]; omega
    · obtain rfl : n = 4 := by omega
      have H1 : Hid _ := HQ.out.ro
      have H2 : Hid _ := HQ.out.rr
      have H3 : Hid _ := setRow_heap wr w.heap.size (C 0) (C 4) 105 (0, 0) HQ.out.rr
      have H6 : Hid (Below w.heap.size w (wr.setRow w.heap.size (C 4))) := HQ.out.below.trans ⟨rfl, rfl, rfl, by simp, fun k hk => setRow_other _ _ _ _ (by omega)⟩
      clear HQ HST HCS
      generalize C 4 = D at H1 H2 H3 H6 HEN HON
      generalize C 0 = Z at H2 HON
      go_wp2_with (first
        | (refine wpList_load_row rfl 105 _ rfl (w.heap.size + 1) rfl 105 D (0, 0) _ H1.out Tryz.underlying105 rfl HON.out.1 ?_)
        | (refine wpList_store_row rfl 105 _ (.tmp 14) rfl w.heap.size D rfl rfl 105 Z H2.out HON.out.1 HON.out.2.1 HON.out.2.2 ?_))
      (try simp only [Exit.inBlock, Exit.then])
      exact bodyPost_ret (results_cell_row rfl _ _ w.heap.size 105 D (0, 0) _ rfl H3.out Tryz.underlying105 rfl HON.out.1) rfl ⟨by rw [HEN.out], H6.out⟩
set_option maxRecDepth 100000 in
set_option maxHeartbeats 1000000 in
theorem byte_any (g : Nat) (s : Nat → Nat) (i : Nat) (w : World) (hs : ∀ i, s i < 256) (hi : i < 16) (hc : w.cell? ⟨g, i / 4, none⟩ = some (.int .u32 (cl s (i / 4) : Nat))) :
    Calls Tryz.prog 64 #[.pointer (some ⟨g, 0, none⟩), .int .i64 (i : Int)] w fun e w' => e = .returned (.int .u8 (s i : Nat)) ∧ w' = w := by
  have hb := cl_byte hs i
  have hl := cl_lt hs (i / 4)
  have hsi := hs i
  have e1 : (i : Int) / 4 = ((i / 4 : Nat) : Int) := by omega
  have l1 : i / 4 < 4 := by omega
  have hk : i % 4 = 0 ∨ i % 4 = 1 ∨ i % 4 = 2 ∨ i % 4 = 3 := by omega
  generalize cl s (i / 4) = x at hb hc hl
  generalize s i = y at hb hsi
  generalize i / 4 = q at e1 hc l1
  clear hs
  rcases hk with hk | hk | hk | hk <;> rw [hk] at hb
  · have e2 : (i : Int) % 4 = 0 := by omega
    have hv : (x : Int) / 16777216 = (y : Int) := by rw [← hb]; omega
    clear hb hk
    go_enter Tryz.func64, Tryz.ntmps64
    go_wp2_with fail
    go_ret
    first
      | exact ⟨rfl, rfl⟩
      | exact ⟨congrArg (fun z => Ending.returned (Value.int .u8 z)) hv, rfl⟩
  · have e2 : (i : Int) % 4 = 1 := by omega
    have hv : ((x : Int) / 65536) % 256 = (y : Int) := by rw [← hb]; omega
    clear hb hk
    go_enter Tryz.func64, Tryz.ntmps64
    go_wp2_with fail
    go_ret
    first
      | exact ⟨rfl, rfl⟩
      | exact ⟨congrArg (fun z => Ending.returned (Value.int .u8 z)) hv, rfl⟩
  · have e2 : (i : Int) % 4 = 2 := by omega
    have hv : ((x : Int) / 256) % 256 = (y : Int) := by rw [← hb]; omega
    clear hb hk
    go_enter Tryz.func64, Tryz.ntmps64
    go_wp2_with fail
    go_ret
    first
      | exact ⟨rfl, rfl⟩
      | exact ⟨congrArg (fun z => Ending.returned (Value.int .u8 z)) hv, rfl⟩
  · have e2 : (i : Int) % 4 = 3 := by omega
    have hv : (x : Int) % 256 = (y : Int) := by rw [← hb]; omega
    clear hb hk
    go_enter Tryz.func64, Tryz.ntmps64
    go_wp2_with fail
    go_ret
    first
      | exact ⟨rfl, rfl⟩
      | exact ⟨congrArg (fun z => Ending.returned (Value.int .u8 z)) hv, rfl⟩
end Go.Proofs.YtnkahdidelhdaacGreatDoor

/-!   Encrypt: the code's. -/
namespace Go.Proofs.YtnkahdidelhdaacGreatDoor
open Go.RowKit
set_option linter.unusedVariables false

/-- sixteen bytes as a text -/
def outL (s : Nat → Nat) : List UInt8 := (List.range 16).map fun i => UInt8.ofNat (s i)
theorem outL_len (s : Nat → Nat) : (outL s).length = 16 := by simp [outL]
theorem outL_cells {s : Nat → Nat} (hs : ∀ i, s i < 256) {j : Nat} (hj : j < 16) : (Lib.byteCells (outL s))[j]? = some (.int .u8 (s j : Nat)) := by
  rw [Lib.byteCells, List.getElem?_map, outL, List.getElem?_map, List.getElem?_range hj]
  simp [UInt8.toNat_ofNat', Nat.mod_eq_of_lt (hs j)]
def encB (blk W : Nat → Nat) : ByteArray := ⟨(outL (stB blk W 14)).toArray⟩

theorem kw_all {bs : Nat → Nat} (hb : ∀ j, bs j < 256) : ∀ j, j < 60 → kw bs j < 4294967296 := fun j hj => kw_lt hb j hj

end Go.Proofs.YtnkahdidelhdaacGreatDoor
