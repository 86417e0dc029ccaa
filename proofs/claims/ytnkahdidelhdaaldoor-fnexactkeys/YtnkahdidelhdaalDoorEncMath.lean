/-
  A block of sixteen bytes, by bytes and by words.
-/
import Derived.Test.YtnkahdidelhdaalDoorCipKeys
namespace Go.Proofs.YtnkahdidelhdaalDoor
open Go.RowKit
set_option linter.unusedVariables false

/-- four bytes as a word -/
def pk (a b c d : Nat) : Nat := ((a * 256 + b) * 256 + c) * 256 + d
theorem pk_lt {a b c d : Nat} (ha : a < 256) (hb : b < 256) (hc : c < 256) (hd : d < 256) : pk a b c d < 4294967296 := by unfold pk; omega
theorem pk_eta {x : Nat} (h : x < 4294967296) : pk (x / 16777216) (x / 65536 % 256) (x / 256 % 256) (x % 256) = x := by unfold pk; omega
theorem pk0 {a b c d : Nat} (hb : b < 256) (hc : c < 256) (hd : d < 256) : pk a b c d / 16777216 = a := by unfold pk; omega
theorem pk1 {a b c d : Nat} (hb : b < 256) (hc : c < 256) (hd : d < 256) : pk a b c d / 65536 % 256 = b := by unfold pk; omega
theorem pk2 {a b c d : Nat} (hc : c < 256) (hd : d < 256) : pk a b c d / 256 % 256 = c := by unfold pk; omega
theorem pk3 {a b c d : Nat} (hd : d < 256) : pk a b c d % 256 = d := by unfold pk; omega
theorem rl8_pk {a b c d : Nat} (ha : a < 256) (hb : b < 256) (hc : c < 256) (hd : d < 256) : rl8 (pk a b c d) = pk b c d a := by unfold rl8 pk; omega
theorem rl16_pk {a b c d : Nat} (ha : a < 256) (hb : b < 256) (hc : c < 256) (hd : d < 256) : rl16 (pk a b c d) = pk c d a b := by unfold rl16 pk; omega
theorem rl24_pk {a b c d : Nat} (ha : a < 256) (hb : b < 256) (hc : c < 256) (hd : d < 256) : rl24 (pk a b c d) = pk d a b c := by unfold rl24 pk; omega
theorem xor_split (x y u v : Nat) (hy : y < 256) (hv : v < 256) : (x * 256 + y) ^^^ (u * 256 + v) = (x ^^^ u) * 256 + (y ^^^ v) := by
  have hd := Nat.xor_div_two_pow (a := x * 256 + y) (b := u * 256 + v) (n := 8)
  have hm := Nat.xor_mod_two_pow (a := x * 256 + y) (b := u * 256 + v) (n := 8)
  rw [show (2 : Nat) ^ 8 = 256 from rfl] at hd hm
  rw [show (x * 256 + y) / 256 = x by omega, show (u * 256 + v) / 256 = u by omega] at hd
  rw [show (x * 256 + y) % 256 = y by omega, show (u * 256 + v) % 256 = v by omega] at hm
  omega
theorem and_split (x y u v : Nat) (hy : y < 256) (hv : v < 256) : (x * 256 + y) &&& (u * 256 + v) = (x &&& u) * 256 + (y &&& v) := by
  have hd := Nat.and_div_two_pow (a := x * 256 + y) (b := u * 256 + v) (n := 8)
  have hm := Nat.and_mod_two_pow (a := x * 256 + y) (b := u * 256 + v) (n := 8)
  rw [show (2 : Nat) ^ 8 = 256 from rfl] at hd hm
  rw [show (x * 256 + y) / 256 = x by omega, show (u * 256 + v) / 256 = u by omega] at hd
  rw [show (x * 256 + y) % 256 = y by omega, show (u * 256 + v) % 256 = v by omega] at hm
  omega
theorem pk_xor {a b c d e f g h : Nat} (hb : b < 256) (hc : c < 256) (hd : d < 256) (hf : f < 256) (hg : g < 256) (hh : h < 256) :
    pk a b c d ^^^ pk e f g h = pk (a ^^^ e) (b ^^^ f) (c ^^^ g) (d ^^^ h) := by
  unfold pk
  rw [xor_split _ _ _ _ hd hh, xor_split _ _ _ _ hc hg, xor_split _ _ _ _ hb hf]
theorem pk_and {a b c d e f g h : Nat} (hb : b < 256) (hc : c < 256) (hd : d < 256) (hf : f < 256) (hg : g < 256) (hh : h < 256) :
    pk a b c d &&& pk e f g h = pk (a &&& e) (b &&& f) (c &&& g) (d &&& h) := by
  unfold pk
  rw [and_split _ _ _ _ hd hh, and_split _ _ _ _ hc hg, and_split _ _ _ _ hb hf]
theorem and_127 (a : Nat) : a &&& 127 = a % 128 := Nat.and_two_pow_sub_one_eq_mod a 7
theorem and_255 {a : Nat} (h : a < 256) : a &&& 255 = a := by
  have := Nat.and_two_pow_sub_one_eq_mod a 8
  rw [show (2 : Nat) ^ 8 - 1 = 255 from rfl, show (2 : Nat) ^ 8 = 256 from rfl] at this
  rw [this, Nat.mod_eq_of_lt h]
theorem xt_bits : ∀ y, y < 256 → (y % 128 * 2) ^^^ (y / 128 * 27) = xt y := by
  intro y hy
  have k : ∀ y : Fin 256, (y.val % 128 * 2) ^^^ (y.val / 128 * 27) = xt y.val := by decide +kernel
  exact k ⟨y, hy⟩
/-- all four bytes times x -/
theorem dbl_pk {a b c d : Nat} (ha : a < 256) (hb : b < 256) (hc : c < 256) (hd : d < 256) :
    (pk a b c d / 128) &&& 16843009 = pk (a / 128) (b / 128) (c / 128) (d / 128) ∧
    (pk a b c d) &&& 2139062143 = pk (a % 128) (b % 128) (c % 128) (d % 128) ∧
    pk (a % 128) (b % 128) (c % 128) (d % 128) * 2 ^^^ pk (a / 128) (b / 128) (c / 128) (d / 128) * 27 = pk (xt a) (xt b) (xt c) (xt d) := by
  refine ⟨?_, ?_, ?_⟩
  · rw [show pk a b c d / 128 = pk (a / 128) (a % 128 * 2 + b / 128) (b % 128 * 2 + c / 128) (c % 128 * 2 + d / 128) by unfold pk; omega,
      show 16843009 = pk 1 1 1 1 from rfl, pk_and (by omega) (by omega) (by omega) (by omega) (by omega) (by omega)]
    simp only [Nat.and_one_is_mod]
    rw [show a / 128 % 2 = a / 128 by omega, show (a % 128 * 2 + b / 128) % 2 = b / 128 by omega, show (b % 128 * 2 + c / 128) % 2 = c / 128 by omega, show (c % 128 * 2 + d / 128) % 2 = d / 128 by omega]
  · rw [show 2139062143 = pk 127 127 127 127 from rfl, pk_and hb hc hd (by omega) (by omega) (by omega)]
    simp only [and_127]
  · rw [show pk (a % 128) (b % 128) (c % 128) (d % 128) * 2 = pk (a % 128 * 2) (b % 128 * 2) (c % 128 * 2) (d % 128 * 2) by unfold pk; omega,
      show pk (a / 128) (b / 128) (c / 128) (d / 128) * 27 = pk (a / 128 * 27) (b / 128 * 27) (c / 128 * 27) (d / 128 * 27) by unfold pk; omega,
      pk_xor (by omega) (by omega) (by omega) (by omega) (by omega) (by omega), xt_bits a ha, xt_bits b hb, xt_bits c hc, xt_bits d hd]
theorem mul_two {a : Nat} (h : a < 256) : mulB a 2 = xt a := by
  have k : ∀ y : Fin 256, mulB y.val 2 = xt y.val := by decide +kernel
  exact k ⟨a, h⟩
theorem mul_three {a : Nat} (h : a < 256) : mulB a 3 = xt a ^^^ a := by
  have k : ∀ y : Fin 256, mulB y.val 3 = xt y.val ^^^ y.val := by decide +kernel
  exact k ⟨a, h⟩
/-- one byte of a column, mixed -/
def mx (a b c d : Nat) : Nat := mulB a 2 ^^^ mulB b 3 ^^^ c ^^^ d
theorem mx_lt {a b c d : Nat} (ha : a < 256) (hb : b < 256) (hc : c < 256) (hd : d < 256) : mx a b c d < 256 :=
  xor_byte (xor_byte (xor_byte (mulB_lt _ _ ha) (mulB_lt _ _ hb)) hc) hd
theorem mx_eq {a b c d : Nat} (ha : a < 256) (hb : b < 256) : ((xt (a ^^^ b) ^^^ b) ^^^ c) ^^^ d = mx a b c d := by
  unfold mx
  rw [mul_two ha, mul_three hb, xt_xor ha hb, Nat.xor_assoc (xt a)]
def mixW (a b c d : Nat) : Nat := pk (mx a b c d) (mx b c d a) (mx c d a b) (mx d a b c)
theorem mix_pk {a b c d : Nat} (ha : a < 256) (hb : b < 256) (hc : c < 256) (hd : d < 256) :
    ((pk (xt (a ^^^ b)) (xt (b ^^^ c)) (xt (c ^^^ d)) (xt (d ^^^ a)) ^^^ pk b c d a) ^^^ pk c d a b) ^^^ pk d a b c = mixW a b c d := by
  have h1 := xt_lt (xor_byte ha hb)
  have h2 := xt_lt (xor_byte hb hc)
  have h3 := xt_lt (xor_byte hc hd)
  have h4 := xt_lt (xor_byte hd ha)
  have g2 := xor_byte h2 hc
  have g3 := xor_byte h3 hd
  have g4 := xor_byte h4 ha
  have f2 := xor_byte g2 hd
  have f3 := xor_byte g3 ha
  have f4 := xor_byte g4 hb
  rw [pk_xor h2 h3 h4 hc hd ha, pk_xor g2 g3 g4 hd ha hb, pk_xor f2 f3 f4 ha hb hc, mx_eq ha hb, mx_eq hb hc, mx_eq hc hd, mx_eq hd ha]
  rfl

/-! ### the block by bytes -/
def addB (s w : Nat → Nat) (r i : Nat) : Nat := s i ^^^ (w (4 * r + i / 4) / 2 ^ (24 - 8 * (i % 4)) % 256)
def subsB (s : Nat → Nat) (i : Nat) : Nat := sbox (s ((i + 4 * (i % 4)) % 16))
def mixB (x : Nat → Nat) (i : Nat) : Nat := mx (x i) (x (i / 4 * 4 + (i % 4 + 1) % 4)) (x (i / 4 * 4 + (i % 4 + 2) % 4)) (x (i / 4 * 4 + (i % 4 + 3) % 4))
def midB (s : Nat → Nat) (r : Nat) : Nat → Nat := if r < 14 then mixB (subsB s) else subsB s
/-- the block behind round r -/
def stB (s0 w : Nat → Nat) : Nat → Nat → Nat
  | 0 => addB s0 w 0
  | r + 1 => addB (midB (stB s0 w r) (r + 1)) w (r + 1)
theorem addB_lt {s w : Nat → Nat} {r : Nat} (hs : ∀ i, s i < 256) (i : Nat) : addB s w r i < 256 := xor_byte (hs i) (by omega)
theorem subsB_lt {s : Nat → Nat} (hs : ∀ i, s i < 256) (i : Nat) : subsB s i < 256 := sbox_lt (hs _)
theorem mixB_lt {s : Nat → Nat} (hs : ∀ i, s i < 256) (i : Nat) : mixB s i < 256 := mx_lt (hs _) (hs _) (hs _) (hs _)
theorem midB_lt {s : Nat → Nat} (hs : ∀ i, s i < 256) (r i : Nat) : midB s r i < 256 := by
  unfold midB; split
  · exact mixB_lt (subsB_lt hs) i
  · exact subsB_lt hs i
theorem stB_lt {s w : Nat → Nat} (hs : ∀ i, s i < 256) : ∀ r i, stB s w r i < 256
  | 0, i => addB_lt hs i
  | r + 1, i => addB_lt (midB_lt (stB_lt hs r) _) i
/-- a column of it -/
def cl (s : Nat → Nat) (j : Nat) : Nat := pk (s (4 * j)) (s (4 * j + 1)) (s (4 * j + 2)) (s (4 * j + 3))
theorem cl_lt {s : Nat → Nat} (hs : ∀ i, s i < 256) (j : Nat) : cl s j < 4294967296 := pk_lt (hs _) (hs _) (hs _) (hs _)
theorem cl_add {s w : Nat → Nat} {r j : Nat} (hs : ∀ i, s i < 256) (hw : w (4 * r + j) < 4294967296) : cl (addB s w r) j = cl s j ^^^ w (4 * r + j) := by
  have e := pk_eta hw
  conv => rhs; rw [← e]
  unfold cl addB
  rw [pk_xor (hs _) (hs _) (hs _) (by omega) (by omega) (by omega)]
  rw [show 4 * j / 4 = j by omega, show (4 * j + 1) / 4 = j by omega, show (4 * j + 2) / 4 = j by omega, show (4 * j + 3) / 4 = j by omega,
    show 4 * j % 4 = 0 by omega, show (4 * j + 1) % 4 = 1 by omega, show (4 * j + 2) % 4 = 2 by omega, show (4 * j + 3) % 4 = 3 by omega]
  rw [show (2 : Nat) ^ (24 - 8 * 0) = 16777216 from rfl, show (2 : Nat) ^ (24 - 8 * 1) = 65536 from rfl, show (2 : Nat) ^ (24 - 8 * 2) = 256 from rfl, show (2 : Nat) ^ (24 - 8 * 3) = 1 from rfl, Nat.div_one]
  rw [show w (4 * r + j) / 16777216 % 256 = w (4 * r + j) / 16777216 by omega]
/-- the bytes that go into a column -/
def shW (s : Nat → Nat) (j : Nat) : Nat := pk (s (4 * j)) (s (4 * ((j + 1) % 4) + 1)) (s (4 * ((j + 2) % 4) + 2)) (s (4 * ((j + 3) % 4) + 3))
theorem shW_lt {s : Nat → Nat} (hs : ∀ i, s i < 256) (j : Nat) : shW s j < 4294967296 := pk_lt (hs _) (hs _) (hs _) (hs _)
theorem cl_subs {s : Nat → Nat} {j : Nat} (hs : ∀ i, s i < 256) (hj : j < 4) : cl (subsB s) j = subW (shW s j) := by
  unfold subW shW
  rw [pk0 (hs _) (hs _) (hs _), pk1 (hs _) (hs _) (hs _), pk2 (hs _) (hs _), pk3 (hs _)]
  unfold cl subsB pk
  rw [show (4 * j + 4 * (4 * j % 4)) % 16 = 4 * j by omega, show (4 * j + 1 + 4 * ((4 * j + 1) % 4)) % 16 = 4 * ((j + 1) % 4) + 1 by omega,
    show (4 * j + 2 + 4 * ((4 * j + 2) % 4)) % 16 = 4 * ((j + 2) % 4) + 2 by omega, show (4 * j + 3 + 4 * ((4 * j + 3) % 4)) % 16 = 4 * ((j + 3) % 4) + 3 by omega]
theorem cl_mix {s : Nat → Nat} {j : Nat} : cl (mixB s) j = mixW (s (4 * j)) (s (4 * j + 1)) (s (4 * j + 2)) (s (4 * j + 3)) := by
  unfold cl mixB mixW
  rw [show 4 * j / 4 * 4 = 4 * j by omega, show (4 * j + 1) / 4 * 4 = 4 * j by omega, show (4 * j + 2) / 4 * 4 = 4 * j by omega, show (4 * j + 3) / 4 * 4 = 4 * j by omega,
    show 4 * j % 4 = 0 by omega, show (4 * j + 1) % 4 = 1 by omega, show (4 * j + 2) % 4 = 2 by omega, show (4 * j + 3) % 4 = 3 by omega]
  rfl
/-- the four bytes, out of four words -/
theorem sh_or (s : Nat → Nat) (hs : ∀ i, s i < 256) (j : Nat) :
    bits .or .u32 (bits .or .u32 (bits .or .u32 (bits .and .u32 (cl s j : Nat) 4278190080) (bits .and .u32 (cl s ((j + 1) % 4) : Nat) 16711680)) (bits .and .u32 (cl s ((j + 2) % 4) : Nat) 65280)) (bits .and .u32 (cl s ((j + 3) % 4) : Nat) 255) = ((shW s j : Nat) : Int) := by
  have m : ∀ j a b c d, a ≤ 255 → b ≤ 255 → c ≤ 255 → d ≤ 255 → bits .and .u32 (cl s j : Nat) ((pk a b c d : Nat) : Int) = ((pk (s (4 * j) &&& a) (s (4 * j + 1) &&& b) (s (4 * j + 2) &&& c) (s (4 * j + 3) &&& d) : Nat) : Int) := fun j a b c d ha hb hc hd => by
    rw [u32_and_nat _ _ (cl_lt hs j) (pk_lt (by omega) (by omega) (by omega) (by omega)), cl, pk_and (hs _) (hs _) (hs _) (by omega) (by omega) (by omega)]
  have m0 := m j 255 0 0 0 (by omega) (by omega) (by omega) (by omega)
  have m1 := m ((j + 1) % 4) 0 255 0 0 (by omega) (by omega) (by omega) (by omega)
  have m2 := m ((j + 2) % 4) 0 0 255 0 (by omega) (by omega) (by omega) (by omega)
  have m3 := m ((j + 3) % 4) 0 0 0 255 (by omega) (by omega) (by omega) (by omega)
  simp only [Nat.and_zero, and_255 (hs _)] at m0 m1 m2 m3
  rw [show ((pk 255 0 0 0 : Nat) : Int) = 4278190080 from rfl] at m0
  rw [show ((pk 0 255 0 0 : Nat) : Int) = 16711680 from rfl] at m1
  rw [show ((pk 0 0 255 0 : Nat) : Int) = 65280 from rfl] at m2
  rw [show ((pk 0 0 0 255 : Nat) : Int) = 255 from rfl] at m3
  rw [m0, m1, m2, m3]
  have e := or_word (s (4 * j)) (s (4 * ((j + 1) % 4) + 1)) (s (4 * ((j + 2) % 4) + 2)) (s (4 * ((j + 3) % 4) + 3)) (hs _) (hs _) (hs _) (hs _)
  rw [show ((pk (s (4 * j)) 0 0 0 : Nat) : Int) = (s (4 * j) : Int) * 16777216 by unfold pk; omega,
    show ((pk 0 (s (4 * ((j + 1) % 4) + 1)) 0 0 : Nat) : Int) = (s (4 * ((j + 1) % 4) + 1) : Int) * 65536 by unfold pk; omega,
    show ((pk 0 0 (s (4 * ((j + 2) % 4) + 2)) 0 : Nat) : Int) = (s (4 * ((j + 2) % 4) + 2) : Int) * 256 by unfold pk; omega,
    show ((pk 0 0 0 (s (4 * ((j + 3) % 4) + 3)) : Nat) : Int) = (s (4 * ((j + 3) % 4) + 3) : Int) by unfold pk; omega]
  exact e
/-- a byte of a column -/
theorem cl_byte {s : Nat → Nat} (hs : ∀ i, s i < 256) (i : Nat) : cl s (i / 4) / 2 ^ (24 - 8 * (i % 4)) % 256 = s i := by
  have h : i % 4 = 0 ∨ i % 4 = 1 ∨ i % 4 = 2 ∨ i % 4 = 3 := by omega
  unfold cl
  rcases h with h | h | h | h <;> rw [h]
  · rw [show (2 : Nat) ^ (24 - 8 * 0) = 16777216 from rfl, pk0 (hs _) (hs _) (hs _), show 4 * (i / 4) = i by omega, Nat.mod_eq_of_lt (hs i)]
  · rw [show (2 : Nat) ^ (24 - 8 * 1) = 65536 from rfl, pk1 (hs _) (hs _) (hs _), show 4 * (i / 4) + 1 = i by omega]
  · rw [show (2 : Nat) ^ (24 - 8 * 2) = 256 from rfl, pk2 (hs _) (hs _), show 4 * (i / 4) + 2 = i by omega]
  · rw [show (2 : Nat) ^ (24 - 8 * 3) = 1 from rfl, Nat.div_one, pk3 (hs _), show 4 * (i / 4) + 3 = i by omega]
theorem cl_pt (bs : Nat → Nat) (i : Nat) : pt bs i 4 = cl bs i := by
  unfold cl pk
  simp only [pt]
  simp
end Go.Proofs.YtnkahdidelhdaalDoor
