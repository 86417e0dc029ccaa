/-
  Digits back in bytes, as plain mathematics.
-/
import Derived.Test.YtfngknnjdcgciaaHexMath
import Derived.Lib.Bytealg
namespace Go.Proofs.Ytfngknnjdcgciaa

/-- a digit's number, or -1 -/
def dv (c : UInt8) : Int := Lib.indexByte digs c
def dv2 (c : Nat) : Int := if 48 ≤ c ∧ c ≤ 57 then (c : Int) - 48 else if 97 ≤ c ∧ c ≤ 102 then (c : Int) - 87 else -1
theorem dv_eq (c : UInt8) : dv c = dv2 c.toNat := by
  have h : ∀ n : Fin 256, dv (UInt8.ofNat n.val) = dv2 n.val := by decide +kernel
  have := h ⟨c.toNat, c.toNat_lt⟩
  simpa using this
theorem dv_bd (c : UInt8) : -1 ≤ dv c ∧ dv c < 16 := by
  rw [dv_eq]; unfold dv2
  split
  · omega
  · split <;> omega
def unhexL : List UInt8 → Option (List UInt8)
  | [] => some []
  | [_] => none
  | a :: b :: r => if dv a < 0 ∨ dv b < 0 then none else (unhexL r).map (UInt8.ofNat (16 * dv a + dv b).toNat :: ·)
theorem unhexL_odd : ∀ (l : List UInt8), l.length % 2 = 1 → unhexL l = none
  | [], h => by simp at h
  | [_], _ => rfl
  | a :: b :: r, h => by
    rw [unhexL, unhexL_odd r (by simp only [List.length_cons] at h; omega)]
    simp
/-- behind acc, at the place j, the text says l -/
def UAt (s : ByteArray) (j : Nat) (acc : List UInt8) : Prop := unhexL s.data.toList = (unhexL (s.data.toList.drop j)).map (acc ++ ·)
theorem uat_start (s : ByteArray) : UAt s 0 [] := by unfold UAt; simp
theorem drop_two (s : ByteArray) (j : Nat) (h : j + 1 < s.size) : s.data.toList.drop j = s[j] :: s[j + 1] :: s.data.toList.drop (j + 2) := by
  rw [List.drop_eq_getElem_cons (by rw [← Lib.size_eq]; omega), List.drop_eq_getElem_cons (by rw [← Lib.size_eq]; omega)]; rfl
theorem uat_fail {s : ByteArray} {j : Nat} {acc : List UInt8} (h : UAt s j acc) (hj : j + 1 < s.size) (hd : dv s[j] < 0 ∨ dv s[j + 1] < 0) : unhexL s.data.toList = none := by
  rw [h, drop_two s j hj, unhexL, if_pos hd]; rfl
theorem uat_step {s : ByteArray} {j : Nat} {acc : List UInt8} (h : UAt s j acc) (hj : j + 1 < s.size) (h1 : 0 ≤ dv s[j]) (h2 : 0 ≤ dv s[j + 1]) :
    UAt s (j + 2) (acc ++ [UInt8.ofNat (16 * dv s[j] + dv s[j + 1]).toNat]) := by
  unfold UAt at *
  rw [h, drop_two s j hj, unhexL, if_neg (by omega)]
  cases unhexL (s.data.toList.drop (j + 2)) <;> simp
theorem uat_end {s : ByteArray} {j : Nat} {acc : List UInt8} (h : UAt s j acc) (hj : s.size ≤ j) : unhexL s.data.toList = some acc := by
  rw [h, List.drop_eq_nil_of_le (by rw [← Lib.size_eq]; exact hj)]
  simp [unhexL]
def unhexOut (s : ByteArray) : Value := match unhexL s.data.toList with
  | none => .tuple #[.string ⟨#[]⟩, .bool false]
  | some l => .tuple #[.string ⟨l.toArray⟩, .bool true]
theorem unhexOut_none {s : ByteArray} (h : unhexL s.data.toList = none) : unhexOut s = .tuple #[.string ⟨#[]⟩, .bool false] := by unfold unhexOut; rw [h]
theorem unhexOut_some {s : ByteArray} {l : List UInt8} (h : unhexL s.data.toList = some l) : unhexOut s = .tuple #[.string ⟨l.toArray⟩, .bool true] := by unfold unhexOut; rw [h]
theorem snoc_v {acc : List UInt8} {x : Int} (h0 : 0 ≤ x) (h1 : x < 256) : Lib.byteCells acc ++ [Value.int .u8 x] = Lib.byteCells (acc ++ [UInt8.ofNat x.toNat]) := by
  obtain ⟨m, rfl⟩ := Int.eq_ofNat_of_zero_le h0
  rw [Lib.byteCells_append]
  have : (((UInt8.ofNat (m : Int).toNat).toNat : Nat) : Int) = (m : Int) := by
    rw [UInt8.toNat_ofNat']; omega
  simp only [Lib.byteCells, List.map_cons, List.map_nil, this]
end Go.Proofs.Ytfngknnjdcgciaa
