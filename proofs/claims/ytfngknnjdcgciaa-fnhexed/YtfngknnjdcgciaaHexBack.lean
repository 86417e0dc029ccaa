/-
  Bytes come back from their digits; what is read has just its digits: plain mathematics.
-/
import Derived.Test.YtfngknnjdcgciaaUnhexMath
namespace Go.Proofs.Ytfngknnjdcgciaa

theorem dv_dig : ∀ n : Nat, n < 16 → dv (dig n) = (n : Int) := by
  have h : ∀ n : Fin 16, dv (dig n.val) = ((n.val : Nat) : Int) := by decide +kernel
  intro n hn
  exact h ⟨n, hn⟩
theorem dig_dv (c : UInt8) (h : 0 ≤ dv c) : dig (dv c).toNat = c := by
  have h2 : ∀ n : Fin 256, 0 ≤ dv (UInt8.ofNat n.val) → dig (dv (UInt8.ofNat n.val)).toNat = UInt8.ofNat n.val := by decide +kernel
  have e : UInt8.ofNat c.toNat = c := by simp
  have := h2 ⟨c.toNat, c.toNat_lt⟩
  rw [e] at this
  exact this h
theorem unhex_hexL : ∀ l : List UInt8, unhexL (hexL l) = some l
  | [] => rfl
  | c :: cs => by
    have hc := c.toNat_lt
    rw [hexL, unhexL, dv_dig _ (by omega), dv_dig _ (by omega), if_neg (by omega), unhex_hexL cs]
    have e : ((16 * ((c.toNat / 16 : Nat) : Int) + ((c.toNat % 16 : Nat) : Int))).toNat = c.toNat := by omega
    rw [e]
    simp
theorem hex_unhexL : ∀ (l m : List UInt8), unhexL l = some m → hexL m = l
  | [], m, h => by simp [unhexL] at h; subst h; rfl
  | [_], m, h => by simp [unhexL] at h
  | a :: b :: r, m, h => by
    rw [unhexL] at h
    by_cases hd : dv a < 0 ∨ dv b < 0
    · rw [if_pos hd] at h; cases h
    · rw [if_neg hd] at h
      rcases hr : unhexL r with _ | q
      · rw [hr] at h; cases h
      · rw [hr] at h
        simp only [Option.map_some, Option.some.injEq] at h
        subst h
        have ih := hex_unhexL r q hr
        have hA := dv_bd a
        have hB := dv_bd b
        have ha := dig_dv a (by omega)
        have hb := dig_dv b (by omega)
        have ec : (UInt8.ofNat (16 * dv a + dv b).toNat).toNat = (16 * dv a + dv b).toNat := by rw [UInt8.toNat_ofNat']; omega
        rw [hexL, ih, ec]
        have e1 : (16 * dv a + dv b).toNat / 16 = (dv a).toNat := by omega
        have e2 : (16 * dv a + dv b).toNat % 16 = (dv b).toNat := by omega
        rw [e1, e2, ha, hb]
theorem unhex_of_hex (s : ByteArray) : unhexOut ⟨(hexL s.data.toList).toArray⟩ = .tuple #[.string s, .bool true] := by
  have h : unhexL (⟨(hexL s.data.toList).toArray⟩ : ByteArray).data.toList = some s.data.toList := by
    rw [List.toList_toArray]; exact unhex_hexL _
  rw [unhexOut_some h]
theorem hex_of_unhex {t : ByteArray} {m : List UInt8} (h : unhexL t.data.toList = some m) : (⟨(hexL (⟨m.toArray⟩ : ByteArray).data.toList).toArray⟩ : ByteArray) = t := by
  rw [List.toList_toArray, hex_unhexL _ _ h]
theorem hex_size (s : ByteArray) : (⟨(hexL s.data.toList).toArray⟩ : ByteArray).size = 2 * s.size := by
  rw [Lib.size_eq, List.toList_toArray, hexL_len, ← Lib.size_eq]
end Go.Proofs.Ytfngknnjdcgciaa
