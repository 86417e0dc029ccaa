/-
  A seal with one byte unlike, or under another number: what it takes to be opened.
-/
import Derived.Test.YtnkahdidelhdaacGreatDoorSealMath
import Derived.Test.YtnkahdidelhdaacGreatDoorDrwSum
namespace Go.Proofs.YtnkahdidelhdaacGreatDoor
open Go.RowKit
set_option linter.unusedVariables false

def byteB (x : Nat) : ByteArray := ⟨#[UInt8.ofNat x]⟩
theorem byteB_size (x : Nat) : (byteB x).size = 1 := rfl
theorem bigB_byte : ∀ x, x < 256 → nz 7 ++ byteB x = bigB (x : Int) 8 := by
  have k : ∀ x : Fin 256, (nz 7 ++ byteB x.val).data.toList = (bigB (x.val : Int) 8).data.toList := by decide +kernel
  exact fun x hx => ByteArray.ext (Array.toList_inj.1 (k ⟨x, hx⟩))
theorem tail_list (s : ByteArray) (h : 32 ≤ s.size) : (tailOf s).data.toList = (s.data.toList.drop (s.size - 32)).take 32 := by
  unfold tailOf; rw [ext_list, show s.size - (s.size - 32) = 32 by omega]
theorem body_list (s : ByteArray) : (bodyOf s).data.toList = s.data.toList.take (s.size - 32) := by
  unfold bodyOf; rw [ext_list, List.drop_zero, Nat.sub_zero]
theorem hurt_size {s t : ByteArray} {i : Nat} {b : UInt8} (h : t.data.toList = s.data.toList.set i b) : t.size = s.size := by rw [Lib.size_eq, h, List.length_set, ← Lib.size_eq]
theorem hurt_low {s t : ByteArray} {i : Nat} {b : UInt8} (h : t.data.toList = s.data.toList.set i b) (h32 : 32 ≤ s.size) (hi : i < s.size - 32) : tailOf t = tailOf s := by
  have hz := hurt_size h
  apply ByteArray.ext
  apply Array.toList_inj.1
  rw [tail_list t (by omega), tail_list s h32, hz, h, List.drop_set, if_pos hi]
theorem hurt_high {s t : ByteArray} {i : Nat} {b : UInt8} (h : t.data.toList = s.data.toList.set i b) (h32 : 32 ≤ s.size) (hi : ¬ i < s.size - 32) (hl : i < s.size) (hb : b ≠ s[i]) : bodyOf t = bodyOf s ∧ tailOf t ≠ tailOf s := by
  have hz := hurt_size h
  refine ⟨?_, fun e => ?_⟩
  · apply ByteArray.ext
    apply Array.toList_inj.1
    rw [body_list, body_list, hz, h, List.take_set, List.set_eq_of_length_le (by rw [List.length_take]; omega)]
  · have e2 : (tailOf t).data.toList[i - (s.size - 32)]? = (tailOf s).data.toList[i - (s.size - 32)]? := by rw [e]
    rw [tail_list t (by omega), tail_list s h32, hz, h, List.getElem?_take, List.getElem?_take, if_pos (by omega), if_pos (by omega), List.getElem?_drop, List.getElem?_drop, show s.size - 32 + (i - (s.size - 32)) = i by omega] at e2
    have hll : i < s.data.toList.length := by rw [← Lib.size_eq]; exact hl
    rw [List.getElem?_set_self hll, List.getElem?_eq_getElem hll] at e2
    exact hb (Option.some.inj e2)
/-- what is opened with one byte unlike: then the byte stands ahead of the tag, and two unlike texts have one tag -/
theorem hurt_open {m d t : ByteArray} {n : Int} {i : Nat} {b : UInt8} (ho : sealOk m n d) (h : t.data.toList = (sealB m n d).data.toList.set i b) (hl : i < (sealB m n d).size) (hb : b ≠ (sealB m n d)[i]) (hop : openOk m n t) :
    i < (sealB m n d).size - 32 ∧ tagB (tagK m) n (bodyOf (sealB m n d)) = tagB (tagK m) n (bodyOf t) := by
  have hz := sealB_size m n d
  have hs := (seal_open ho).1.2.2.2.2
  by_cases hi : i < (sealB m n d).size - 32
  · exact ⟨hi, by rw [hop.2.2.2.2, hurt_low h (by omega) hi, hs]⟩
  · obtain ⟨h1, h2⟩ := hurt_high h (by omega) hi hl hb
    have := hop.2.2.2.2
    rw [h1, hs] at this
    exact absurd this.symm h2
theorem other_open {m d : ByteArray} {n n2 : Int} (ho : sealOk m n d) (hop : openOk m n2 (sealB m n d)) : tagB (tagK m) n (bodyOf (sealB m n d)) = tagB (tagK m) n2 (bodyOf (sealB m n d)) := by
  rw [(seal_open ho).1.2.2.2.2, hop.2.2.2.2]
theorem conv_byte (X : World) (g x : Nat) (hx : x < 256) (hc : X.cell? ⟨g, 0, none⟩ = some (.int .u8 (x : Int))) : (convert 22 9 (.slice (some ⟨g, 0, none⟩) 1 1)).run Tryz.prog X = .ok (.string (byteB x)) X := by
  have key := run_convert_bytes_back (P := Tryz.prog) X 22 9 5 ⟨g, 0, none⟩ 1 [UInt8.ofNat x] Tryz.underlying22 Tryz.underlying5 Tryz.underlying9 (fun j hj => by
    have hj0 : j = 0 := by simpa using hj
    subst hj0
    have ea : (⟨g, 0, none⟩ : Addr).add 0 = ⟨g, 0, none⟩ := by simp [Addr.add]
    rw [ea, hc]
    simp [UInt8.toNat_ofNat', Nat.mod_eq_of_lt hx])
  exact key
theorem conv_byte_new (W : World) (x : Nat) (hx : x < 256) : (convert 22 9 (.slice (some ⟨W.heap.size, 0, none⟩) 1 1)).run Tryz.prog (W.alloc (.cells #[.int .u8 (x : Int)] 5)).drew = .ok (.string (byteB x)) (W.alloc (.cells #[.int .u8 (x : Int)] 5)).drew :=
  conv_byte _ _ x hx (by
    show (W.alloc (.cells #[.int .u8 (x : Int)] 5)).cell? ⟨W.heap.size, 0, none⟩ = _
    rw [World.cell?_alloc_mark]; rfl)
end Go.Proofs.YtnkahdidelhdaacGreatDoor
