/-
  What 'turned' answers: the text with one byte unlike.
-/
import Derived.Test.YtnkahdidelhdaacGreatDoorConv
import Derived.Lib.ConvBytes
import Derived.Laws.BitsAllLaws
namespace Go.Proofs.YtnkahdidelhdaacGreatDoor
open Go.RowKit

set_option maxRecDepth 100000 in
set_option maxHeartbeats 1000000 in
theorem turned_any (s : ByteArray) (i : Nat) (w : World) (hi : i < 8 * s.size) (hs : s.size ≤ 1000000) :
    Calls Tryz.prog 9 #[.string s, .int .i64 (i : Int)] w fun e w' =>
      (∃ (t : ByteArray) (b : UInt8), t.data.toList = s.data.toList.set (i / 8) b ∧ (∀ h : i / 8 < s.size, b ≠ s[i / 8]) ∧ e = .returned (.string t)) ∧ Below w.heap.size w w' := by
  have hk : i / 8 < s.size := by omega
  have hcv := Lib.run_convert_string_bytes (P := Tryz.prog) w 9 22 5 s Tryz.underlying9 Tryz.underlying22 Tryz.underlying5
  have hcells := fun j (hj : j < s.size) => Lib.bytesWorld_cell w 5 s j hj
  have hcell := hcells (i / 8) hk
  have hfz : (Lib.bytesWorld w 5 s).frozen? ⟨w.heap.size, i / 8, none⟩ = false := by
    have h1 : i / 8 < (Lib.bytesCells w 5 s).size := by simp [Lib.bytesCells]; omega
    simp [World.frozen?, Lib.bytesWorld_at_new]
    omega
  have hlen : s.data.toList.length = s.size := rfl
  obtain ⟨c, hc⟩ : ∃ c, s.data.toList.getD (i / 8) 0 = c := ⟨_, rfl⟩
  have hcs : s[i / 8] = c := by
    rw [← hc, List.getD_eq_getElem?_getD, List.getElem?_eq_getElem (by omega)]; rfl
  rw [hc] at hcell
  obtain ⟨m, hm⟩ : ∃ m : Nat, m = 2 ^ (i % 8) := ⟨_, rfl⟩
  have hm0 : 0 < m := by rw [hm]; exact Nat.two_pow_pos _
  have hm1 : m ≤ 128 := by rw [hm]; exact Nat.pow_le_pow_right (n := 2) (i := i % 8) (j := 7) (by omega) (by omega)
  have h2 : (2 : Int) ^ (i % 8) % 256 = (m : Int) := by
    have : (2 : Int) ^ (i % 8) = (m : Int) := by rw [hm, Int.natCast_pow]; rfl
    rw [this]; omega
  have hx := u8_xor_nat c.toNat m c.toNat_lt (by omega)
  have hxl : c.toNat ^^^ m < 256 := Nat.xor_lt_two_pow (n := 8) c.toNat_lt (by omega)
  obtain ⟨b, hb⟩ : ∃ b : UInt8, b = UInt8.ofNat (c.toNat ^^^ m) := ⟨_, rfl⟩
  have hbn : b.toNat = c.toNat ^^^ m := by rw [hb, UInt8.toNat_ofNat']; omega
  have hbc : b ≠ c := by
    intro e
    rw [e] at hbn
    have := congrArg (c.toNat ^^^ ·) hbn
    simp only [← Nat.xor_assoc, Nat.xor_self, Nat.zero_xor] at this
    omega
  rw [← hbn] at hx
  have hcv2 : (convert 22 9 (.slice (some ⟨w.heap.size, 0, none⟩) s.size (grownCap w s.size 0 5))).run Tryz.prog ((Lib.bytesWorld w 5 s).setCell ⟨w.heap.size, i / 8, none⟩ (.int .u8 (b.toNat : Int))) =
      .ok (.string ⟨(s.data.toList.set (i / 8) b).toArray⟩) ((Lib.bytesWorld w 5 s).setCell ⟨w.heap.size, i / 8, none⟩ (.int .u8 (b.toNat : Int))) := by
    have hl : (s.data.toList.set (i / 8) b).length = s.size := by rw [List.length_set]; exact hlen
    have := run_convert_bytes_back (P := Tryz.prog) ((Lib.bytesWorld w 5 s).setCell ⟨w.heap.size, i / 8, none⟩ (.int .u8 (b.toNat : Int))) 22 9 5 ⟨w.heap.size, 0, none⟩ (grownCap w s.size 0 5) (s.data.toList.set (i / 8) b) Tryz.underlying22 Tryz.underlying5 Tryz.underlying9 (by
      intro j hj
      have ea : (⟨w.heap.size, 0, none⟩ : Addr).add j = ⟨w.heap.size, j, none⟩ := by
        unfold Addr.add
        by_cases h0 : j = 0
        · subst h0; simp
        · simp [h0]
      rw [ea]
      by_cases e : i / 8 = j
      · subst e
        rw [World.cell?_setCell_same (h := hcell)]
        simp
      · rw [World.cell?_setCell_other (h := by simp), hcells j (by omega), List.getElem_set_ne e, List.getD_eq_getElem?_getD, List.getElem?_eq_getElem (by omega)]
        rfl)
    rw [hl] at this
    exact this
  have hb0 : Below w.heap.size w (Lib.bytesWorld w 5 s) := ⟨rfl, rfl, rfl, by have := Lib.bytesWorld_size w 5 s; omega, fun k hk => Lib.bytesWorld_at_old w 5 s k hk⟩
  have hbel : Below w.heap.size w ((Lib.bytesWorld w 5 s).setCell ⟨w.heap.size, i / 8, none⟩ (.int .u8 (b.toNat : Int))) :=
    hb0.setCell (p := ⟨w.heap.size, i / 8, none⟩) (Nat.le_refl _) _
  have HB : Hid _ := hbel
  have HN : Hid (b ≠ c) := hbc
  have HS : Hid (s[i / 8] = c) := hcs
  clear hbel hb0 hbc hcs hcells hbn hb hm hm0 hm1 hxl hc hlen
  go_enter Tryz.func9, Tryz.ntmps9
  go_wp2_with fail
  go_ret
  exact ⟨⟨_, b, by simp, fun h => by rw [HS.out]; exact HN.out, rfl⟩, HB.out⟩
end Go.Proofs.YtnkahdidelhdaacGreatDoor
