/-
  What the specification's Unhex answers.
-/
import Derived.Test.YtfngknnjdcgciaaConv
import Derived.Test.YtfngknnjdcgciaaUnhexMath
namespace Go.Proofs.Ytfngknnjdcgciaa
open Go.RowKit

set_option maxRecDepth 100000 in
theorem digit_any (c : UInt8) (w : World) :
    Calls Try.prog 44 #[.int .u8 (c.toNat : Int)] w fun e w' => e = .returned (.int .i64 (dv c)) ∧ w' = w := by
  have hc := c.toNat_lt
  have h2 : Hid (dv c = dv2 c.toNat) := dv_eq c
  by_cases h : 48 ≤ c.toNat ∧ c.toNat ≤ 57
  · have e : Hid (dv2 c.toNat = (c.toNat : Int) - 48) := by unfold dv2; exact if_pos h
    obtain ⟨ha, hb⟩ := h
    go_enter Try.func44, Try.ntmps44
    go_wp2
    go_ret
    exact ⟨by rw [h2.out, e.out]; rfl, rfl⟩
  · by_cases h' : 97 ≤ c.toNat ∧ c.toNat ≤ 102
    · have e : Hid (dv2 c.toNat = (c.toNat : Int) - 87) := by unfold dv2; rw [if_neg h]; exact if_pos h'
      obtain ⟨ha, hb⟩ := h'
      clear h
      go_enter Try.func44, Try.ntmps44
      go_wp2
      go_ret
      exact ⟨by rw [h2.out, e.out, show (c.toNat : Int) - 87 = (c.toNat : Int) - 97 + 10 from by omega]; rfl, rfl⟩
    · have e : Hid (dv2 c.toNat = -1) := by unfold dv2; rw [if_neg h]; exact if_neg h'
      by_cases h3 : c.toNat < 48
      · clear h h'
        go_enter Try.func44, Try.ntmps44
        go_wp2
        go_ret
        exact ⟨by rw [h2.out, e.out]; rfl, rfl⟩
      · by_cases h4 : c.toNat < 97
        · have h5 : 57 < c.toNat := by omega
          clear h h'
          go_enter Try.func44, Try.ntmps44
          go_wp2
          go_ret
          exact ⟨by rw [h2.out, e.out]; rfl, rfl⟩
        · have h5 : 102 < c.toNat := by omega
          clear h h'
          go_enter Try.func44, Try.ntmps44
          go_wp2
          go_ret
          exact ⟨by rw [h2.out, e.out]; rfl, rfl⟩

set_option maxRecDepth 100000 in
set_option maxHeartbeats 2000000 in
theorem sunhex_any (s : ByteArray) (w : World) (hs : s.size ≤ 1099511627776) :
    Calls Try.prog 31 #[.string s] w fun e w' => e = .returned (unhexOut s) ∧ Below w.heap.size w w' := by
  obtain ⟨i0, hi, hz0, hz1, hz2⟩ := info_parts Try.inf5b
  by_cases hodd : s.size % 2 = 1
  · have ho : ((s.size : Int) % 2 == 1) = true := beq_iff_eq.2 (by omega)
    have H : Hid (unhexOut s = _) := unhexOut_none (unhexL_odd _ (by rw [← Lib.size_eq]; exact hodd))
    go_enter Try.func31, Try.ntmps31
    go_wp2_with fail
    go_ret2
    exact ⟨by rw [H.out]; rfl, Below.refl _ _⟩
  · have ho : ((s.size : Int) % 2 == 1) = false := beq_eq_false_iff_ne.2 (by omega)
    go_enter Try.func31, Try.ntmps31
    go_wp2_with fail
    go_loopw [4, 5] (fun v i wr => ∃ (j : Nat) (acc : List UInt8), j ≤ s.size ∧ i = .int .i64 (j : Int) ∧ j = 2 * acc.length ∧ Hid (UAt s j acc) ∧ wr.ownsRow w.heap.size 5 1 v acc.length (Lib.byteCells acc) ∧ Below w.heap.size w wr)
      (fun _ i _ => s.size - (hexIntOf i).toNat)
    case atStart => exact ⟨0, [], by omega, rfl, rfl, uat_start s, World.ownsRow_made w #[] 0 (Nat.le_refl _) (by unfold maxLen; omega) rfl, (Below.refl _ _).alloc (Nat.le_refl _) _⟩
    case round =>
      obtain ⟨j, acc, hj, rfl, hja, HU, hown, hb⟩ := hrel
      have HJ : Hid (j = 2 * acc.length) := hja
      clear hja
      by_cases hlt : j < s.size
      · have hj1 : j + 1 < s.size := by have := HJ.out; omega
        have hx1 : 0 ≤ (j : Int) + 1 := by omega
        have hx2 : (j : Int) + 1 < s.size := by omega
        go_wp2_with fail
        refine (digit_any s[j] _).mono ?_
        rintro e w1 ⟨rfl, rfl⟩
        go_wp2_with fail
        refine (digit_any s[j + 1] _).mono ?_
        rintro e w2 ⟨rfl, rfl⟩
        have hA := dv_bd s[j]
        have hB := dv_bd s[j + 1]
        by_cases hf : dv s[j] < 0 ∨ dv s[j + 1] < 0
        · have H : Hid (unhexOut s = _) := unhexOut_none (uat_fail HU.out hj1 hf)
          clear HU
          generalize dv s[j] = A at hA hf ⊢
          generalize dv s[j + 1] = B at hB hf ⊢
          by_cases hA0 : A < 0
          · clear hf
            go_wp2_with fail
            go_ret2
            exact ⟨by rw [H.out]; rfl, hb⟩
          · have hB0 : B < 0 := by omega
            clear hf
            go_wp2_with fail
            go_ret2
            exact ⟨by rw [H.out]; rfl, hb⟩
        · have hA0 : 0 ≤ dv s[j] := by omega
          have hB0 : 0 ≤ dv s[j + 1] := by omega
          have HN : Hid (UAt s (j + 2) (acc ++ [UInt8.ofNat (16 * dv s[j] + dv s[j + 1]).toNat])) := uat_step HU.out hj1 hA0 hB0
          clear HU hf
          generalize dv s[j] = A at hA hA0 HN ⊢
          generalize dv s[j + 1] = B at hB hB0 HN ⊢
          have hsz := hb.size
          have hal : acc.length ≤ s.size := by have := HJ.out; omega
          obtain ⟨hA1, hA2⟩ := hA
          obtain ⟨hB1, hB2⟩ := hB
          go_wp2_with (at_builtin; refine wpList_append_own _ rfl _ _ 22 rfl w.heap.size 5 i0 (.int .u8 0) 1 1 Try.underlying22 hi hz0 hz1 hz2 rfl (by decide) _ _ _ rfl (hown.alloc _) ⟨w2.heap.size, 0, none⟩ 1 1 [_] rfl rfl (cell_one_new _ _ _) ?c2 ?c3 ?c4 ?c5 ?_)
          case c2 => intro u hu; simp at hu; subst hu; rfl
          case c3 => unfold maxLen; omega
          case c4 => omega
          case c5 => simp; omega
          intro v' w3 hown' hgrow _
          rw [snoc_v (x := 16 * A + B) (by omega) (by omega)] at hown'
          have hb2 : Below w.heap.size w w3 := (hb.alloc (by omega) _).grown hgrow (by simp; omega) (fun k hk => (hown.lt k hk).1)
          have H1 : Hid (w3.ownsRow w.heap.size 5 1 v' _ _ ∧ Below w.heap.size w w3) := ⟨hown', hb2⟩
          clear hown' hb2 hgrow hown hb
          go_wp2_with fail
          go_roundw
          case rel => exact ⟨j + 2, acc ++ [UInt8.ofNat (16 * A + B).toNat], by omega, by go_num, by rw [List.length_append, List.length_singleton]; have := HJ.out; omega, HN, by simpa using H1.out.1, H1.out.2⟩
          case measure => simp [hexIntOf]; omega
      · have H : Hid (unhexOut s = _) := unhexOut_some (uat_end HU.out (by omega))
        have hcv := conv_bytes hown
        clear HU HJ
        go_wp2_with fail
        go_ret2
        exact ⟨by rw [H.out]; rfl, hb⟩
end Go.Proofs.Ytfngknnjdcgciaa
