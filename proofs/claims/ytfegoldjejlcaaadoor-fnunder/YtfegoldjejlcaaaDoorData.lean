/-
  The reader of drawn bytes: what 'data' answers: some text of at most 600 bytes.
-/
import Derived.Test.YtfegoldjejlcaaaDoorText
namespace Go.Proofs.YtfegoldjejlcaaaDoor
open Go.RowKit

theorem mk_size (l : List UInt8) : (⟨l.toArray⟩ : ByteArray).size = l.length := by simp [ByteArray.size]

set_option maxRecDepth 100000 in
set_option maxHeartbeats 2000000 in
theorem data_any {w0 : World} {a : Option Addr} {len cap g : Nat} {W : World} (hS : Src w0 a len) (h : RD w0 a len cap g W) (n : Int) (h0 : 0 ≤ n) (h1 : n ≤ 1000) :
    Calls Tryd.prog 85 #[.pointer (some ⟨g, 0, none⟩), .int .i64 n] W fun e w' => (∃ s : ByteArray, s.size ≤ 600 ∧ e = .returned (.string s)) ∧ Rd3 w0 a len cap g W w' := by
  go_enter Tryd.func85, Tryd.ntmps85
  go_wp2_with fail
  refine (below_any hS h (n + 1) (by omega) (by omega)).mono ?_
  rintro e w1 ⟨⟨y, hy1, hy2, rfl⟩, hr1⟩
  clear h
  obtain ⟨m, rfl⟩ := Int.eq_ofNat_of_zero_le hy1
  go_wp2_with fail
  go_loopw [5, 6] (fun v i wr => ∃ (j : Nat) (s : ByteArray), i = .int .i64 j ∧ (j : Int) ≤ n ∧ s.size ≤ 600 ∧ v = .string s ∧ Rd3 w0 a len cap g W wr)
    (fun _ i _ => (nextIntOf i).toNat)
  case atStart => exact ⟨m, ⟨#[]⟩, rfl, by omega, by decide, rfl, hr1⟩
  case round =>
    obtain ⟨j, s, rfl, hj, hs, rfl, hr⟩ := hrel
    clear hr1
    by_cases hlt : 0 < j
    · go_wp2_with fail
      refine (below_any hS hr.rd 5 (by omega) (by omega)).mono ?_
      rintro e w2 ⟨⟨x, hx1, hx2, rfl⟩, hr2⟩
      replace hr2 := hr.trans hr2
      clear hr
      by_cases e0 : x = 0
      · subst e0
        go_wp2_with fail
        refine (bytes_any hS hr2.rd 6 (by omega) (by omega)).mono ?_
        rintro e w3 ⟨⟨l, hl, rfl⟩, hr3⟩
        replace hr3 := hr2.trans hr3
        clear hr2
        by_cases hbig : 600 < s.size + l.length
        · go_wp2_with fail
          go_roundw
          case rel => exact ⟨j - 1, _, by go_num, by omega, by simp; omega, rfl, hr3⟩
          case measure => simp [nextIntOf]; omega
        · go_wp2_with fail
          go_roundw
          case rel => exact ⟨j - 1, s ++ (⟨l.toArray⟩ : ByteArray), by go_num, by omega, by rw [ByteArray.size_append, mk_size l]; omega, rfl, hr3⟩
          case measure => simp [nextIntOf]; omega
      · have e0' : (x == 0) = false := beq_eq_false_iff_ne.2 e0
        by_cases e1 : x = 1
        · subst e1
          by_cases hz : 0 < s.size
          · go_wp2_with fail
            refine (below_any hS hr2.rd s.size (by omega) (by omega)).mono ?_
            rintro e w3 ⟨⟨z, hz1, hz2, rfl⟩, hr3⟩
            obtain ⟨q, rfl⟩ := Int.eq_ofNat_of_zero_le hz1
            replace hr3 := hr2.trans hr3
            clear hr2
            by_cases hbig : 600 < s.size + (s.size - q)
            · go_wp2_with fail
              go_roundw
              case rel => exact ⟨j - 1, _, by go_num, by omega, by simp; omega, rfl, hr3⟩
              case measure => simp [nextIntOf]; omega
            · go_wp2_with fail
              go_roundw
              case rel => exact ⟨j - 1, _, by go_num, by omega, by simp; omega, rfl, hr3⟩
              case measure => simp [nextIntOf]; omega
          · go_wp2_with fail
            go_roundw
            case rel => exact ⟨j - 1, s, by go_num, by omega, by omega, rfl, hr2⟩
            case measure => simp [nextIntOf]; omega
        · have e1' : (x == 1) = false := beq_eq_false_iff_ne.2 e1
          go_wp2_with fail
          refine (text_any hS hr2.rd).mono ?_
          rintro e w3 ⟨⟨l, hl, rfl⟩, hr3⟩
          replace hr3 := hr2.trans hr3
          clear hr2
          by_cases hbig : 600 < s.size + l.size
          · go_wp2_with fail
            go_roundw
            case rel => exact ⟨j - 1, _, by go_num, by omega, by simp; omega, rfl, hr3⟩
            case measure => simp [nextIntOf]; omega
          · go_wp2_with fail
            go_roundw
            case rel => exact ⟨j - 1, _, by go_num, by omega, by simp; omega, rfl, hr3⟩
            case measure => simp [nextIntOf]; omega
    · go_wp2_with fail
      go_ret
      exact ⟨⟨s, hs, rfl⟩, hr⟩
end Go.Proofs.YtfegoldjejlcaaaDoor
