/-
  The specification's files: where one stands, one that is put, one that is gone.
-/
import Derived.Test.YtanlggglbpibfaaSfA
import Derived.Test.YtanlggglbpibfaaFlW
namespace Go.Proofs.Ytanlggglbpibfaa
open Go.RowKit
set_option linter.unusedVariables false
set_option linter.unusedSimpArgs false
theorem fdF_take {L : List FlI} {s : ByteArray} {i : Nat} (hi : i < L.length) (h : ∀ j, j < i → (flF L j).a ≠ s) (e : (flF L i).a = s) : fdF L s = some (flF L i).d := by
  have hs : L = L.take i ++ flF L i :: L.drop (i + 1) := by rw [flF_at hi]; simp
  conv => lhs; rw [hs]
  rw [fdF_app, fdF_none.2]
  · show fdF (flF L i :: L.drop (i + 1)) s = _
    unfold fdF
    rw [if_pos e]
  · intro f hf
    obtain ⟨j, hj, rfl⟩ := List.mem_iff_getElem.1 hf
    rw [List.length_take] at hj
    have := h j (by omega)
    rw [flF_at (by omega)] at this
    rw [List.getElem_take]
    exact this
theorem fdF_all {L : List FlI} {s : ByteArray} (h : ∀ j, j < L.length → (flF L j).a ≠ s) : fdF L s = none := fdF_none.2 fun f hf => by
  obtain ⟨j, hj, rfl⟩ := List.mem_iff_getElem.1 hf
  have := h j hj
  rwa [flF_at hj] at this
def atP (L : List FlI) (s : ByteArray) (e : Ending) : Prop := (fdF L s = none ∧ e = .returned (.int .i64 (-1))) ∨ ∃ i : Nat, i < L.length ∧ (flF L i).a = s ∧ fdF L s = some (flF L i).d ∧ e = .returned (.int .i64 (i : Int))
set_option maxRecDepth 100000 in
set_option maxHeartbeats 1000000 in
theorem sat15_any (v : Value) (L : List FlI) (s : ByteArray) (w : World) (hL : FlLe L) (h : FlArg w v L.length (flF L)) :
    Calls Try.prog 64 #[v, .string s] w fun e w' => atP L s e ∧ w' = w := by
  obtain ⟨a, c, rfl, hr⟩ := h
  obtain ⟨n, hn⟩ : ∃ n, n = L.length := ⟨_, rfl⟩
  rw [← hn] at hr ⊢
  have hnJ : (n : Int) ≤ 1100000 := by have := hL.len; omega
  have HN : Hid (n = L.length) := hn
  have HR := hidF hr
  clear hr hL hn
  go_enter Try.func64, Try.ntmps64
  go_wp2_with fail
  go_loopw [5] (fun y wr => ∃ i : Nat, i ≤ n ∧ y = .int .i64 (i : Int) ∧ Hid (∀ j, j < i → (flF L j).a ≠ s) ∧ Hid (wr = w)) (fun y _ => n - (intFl y).toNat)
  case atStart => exact ⟨0, by omega, rfl, fun j hj => absurd hj (by omega), rfl⟩
  case round =>
    obtain ⟨i, hi, rfl, HT, HW⟩ := hrel
    by_cases hlt : i < n
    · have hltI : (i : Int) < (n : Int) := by omega
      have hin : i < L.length := by rw [← HN.out]; exact hlt
      obtain ⟨g, rfl, hrow⟩ := HR.out (by omega)
      obtain ⟨q, hq⟩ : ∃ q, q = 2 * i := ⟨_, rfl⟩
      have x0 := hrow.c0 i hlt
      rw [← hq, ← HW.out] at x0
      have hiq : i * 2 = q := by omega
      obtain ⟨fa, hfa⟩ : ∃ fa, fa = (flF L i).a := ⟨_, rfl⟩
      rw [← hfa] at x0
      have HFA := hidF hfa
      have HIN := hidF hlt
      clear hrow hq hfa
      by_cases he : fa = s
      · subst he
        have HF : Hid (fdF L fa = some (flF L i).d) := fdF_take hin HT.out HFA.out.symm
        go_wp2_with fail
        go_ret
        exact ⟨Or.inr ⟨i, by rw [← HN.out]; exact HIN.out, HFA.out.symm, HF.out, rfl⟩, HW.out⟩
      · have hb := beqF_no he
        have HT2 : Hid (∀ j, j < i + 1 → (flF L j).a ≠ s) := fun j hj => by
          by_cases e : j = i
          · subst e; rw [← HFA.out]; exact he
          · exact HT.out j (by omega)
        clear he
        go_wp2_with fail
        go_roundw
        case rel => exact ⟨i + 1, by omega, by go_num, HT2, HW⟩
        case measure => simp [intFl]; omega
    · obtain rfl : i = n := by omega
      go_wp2_with fail
      go_ret
      exact ⟨Or.inl ⟨fdF_all fun j hj => HT.out j (by rw [HN.out]; exact hj), rfl⟩, HW.out⟩
end Go.Proofs.Ytanlggglbpibfaa
