/-
  A version added: what is told of the chain.
-/
import Derived.Test.YtpeddaljgmkomaaSkL
import Derived.Test.YtpeddaljgmkomaaPk29
import Derived.Test.YtpeddaljgmkomaaPk24
namespace Go.Proofs.Ytpeddaljgmkomaa
open Go.RowKit
set_option linter.unusedVariables false
set_option linter.unusedSimpArgs false
theorem vF_snoc {L : List LkI} {x : LkI} : ∀ i, i ≤ L.length → vF (L ++ [x]) i = vF L i
  | 0, _ => rfl
  | i + 1, h => by
    show (match vF (L ++ [x]) i, (L ++ [x])[i]? with | some V, some l => (mkV V l).map fun v => V ++ [v] | _, _ => none) = (match vF L i, L[i]? with | some V, some l => (mkV V l).map fun v => V ++ [v] | _, _ => none)
    rw [vF_snoc i (by omega), List.getElem?_append_left (by omega)]
theorem vAll_snoc {L : List LkI} {x : LkI} {V : List VerI} {v : VerI} (hA : vAll L = some V) (hn : L.length < 30) (hm : mkV V x = some v) : vAll (L ++ [x]) = some (V ++ [v]) := by
  obtain ⟨_, hVF, _⟩ := vAll_some hA
  have hl : (L ++ [x]).length = L.length + 1 := by simp
  unfold vAll
  rw [hl, if_pos (by omega), vF_succ (by rw [vF_snoc _ (Nat.le_refl _)]; exact hVF) (by simp : (L ++ [x])[L.length]? = some x), hm]
  rfl
theorem cbN_snoc (L : List LkI) (x : LkI) : cbN (L ++ [x]) = cbN L + cb1 x := by unfold cbN; rw [List.map_append, List.sum_append]; simp
/-- the link that is put behind makes the version that was given, and is no longer -/
theorem avL_good {L : List LkI} {V : List VerI} {s : ByteArray} {k : Int} (hA : vAll L = some V) (hs : s.size ≤ 4000) : ∃ d, 0 ≤ d ∧ d ≤ 6 ∧ mkV V (avL V s k) = some ⟨s, d⟩ ∧ cb1 (avL V s k) ≤ s.size := by
  have hw : ∃ d, 0 ≤ d ∧ d ≤ 6 ∧ mkV V ⟨-1, s, []⟩ = some ⟨s, d⟩ ∧ cb1 ⟨-1, s, []⟩ ≤ s.size := ⟨0, by omega, by omega, mkV_base rfl rfl hs, by unfold cb1; rw [if_pos rfl]; exact Nat.le_refl _⟩
  by_cases h0 : 0 ≤ k
  · cases ho : V[k.toNat]? with
    | none =>
      have e : avL V s k = ⟨-1, s, []⟩ := by unfold avL; rw [if_pos h0, ho]
      rw [e]; exact hw
    | some o =>
      by_cases hd : o.d < 6
      · cases hr : shR o.t s with
        | none => rw [avL_long h0 ho hr]; exact hw
        | some P =>
          rw [avL_delta h0 ho hd hr]
          obtain ⟨h1, h2⟩ := shR_doD hr
          obtain ⟨_, hp, ht, _⟩ := doD_good h1
          have hob := (vF_bd (vAll_some hA).2.1 o (List.mem_of_getElem? ho)).2
          refine ⟨o.d + 1, by omega, by omega, ?_, ?_⟩
          · rw [mkV_new (l := ⟨k, ⟨#[]⟩, P⟩) h0 ho rfl hp (by omega)]
            show some (⟨patB o.t (pcF P) P.length, o.d + 1⟩ : VerI) = _
            rw [ht]
          · unfold cb1
            rw [if_neg (by show ¬ k = -1; omega)]
            show (⟨#[]⟩ : ByteArray).size + (dtV (pcF P) P.length).size ≤ s.size
            have : (⟨#[]⟩ : ByteArray).size = 0 := rfl
            omega
      · rw [avL_deep h0 ho hd]; exact hw
  · rw [avL_whole h0]; exact hw
theorem av_good {L M : List LkI} {s : ByteArray} {k : Int} (hl : LkLe L) (h : avR L s k = some M) : M.length = L.length + 1 ∧ LkLe M ∧ chB M = true ∧ (∃ d, 0 ≤ d ∧ d ≤ 6 ∧ verOf M (L.length : Int) = some ⟨s, d⟩) ∧ Same L M ∧ ∃ a b : Nat, cbI M = (a : Int) ∧ cbI L = (b : Int) ∧ a ≤ b + s.size ∧ b ≤ 20000000000 ∧ s.size ≤ 4000 := by
  obtain ⟨hMe, hMl⟩ := avR_le hl h
  by_cases hc : L.length < 30 ∧ s.size ≤ 4000 ∧ -1 ≤ k ∧ k ≤ (L.length : Int) - 1
  · cases hA : vAll L with
    | none => rw [avR_none hA] at h; cases h
    | some V =>
      rw [avR_yes hA hc] at h
      injection h with h
      subst h
      obtain ⟨d, h0, h6, hm, hcb⟩ := avL_good (k := k) hA hc.2.1
      have hB := vAll_snoc hA hc.1 hm
      have hVl := (vAll_some hA).2.2
      refine ⟨hMl, hMe, chB_yes hB, ⟨d, h0, h6, ?_⟩, fun i hi _ => ?_, cbN (L ++ [avL V s k]), cbN L, ?_, ?_, ?_, ?_, hc.2.1⟩
      · rw [verOf_nat hB, List.getElem?_append_right (by omega), hVl]; simp
      · have hx := List.getElem?_eq_getElem (show i < V.length by omega)
        exact ⟨_, _, by rw [verOf_nat hA]; exact hx, by rw [verOf_nat hB, List.getElem?_append_left (by omega)]; exact hx, rfl⟩
      · unfold cbI; rw [if_pos (chB_yes hB)]
      · unfold cbI; rw [if_pos (chB_yes hA)]
      · rw [cbN_snoc]; omega
      · have h2 := cbT_le hl L.length (by omega)
        rw [List.take_of_length_le (Nat.le_refl _)] at h2
        unfold cbN
        have h3 : L.length * 525351586 ≤ 30 * 525351586 := Nat.mul_le_mul_right _ (by omega)
        omega
  · rw [avR_no hc] at h; cases h
end Go.Proofs.Ytpeddaljgmkomaa
