/-
  Where names lead in a tree; whether a node is right: the code's.
-/
import Derived.Test.YtbmcjoaigajjkaaDoorTrC
namespace Go.Proofs.YtbmcjoaigajjkaaDoor
open Go.RowKit
set_option linter.unusedVariables false
set_option linter.unusedSimpArgs false
/-- what is told of the place: a branch, or none -/
def ptO (bl : Nat → Nat) : Option Nat → Value
  | some k => .pointer (some ⟨bl k, 0, none⟩)
  | none => .pointer none
set_option maxRecDepth 100000 in
set_option maxHeartbeats 4000000 in
theorem find_any (F : Nat → NdI) (i : Nat) (bl : Nat → Nat) (vs : Nat → Value) (B g c : Nat) (P : List ByteArray) (w : World) (hi : i ≤ 40) (hV : trV F i) (hT : TR w B F i bl vs) (hP : StRow w g P) (hPl : P.length ≤ 7) :
    Calls Tryd.prog 23 #[.pointer (some ⟨bl 0, 0, none⟩), .slice (some ⟨g, 0, none⟩) P.length c] w fun e w' => e = .returned (ptO bl (bF F i P)) ∧ Below w.heap.size w w' := by
  have HI : Hid (∀ (v : Value) (L : List Nat) (bx : Nat) (s : ByteArray) (w : World), L.length ≤ 40 → w.ownsRow B 57 1 v L.length (L.map (ptB bl)) → (∀ c ∈ L, bl c < w.heap.size ∧ w.cell? ⟨bl c, 0, none⟩ = some (.string (bL F c))) → (bx < w.heap.size ∧ w.cell? ⟨bx, 0, none⟩ = some (.string s)) →
    Calls Tryd.prog 53 #[v, .func (.func 54) #[] #[.pointer (some ⟨bx, 0, none⟩)]] w fun e w' => (∃ x : Int, e = .returned (.int .i64 x) ∧ ((x = -1 ∧ ∀ c ∈ L, bL F c ≠ s) ∨ ∃ (q : Nat) (hq : q < L.length), x = (q : Int) ∧ bL F L[q] = s)) ∧ Below w.heap.size w w') := fun v L bx s w h1 h2 h3 h4 => index_any v L F bl bx s B w h1 h2 h3 h4
  have HP : Hid (∀ w', Below w.heap.size w w' → StRow w' g P) := fun w' h => hP.below h hP.lt
  have HT : Hid (∀ w', Below w.heap.size w w' → TR w' B F i bl vs) := fun w' h => hT.below h
  have HV := hidT hV
  have hi40 : i ≤ 40 := hi
  have hl7 : (P.length : Int) ≤ 7 := by omega
  have HL7 : Hid (P.length ≤ 7) := hPl
  clear hV hT hP hi hPl
  go_enter Tryd.func23, Tryd.ntmps23
  go_wp2_with fail
  go_loopw [5, 12] (fun p x wr => ∃ t k : Nat, t ≤ P.length ∧ k ≤ i ∧ x = .int .i64 (t : Int) ∧ p = .pointer (some ⟨bl k, 0, none⟩) ∧ Hid (bP F k = P.take t) ∧ Hid (Below w.heap.size w wr)) (fun _ x _ => P.length - (trI x).toNat)
  case atStart => exact ⟨0, 0, by omega, by omega, rfl, rfl, by show [] = P.take 0; rw [List.take_zero], Below.refl _ _⟩
  case round =>
    obtain ⟨t, k, ht, hk, rfl, rfl, HE, HB⟩ := hrel
    by_cases hlt : t < P.length
    · have hltI : (t : Int) < (P.length : Int) := by omega
      have x0 := (HP.out wr HB.out).c t hlt
      obtain ⟨s, hs⟩ : ∃ s, s = P[t] := ⟨_, rfl⟩
      rw [← hs] at x0
      have HSS : Hid (s = P[t]) := hs
      have hbx := HB.out.alloc HB.out.size (.cells #[.string s] 9)
      have HBX := hidT hbx
      have hTx := HT.out _ hbx
      have HTX := hidT hTx
      have x5 := (hTx.cells hk).2.2.2.2.2
      have hsl : ∃ sa sn sc, vs k = .slice sa sn sc ∧ (sn = (bC F i k).length) := by
        rcases own1_form (hTx.row k hk) with ⟨h1, h2⟩ | ⟨g2, c2, h1, _⟩
        · exact ⟨_, _, _, h1, h2.symm⟩
        · exact ⟨_, _, _, h1, rfl⟩
      obtain ⟨sa, sn, sc, hvs, hsn⟩ := hsl
      rw [hvs] at x5
      have hrow := hTx.row k hk
      rw [hvs] at hrow
      have HROW := hidT hrow
      have HIX := hidT (HI.out (.slice sa sn sc) (bC F i k) wr.heap.size s _ (by have := bC_len F i k; omega) hrow (fun c hc => by
        obtain ⟨j, rfl, hj, _⟩ := bC_mem hc
        exact ⟨hTx.lt (show j + 1 ≤ i by omega), (hTx.cells (show j + 1 ≤ i by omega)).1⟩) ⟨by simp, cell_of_row _ _ 0 _ _ _ (heap_alloc_new wr _)⟩)
      have HSN : Hid (sn = (bC F i k).length) := hsn
      have HKI : Hid (k ≤ i ∧ t < P.length) := ⟨hk, hlt⟩
      clear hs hbx hTx hrow hsn hvs
      go_wp2_with fail
      refine HIX.out.mono ?_
      rintro e w2 ⟨⟨x, rfl, hcase⟩, hb2⟩
      have HB2 := hidT (blNd HBX.out hb2 HBX.out.size)
      have hT2 := HT.out _ HB2.out
      clear hb2 HIX
      rcases hcase with ⟨rfl, hno⟩ | ⟨q, hq, rfl, hnm⟩
      · have HR : Hid (bF F i P = none) := bF_stop HV.out HKI.out.1 HE.out HKI.out.2 (by rw [← HSS.out]; exact hno)
        clear hno hT2
        go_wp2_with fail
        go_ret
        exact ⟨by rw [HR.out]; rfl, HB2.out⟩
      · have hd := bF_down HV.out HKI.out.1 HE.out HKI.out.2 (List.getElem_mem hq) (by rw [← HSS.out]; exact hnm)
        have HD := hidT hd
        have x5b := (hT2.cells HKI.out.1).2.2.2.2.2
        have hrow2 := hT2.row k HKI.out.1
        have hvs2 : vs k = .slice sa sn sc := by
          have h1 := (HTX.out.cells HKI.out.1).2.2.2.2.2
          rw [x5] at h1
          injection h1 with h1
          exact h1.symm
        rw [hvs2] at x5b hrow2
        have hqs : (q : Int) < (sn : Int) := by have := HSN.out; omega
        have hq0 : ¬ (q : Int) < 0 := by omega
        rcases own1_form hrow2 with ⟨h1, h2⟩ | ⟨g2, c2, h1, _, hc⟩
        · omega
        · injection h1 with h1 h3 h4
          subst h1
          have y0 : w2.cell? ⟨g2, q, none⟩ = some (.pointer (some ⟨bl (bC F i k)[q], 0, none⟩)) := hc q _ (by rw [List.getElem?_map, List.getElem?_eq_getElem hq]; rfl)
          clear hnm hd hT2 hrow2 hvs2 hc h3 h4 x5 x0
          generalize (bC F i k)[q] = kc at y0 HD
          go_wp2_with fail
          go_roundw
          case rel => exact ⟨t + 1, kc, by have := HKI.out.2; omega, HD.out.1, by go_num, rfl, HD.out.2, HB2⟩
          case measure => simp [trI]; omega
    · obtain rfl : t = P.length := by omega
      have HR : Hid (bF F i P = some k) := bF_some HV.out hk (by rw [HE.out, List.take_length])
      go_wp2_with fail
      go_ret
      exact ⟨by rw [HR.out]; rfl, HB.out⟩
end Go.Proofs.YtbmcjoaigajjkaaDoor
