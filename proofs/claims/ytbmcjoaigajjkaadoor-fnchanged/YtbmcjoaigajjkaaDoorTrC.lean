/-
  A tree of branches in memory; the first of some branches of a name; where names lead: the code's.
-/
import Derived.Test.YtbmcjoaigajjkaaDoorTrB
import Derived.Test.YtbmcjoaigajjkaaDoorPthC
import Derived.Test.YtbmcjoaigajjkaaDoorAppG
import Derived.Test.YtbmcjoaigajjkaaDoorHeld
import Derived.BigQuiet
namespace Go.Proofs.YtbmcjoaigajjkaaDoor
open Go.RowKit
set_option linter.unusedVariables false
set_option linter.unusedSimpArgs false
theorem hidT {p : Prop} (h : p) : Hid p := h
def brV (F : Nat → NdI) (v : Value) (k : Nat) : Array Value := #[.string (bL F k), .string (bN F k).p, .bool (bN F k).r, .int .i64 (bN F k).m, .string (bN F k).d, v]
def ptB (bl : Nat → Nat) (c : Nat) : Value := .pointer (some ⟨bl c, 0, none⟩)
/-- the tree of the first i nodes, its branches at bl, in each the row vs of what lies below -/
structure TR (w : World) (B : Nat) (F : Nat → NdI) (i : Nat) (bl : Nat → Nat) (vs : Nat → Value) : Prop where
  blk : ∀ k, k ≤ i → B ≤ bl k ∧ w.heap[bl k]? = some (.cells (brV F (vs k) k) 64 (0, 0))
  row : ∀ k, k ≤ i → w.ownsRow B 57 1 (vs k) (bC F i k).length ((bC F i k).map (ptB bl))
  inj : ∀ k l, k ≤ i → l ≤ i → bl k = bl l → k = l
  apart : ∀ k l, k ≤ i → l ≤ i → k ≠ l → ∀ b, (vs k).ownBlock = some b → (vs l).ownBlock ≠ some b
theorem TR.keep {w w' : World} {B : Nat} {F : Nat → NdI} {i : Nat} {bl : Nat → Nat} {vs : Nat → Value} (h : TR w B F i bl vs) (hb : ∀ j, j < w.heap.size → w'.heap[j]? = w.heap[j]?) : TR w' B F i bl vs :=
  ⟨fun k hk => ⟨(h.blk k hk).1, (hb _ (Array.getElem?_eq_some_iff.1 (h.blk k hk).2).1).trans (h.blk k hk).2⟩,
   fun k hk => owns_row_ofG (h.row k hk) fun b hbk => hb b ((h.row k hk).lt b hbk).2, h.inj, h.apart⟩
theorem TR.below {w w' : World} {B : Nat} {F : Nat → NdI} {i : Nat} {bl : Nat → Nat} {vs : Nat → Value} (h : TR w B F i bl vs) (hb : Below w.heap.size w w') : TR w' B F i bl vs :=
  h.keep fun j hj => hb.block j hj
theorem TR.lt {w : World} {B : Nat} {F : Nat → NdI} {i : Nat} {bl : Nat → Nat} {vs : Nat → Value} (h : TR w B F i bl vs) {k : Nat} (hk : k ≤ i) : bl k < w.heap.size := (Array.getElem?_eq_some_iff.1 (h.blk k hk).2).1
/-- the cells of a branch -/
theorem TR.cells {w : World} {B : Nat} {F : Nat → NdI} {i : Nat} {bl : Nat → Nat} {vs : Nat → Value} (h : TR w B F i bl vs) {k : Nat} (hk : k ≤ i) :
    w.cell? ⟨bl k, 0, none⟩ = some (.string (bL F k)) ∧ w.cell? ⟨bl k, 1, none⟩ = some (.string (bN F k).p) ∧ w.cell? ⟨bl k, 2, none⟩ = some (.bool (bN F k).r) ∧ w.cell? ⟨bl k, 3, none⟩ = some (.int .i64 (bN F k).m) ∧ w.cell? ⟨bl k, 4, none⟩ = some (.string (bN F k).d) ∧ w.cell? ⟨bl k, 5, none⟩ = some (vs k) := by
  have hr := (h.blk k hk).2
  exact ⟨cell_of_row _ _ 0 _ _ _ hr, cell_of_row _ _ 1 _ _ _ hr, cell_of_row _ _ 2 _ _ _ hr, cell_of_row _ _ 3 _ _ _ hr, cell_of_row _ _ 4 _ _ _ hr, cell_of_row _ _ 5 _ _ _ hr⟩
theorem own1_form {w : World} {B n : Nat} {e : TypeId} {v : Value} {xs : List Value} (h : w.ownsRow B e 1 v n xs) : (v = .slice none 0 0 ∧ n = 0) ∨ ∃ g c, v = .slice (some ⟨g, 0, none⟩) n c ∧ g < w.heap.size ∧ ∀ j u, xs[j]? = some u → w.cell? ⟨g, j, none⟩ = some u := by
  obtain ⟨hl, ⟨h0, hn⟩ | ⟨g, cap, cur, h1, h2, h3, h4, h5, h6, h7⟩⟩ := h
  · exact Or.inl ⟨h0, hn⟩
  · refine Or.inr ⟨g, cap, h1, (Array.getElem?_eq_some_iff.1 h3).1, fun j u hj => ?_⟩
    rw [← h7, List.getElem?_take] at hj
    split at hj
    · rw [cell_of_row _ _ _ _ _ _ h3]; simpa using hj
    · cases hj
def trI : Value → Int | .int _ q => q | _ => 0
set_option maxRecDepth 100000 in
set_option maxHeartbeats 1000000 in
/-- the closure that asks for a name -/
theorem same_any (b bx : Nat) (x s : ByteArray) (w : World) (h0 : w.cell? ⟨b, 0, none⟩ = some (.string x)) (h1 : w.cell? ⟨bx, 0, none⟩ = some (.string s)) :
    Calls Tryd.prog 54 #[.pointer (some ⟨b, 0, none⟩), .pointer (some ⟨bx, 0, none⟩)] w fun e w' => e = .returned (.bool (x.toList == s.toList)) ∧ Below w.heap.size w w' ∧ w'.heap = w.heap := by
  go_enter Tryd.func54, Tryd.ntmps54
  go_wp2_with fail
  go_region
  go_wp2_with fail
  go_ret
  exact ⟨rfl, (Below.refl _ _).drew, rfl⟩
set_option maxRecDepth 100000 in
set_option maxHeartbeats 2000000 in
theorem index_any (v : Value) (L : List Nat) (F : Nat → NdI) (bl : Nat → Nat) (bx : Nat) (s : ByteArray) (B : Nat) (w : World) (hL : L.length ≤ 40) (hv : w.ownsRow B 57 1 v L.length (L.map (ptB bl)))
    (hb : ∀ c ∈ L, bl c < w.heap.size ∧ w.cell? ⟨bl c, 0, none⟩ = some (.string (bL F c))) (hx : bx < w.heap.size ∧ w.cell? ⟨bx, 0, none⟩ = some (.string s)) :
    Calls Tryd.prog 53 #[v, .func (.func 54) #[] #[.pointer (some ⟨bx, 0, none⟩)]] w fun e w' => (∃ x : Int, e = .returned (.int .i64 x) ∧ ((x = -1 ∧ ∀ c ∈ L, bL F c ≠ s) ∨ ∃ (q : Nat) (hq : q < L.length), x = (q : Int) ∧ bL F L[q] = s)) ∧ Below w.heap.size w w' := by
  have hform := own1_form hv
  have HB := hidT hb
  have HX := hidT hx
  have hLI : (L.length : Int) ≤ 40 := by omega
  have HC : Hid (∀ (b bx : Nat) (x s : ByteArray) (w : World), w.cell? ⟨b, 0, none⟩ = some (.string x) → w.cell? ⟨bx, 0, none⟩ = some (.string s) → Calls Tryd.prog 54 #[.pointer (some ⟨b, 0, none⟩), .pointer (some ⟨bx, 0, none⟩)] w fun e w' => e = .returned (.bool (x.toList == s.toList)) ∧ Below w.heap.size w w' ∧ w'.heap = w.heap) := fun b bx x s w h1 h2 => same_any b bx x s w h1 h2
  clear hv hb hx
  obtain ⟨a, c, rfl, hcell⟩ : ∃ a c, v = .slice a L.length c ∧ ∀ j (h : j < L.length), ∃ g, a = some ⟨g, 0, none⟩ ∧ w.cell? ⟨g, j, none⟩ = some (ptB bl L[j]) := by
    rcases hform with ⟨rfl, h0⟩ | ⟨g, c, rfl, hg, hc⟩
    · exact ⟨none, 0, by rw [h0], fun j h => by omega⟩
    · exact ⟨_, c, rfl, fun j h => ⟨g, rfl, hc j _ (by rw [List.getElem?_map, List.getElem?_eq_getElem h]; rfl)⟩⟩
  have HCL := hidT hcell
  clear hcell hform
  go_enter Tryd.func53, Tryd.ntmps53
  go_wp2_with fail
  go_loopw [8] (fun x wr => ∃ i : Nat, i ≤ L.length ∧ x = .int .i64 (i : Int) ∧ Hid (∀ j (h : j < L.length), j < i → bL F L[j] ≠ s) ∧ Below w.heap.size w wr ∧ wr.heap = w.heap) (fun x _ => L.length - (trI x).toNat)
  case atStart => exact ⟨0, by omega, rfl, fun j _ hj => absurd hj (by omega), Below.refl _ _, rfl⟩
  case round =>
    obtain ⟨i, hi, rfl, HN, hb2, hh⟩ := hrel
    by_cases hlt : i < L.length
    · have hltI : (i : Int) < (L.length : Int) := by omega
      obtain ⟨g, rfl, hc⟩ := HCL.out i hlt
      have hce : ∀ a, wr.cell? a = w.cell? a := fun a => by simp [World.cell?, hh]
      have x0 : wr.cell? ⟨g, i, none⟩ = some (.pointer (some ⟨bl L[i], 0, none⟩)) := by rw [hce]; exact hc
      have HCC := hidT (HC.out (bl L[i]) bx (bL F L[i]) s)
      have HY := hidT (HB.out L[i] (List.getElem_mem hlt)).2
      have HW : Hid (Below w.heap.size w wr ∧ wr.heap = w.heap) := ⟨hb2, hh⟩
      have HS : Hid (bL F L[i] ≠ s → ∀ j (h : j < L.length), j < i + 1 → bL F L[j] ≠ s) := fun hne j h hj => by
        by_cases e : j < i
        · exact HN.out j h e
        · have e2 : j = i := by omega
          subst e2
          exact hne
      have HQ : Hid (bL F L[i] = s → ∃ (q : Nat) (hq : q < L.length), (i : Int) = (q : Int) ∧ bL F L[q] = s) := fun h => ⟨i, hlt, rfl, h⟩
      clear hb2 hh hce hc HN
      generalize bL F L[i] = y at HCC HY HS HQ
      generalize bl L[i] = b at x0 HCC HY
      go_wp2_with fail
      refine (HCC.out _ (by have := HY.out; have hh := HW.out.2; simpa [World.cell?, hh] using this) (by have := HX.out.2; have hh := HW.out.2; simpa [World.cell?, hh] using this)).mono ?_
      rintro e w2 ⟨rfl, hb3, hh3⟩
      have HW2 : Hid (Below w.heap.size w w2 ∧ w2.heap = w.heap) := ⟨blNd HW.out.1 hb3 HW.out.1.size, hh3.trans HW.out.2⟩
      clear hb3 hh3 HW
      by_cases he : y = s
      · have HQ2 := hidT (HQ.out he)
        subst he
        clear HS HQ
        go_wp2_with fail
        go_ret
        exact ⟨⟨_, rfl, Or.inr HQ2.out⟩, HW2.out.1⟩
      · have HS2 := hidT (HS.out he)
        have he2 : (y.toList == s.toList) = false := beq_eq_false_iff_ne.2 fun c => he (ba_list c)
        clear HS HQ he
        go_wp2_with fail
        go_roundw
        case rel => exact ⟨i + 1, by omega, by go_num, HS2, HW2.out.1, HW2.out.2⟩
        case measure => simp [trI]; omega
    · obtain rfl : i = L.length := by omega
      have HA : Hid (∀ c ∈ L, bL F c ≠ s) := fun c hc => by
        obtain ⟨j, hj, rfl⟩ := List.getElem_of_mem hc
        exact HN.out j hj hj
      go_wp2_with fail
      go_ret
      exact ⟨⟨_, rfl, Or.inl ⟨rfl, HA.out⟩⟩, hb2⟩
end Go.Proofs.YtbmcjoaigajjkaaDoor
