/-
  A branch that is planted: the tree in memory with one more; names with their room.
-/
import Derived.Test.YtbmcjoaigajjkaaDoorTrF
import Derived.Test.YtbmcjoaigajjkaaDoorTrO
namespace Go.Proofs.YtbmcjoaigajjkaaDoor
open Go.RowKit
set_option linter.unusedVariables false
set_option linter.unusedSimpArgs false
theorem own1_block {w : World} {B n b : Nat} {e : TypeId} {v : Value} {xs : List Value} (h : w.ownsRow B e 1 v n xs) (hb : v.ownBlock = some b) : B ≤ b ∧ ∃ cur, w.heap[b]? = some (.cells cur e (0, 0)) := by
  obtain ⟨hl, ⟨h0, hn⟩ | ⟨g, cap, cur, h1, h2, h3, _⟩⟩ := h
  · subst h0; cases hb
  · subst h1
    have : g = b := Option.some.inj hb
    subst this
    exact ⟨h2, cur, h3⟩
def blU (bl : Nat → Nat) (i nb : Nat) : Nat → Nat := fun c => if c = i then nb else bl c
def vsU (vs : Nat → Value) (i k : Nat) (v : Value) : Nat → Value := fun c => if c = k then v else if c = i then .slice none 0 0 else vs c
theorem brU {F : Nat → NdI} {v v' : Value} {k : Nat} : (brV F v k).setIfInBounds 5 v' = brV F v' k := rfl
theorem row_ne {w : World} {a b : Nat} {c1 c2 : Array Value} (h1 : w.heap[a]? = some (.cells c1 64 (0, 0))) (h2 : w.heap[b]? = some (.cells c2 57 (0, 0))) : a ≠ b := by
  intro e
  subst e
  rw [h1] at h2
  injection h2 with h2
  injection h2 with _ h2 _
  exact absurd h2 (by decide)
theorem TR.plant {w W W3 : World} {B : Nat} {F : Nat → NdI} {i k nb : Nat} {bl : Nat → Nat} {vs : Nat → Value} {v' : Value} (hT : TR w B F i bl vs) (hk : k ≤ i) (hu : bU F i = k)
    (hW : Below w.heap.size w W) (hB : B ≤ w.heap.size) (hnb : nb = w.heap.size) (hnew : W.heap[nb]? = some (.cells (brV F (.slice none 0 0) (i + 1)) 64 (0, 0)))
    (ho : W3.ownsRow B 57 1 v' ((bC F i k).length + 1) ((bC F i k).map (ptB bl) ++ [.pointer (some ⟨nb, 0, none⟩)])) (hg : W.grownBy W3 (vs k).ownBlock) (hf : ∀ b, v'.ownBlock = some b → (vs k).ownBlock = some b ∨ W.heap.size ≤ b) :
    TR (W3.setCell ⟨bl k, 5, none⟩ v') B F (i + 1) (blU bl (i + 1) nb) (vsU vs (i + 1) k v') ∧ Below B w (W3.setCell ⟨bl k, 5, none⟩ v') := by
  have hltW : ∀ c, c ≤ i → bl c < w.heap.size := fun c hc => hT.lt hc
  have hsz := hW.size
  have hWb : ∀ c, c ≤ i → W.heap[bl c]? = some (.cells (brV F (vs c) c) 64 (0, 0)) := fun c hc => (hW.block _ (hltW c hc)).trans (hT.blk c hc).2
  have hrb : ∀ c b, c ≤ i → (vs c).ownBlock = some b → B ≤ b ∧ b < w.heap.size ∧ ∃ cur, W.heap[b]? = some (.cells cur 57 (0, 0)) := fun c b hc hb => by
    obtain ⟨h1, cur, h2⟩ := own1_block (hT.row c hc) hb
    have hl := (Array.getElem?_eq_some_iff.1 h2).1
    exact ⟨h1, hl, cur, (hW.block _ hl).trans h2⟩
  have h3b : ∀ c, c ≤ i → W3.heap[bl c]? = some (.cells (brV F (vs c) c) 64 (0, 0)) := fun c hc =>
    (hg.block _ (Nat.lt_of_lt_of_le (hltW c hc) hsz) (fun e => by
      obtain ⟨_, _, cur, h2⟩ := hrb k (bl c) hk e.symm
      exact row_ne (hWb c hc) h2 rfl)).trans (hWb c hc)
  have hnl : nb < W.heap.size := (Array.getElem?_eq_some_iff.1 hnew).1
  have h3n : W3.heap[nb]? = some (.cells (brV F (.slice none 0 0) (i + 1)) 64 (0, 0)) :=
    (hg.block _ hnl (fun e => by
      obtain ⟨_, h1, _⟩ := hrb k nb hk e.symm
      omega)).trans hnew
  have hne : ∀ c, c ≤ i → bl c ≠ nb := fun c hc => by have := hltW c hc; omega
  have hvb : ∀ b, v'.ownBlock = some b → B ≤ b ∧ ∃ cur, W3.heap[b]? = some (.cells cur 57 (0, 0)) := fun b hb => own1_block ho hb
  have hrow3 : ∀ c b, c ≤ i → c ≠ k → (vs c).ownBlock = some b → W3.heap[b]? = w.heap[b]? := fun c b hc hck hb => by
    obtain ⟨_, h1, _⟩ := hrb c b hc hb
    exact (hg.block _ (by omega) (fun e => hT.apart c k hc hk hck b hb e.symm)).trans (hW.block _ h1)
  have hrne : ∀ c b, c ≤ i → (vs c).ownBlock = some b → b ≠ bl k := fun c b hc hb e => by
    obtain ⟨_, _, cur, h2⟩ := hrb c b hc hb
    rw [e] at h2
    exact row_ne (hWb k hk) h2 rfl
  have hmap : ∀ (L : List Nat), (∀ c ∈ L, c ≤ i) → L.map (ptB (blU bl (i + 1) nb)) = L.map (ptB bl) := fun L hL => List.map_congr_left fun c hc => by
    have := hL c hc
    unfold ptB blU
    rw [if_neg (by omega)]
  have hmem : ∀ c d, c ∈ bC F i d → c ≤ i := fun c d hc => by
    obtain ⟨j, rfl, hj, _⟩ := bC_mem hc
    omega
  refine ⟨⟨fun c hc => ?_, fun c hc => ?_, fun c d hc hd e => ?_, fun c d hc hd hcd b hb => ?_⟩, ?_⟩
  · by_cases e : c = i + 1
    · subst e
      have e1 : blU bl (i + 1) nb (i + 1) = nb := by unfold blU; rw [if_pos rfl]
      have e2 : vsU vs (i + 1) k v' (i + 1) = .slice none 0 0 := by unfold vsU; rw [if_neg (by omega), if_pos rfl]
      rw [e1, e2]
      exact ⟨by omega, by rw [heap_setCell_other _ _ _ _ (by show nb ≠ bl k; have := hne k hk; omega)]; exact h3n⟩
    · have hci : c ≤ i := by omega
      have e1 : blU bl (i + 1) nb c = bl c := by unfold blU; rw [if_neg e]
      rw [e1]
      refine ⟨(hT.blk c hci).1, ?_⟩
      by_cases ek : c = k
      · subst ek
        have e2 : vsU vs (i + 1) c v' c = v' := by unfold vsU; rw [if_pos rfl]
        rw [e2]
        exact heap_setCell_same _ _ _ _ _ _ (h3b c hci)
      · have e2 : vsU vs (i + 1) k v' c = vs c := by unfold vsU; rw [if_neg ek, if_neg e]
        rw [e2, heap_setCell_other _ _ _ _ (by show bl c ≠ bl k; exact fun h => ek (hT.inj c k hci hk h))]
        exact h3b c hci
  · by_cases e : c = i + 1
    · subst e
      have e2 : vsU vs (i + 1) k v' (i + 1) = .slice none 0 0 := by unfold vsU; rw [if_neg (by omega), if_pos rfl]
      have e3 : bC F (i + 1) (i + 1) = [] := by
        apply List.eq_nil_iff_forall_not_mem.2
        intro x hx
        by_cases hz : bU F i = i + 1
        · omega
        · rw [bC_no hz] at hx
          obtain ⟨j, rfl, hj, hju⟩ := bC_mem hx
          unfold bU at hju
          split at hju
          · rename_i hex
            have := (Classical.choose_spec hex).1
            omega
          · omega
      rw [e2, e3]
      exact World.ownsRow_nil _ _ _ _
    · have hci : c ≤ i := by omega
      by_cases ek : c = k
      · subst ek
        have e2 : vsU vs (i + 1) c v' c = v' := by unfold vsU; rw [if_pos rfl]
        have e3 : bC F (i + 1) c = bC F i c ++ [i + 1] := bC_yes hu
        rw [e2, e3, List.length_append, List.map_append, hmap _ (fun x hx => hmem x c hx)]
        have e4 : [i + 1].map (ptB (blU bl (i + 1) nb)) = [.pointer (some ⟨nb, 0, none⟩)] := by
          show [ptB (blU bl (i + 1) nb) (i + 1)] = _
          unfold ptB blU
          rw [if_pos rfl]
        rw [e4]
        exact owns_row_ofG ho fun b hb => heap_setCell_other _ _ _ _ (by
          show b ≠ bl c
          intro h
          obtain ⟨_, cur, h2⟩ := hvb b hb
          rw [h] at h2
          exact row_ne (h3b c hci) h2 rfl)
      · have e2 : vsU vs (i + 1) k v' c = vs c := by unfold vsU; rw [if_neg ek, if_neg e]
        rw [e2, bC_no (by rw [hu]; exact fun h => ek h.symm), hmap _ (fun x hx => hmem x c hx)]
        exact owns_row_ofG (hT.row c hci) fun b hb => by
          rw [heap_setCell_other _ _ _ _ (by show b ≠ bl k; exact hrne c b hci hb)]
          exact hrow3 c b hci ek hb
  · unfold blU at e
    by_cases e1 : c = i + 1
    · by_cases e2 : d = i + 1
      · omega
      · rw [if_pos e1, if_neg e2] at e
        exact absurd e.symm (hne d (by omega))
    · by_cases e2 : d = i + 1
      · rw [if_neg e1, if_pos e2] at e
        exact absurd e (hne c (by omega))
      · rw [if_neg e1, if_neg e2] at e
        exact hT.inj c d (by omega) (by omega) e
  · unfold vsU at hb ⊢
    by_cases ck : c = k
    · rw [if_pos ck] at hb
      rw [if_neg (by omega)]
      by_cases di : d = i + 1
      · rw [if_pos di]; intro h; cases h
      · rw [if_neg di]
        intro h
        have hdi : d ≤ i := by omega
        rcases hf b hb with h2 | h2
        · exact hT.apart d k hdi hk (by omega) b h h2
        · obtain ⟨_, h3, _⟩ := hrb d b hdi h
          omega
    · rw [if_neg ck] at hb
      by_cases ci : c = i + 1
      · rw [if_pos ci] at hb; cases hb
      · rw [if_neg ci] at hb
        have hci : c ≤ i := by omega
        by_cases dk : d = k
        · rw [if_pos dk]
          intro h
          rcases hf b h with h2 | h2
          · exact hT.apart c k hci hk ck b hb h2
          · obtain ⟨_, h3, _⟩ := hrb c b hci hb
            omega
        · rw [if_neg dk]
          by_cases di : d = i + 1
          · rw [if_pos di]; intro h; cases h
          · rw [if_neg di]
            exact hT.apart c d hci (by omega) hcd b hb
  · exact ((hW.mono hB).grown hg (Nat.le_trans hB hsz) (fun b hb => (hrb k b hk hb).1)).setCell (p := ⟨bl k, 5, none⟩) (hT.blk k hk).1 v'
set_option maxRecDepth 100000 in
set_option maxHeartbeats 1000000 in
theorem namesC_any (s : ByteArray) (w : World) (hs : s.size ≤ 4294967000) (hm : MxL w) :
    Calls Tryd.prog 24 #[.string s] w fun e w' => (∃ g c, e = .returned (.slice (some ⟨g, 0, none⟩) (pcsB s).length c) ∧ (pcsB s).length ≤ c ∧ w.heap.size ≤ g ∧ StRow w' g (pcsB s)) ∧ Below w.heap.size w w' := by
  have hN : (pcsB s).length ≤ min 7 (s.size + 1) := by
    have := Lib.splitB_length_le ⟨#[47]⟩ 0 (min 7 (s.size + 1) - 1) s
    unfold pcsB; omega
  obtain ⟨m, hm⟩ := hm
  have HS : Hid (Calls Tryd.prog 55 #[.string s, .string ⟨#[47]⟩, .int .i64 7] w fun e w' => e = .returned (.slice (some ⟨w.heap.size, 0, none⟩) (pcsB s).length (min 7 (s.size + 1))) ∧ w' = w.alloc (.cells (Lib.cellsOf (pcsB s) (min 7 (s.size + 1))) 9)) :=
    Tryd.strings_SplitN s ⟨#[47]⟩ 7 m w (by omega) hm (by decide) (by decide) (by decide)
  go_enter Tryd.func24, Tryd.ntmps24
  go_wp2_with fail
  refine HS.out.mono ?_
  rintro e w1 ⟨rfl, hw⟩
  go_wp2_with fail
  go_ret
  subst hw
  exact ⟨⟨_, _, rfl, hN, Nat.le_refl _, strow_new w _ _ _ hN⟩, (Below.refl _ _).alloc (Nat.le_refl _) _⟩
theorem StRow.front {w : World} {g : Nat} {P : List ByteArray} (h : StRow w g P) : StRow w g P.dropLast :=
  ⟨h.lt, fun i hi => by
    have h1 : i < P.length := by rw [List.length_dropLast] at hi; omega
    rw [h.c i h1, List.getElem_dropLast]⟩
/-- where a right node's parent leads -/
theorem bF_must {F : Nat → NdI} {i : Nat} (h : trV F (i + 1)) : ∃ k, bF F i (pcsB (F i).p).dropLast = some k ∧ (bN F k).r = true := by
  obtain ⟨k, hk, e, hr⟩ := bP_up h (show i < i + 1 by omega)
  exact ⟨k, bF_some (trV_le h (by omega)) hk e, hr⟩
theorem trV_next {F : Nat → NdI} {i k : Nat} (h : trV F i) (hok : ndOk (F i)) (hri : ndRise F i) (hf : bF F i (pcsB (F i).p).dropLast = some k) (hr : (bN F k).r = true) : trV F (i + 1) ∧ bU F i = k ∧ k ≤ i := by
  obtain ⟨hk, he⟩ := bF_inv hf
  have hup : ndUp F i := by
    rcases par_pcs hok.1 with ⟨e1, _⟩ | ⟨p1, p2, p3, _⟩
    · exact Or.inl e1
    · right
      match k, hk, he, hr with
      | 0, _, he, _ =>
        have h0 := (pcs_pos p1).1
        rw [p2, ← he] at h0
        exact absurd h0 (by simp [bP])
      | j + 1, hk, he, hr =>
        have he2 : pcsB (F j).p = pcsB (parB (F i).p) := he.trans p2.symm
        exact ⟨j, by omega, pcs_inj (h j (by omega)).1.1 he2, hr⟩
  refine ⟨fun j hj => ?_, bU_of hk h he, hk⟩
  by_cases e : j < i
  · exact h j e
  · obtain rfl : j = i := by omega
    exact ⟨hok, hri, hup⟩
end Go.Proofs.YtbmcjoaigajjkaaDoor
