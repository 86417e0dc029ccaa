/-
  Under: the code.
-/
import Derived.Test.YtfegoldjejlcaaaDoorUnG
import Derived.Test.YtfegoldjejlcaaaDoorUnSo
import Derived.Laws.EntriesVeiled
namespace Go.Proofs.YtfegoldjejlcaaaDoor
open Go.RowKit
set_option linter.unusedVariables false
set_option linter.unusedSimpArgs false
open Classical in
noncomputable def unA (F : Nat → NdI) (n : Nat) (s : ByteArray) : List NdI := if ndR F n then uf F s n else []
theorem unA_yes {F : Nat → NdI} {n : Nat} {s : ByteArray} (h : ndR F n) : unA F n s = uf F s n := by unfold unA; rw [if_pos h]
theorem unA_no {F : Nat → NdI} {n : Nat} {s : ByteArray} (h : ¬ ndR F n) : unA F n s = [] := by unfold unA; rw [if_neg h]
theorem unA_len (F : Nat → NdI) (n : Nat) (s : ByteArray) : (unA F n s).length ≤ 40 := by
  by_cases h : ndR F n
  · rw [unA_yes h]
    have := uf_len F s n
    have := h.1
    omega
  · rw [unA_no h]; exact Nat.zero_le _
theorem own_baseU {w : World} {B C z : Nat} {e : TypeId} {v : Value} {n : Nat} {xs : List Value} (h : w.ownsRow B e z v n xs) (hC : C ≤ B) : w.ownsRow C e z v n xs := by
  obtain ⟨h0, h1 | ⟨g, cap, cur, h1, h2, h3⟩⟩ := h
  · exact ⟨h0, Or.inl h1⟩
  · exact ⟨h0, Or.inr ⟨g, cap, cur, h1, Nat.le_trans hC h2, h3⟩⟩
set_option maxRecDepth 100000 in
set_option maxHeartbeats 8000000 in
theorem und_any (v : Value) (n : Nat) (F : Nat → NdI) (s : ByteArray) (w : World) (hm : MxL w) (hF : NdLe F n) (hs : s.size ≤ 1048576) (h : NdArg w v n F) :
    Calls Tryd.prog 11 #[v, .string s] w fun e w' => (∃ v, e = .returned v ∧ w'.ownsRow w.heap.size 30 4 v (unA F n s).length (ndC (unA F n s))) ∧ Below w.heap.size w w' := by
  obtain ⟨a, c, rfl, _⟩ := (⟨h.choose, h.choose_spec.choose, h.choose_spec.choose_spec.1, trivial⟩ : ∃ a c, v = .slice a n c ∧ True)
  have HMX : Hid (∀ w', Below w.heap.size w w' → MxL w') := fun w' h => hm.on h
  have HPA : Hid (Calls Tryd.prog 41 #[.slice a n c] w fun e w' => PlP w F n e w') := planted_any _ n F w hF hm h
  have HNM : Hid (∀ w, MxL w → Calls Tryd.prog 43 #[.string s] w fun e w' => (∃ g c, e = .returned (.slice (some ⟨g, 0, none⟩) (pcsB s).length c) ∧ (pcsB s).length ≤ c ∧ w.heap.size ≤ g ∧ StRow w' g (pcsB s)) ∧ Below w.heap.size w w') := fun w h2 => namesC_any s w (by omega) h2
  have HFF := hidT hF
  clear h hm hF hs
  go_enter Tryd.func11, Tryd.ntmps11
  go_wp2_with fail
  refine HPA.out.mono ?_
  rintro e w1 ⟨⟨hr, bl, vs, rfl, ht⟩ | ⟨hr, rfl⟩, hb1⟩
  · have HB1 := hidT hb1
    have HR1 := hidT hr
    have HT1 := hidT ht
    have HUA : Hid (unA F n s = uf F s n) := unA_yes hr
    clear ht hr hb1 HPA
    go_wp2_with fail
    refine (HNM.out _ (HMX.out _ HB1.out)).mono ?_
    rintro e w2 ⟨⟨g, c2, rfl, _, _, hrow⟩, hb2⟩
    have HB2 := hidT (blNd HB1.out hb2 HB1.out.size)
    have HT2 := hidT (HT1.out.below hb2)
    have HFD := hidT (find_any F n bl vs w.heap.size g c2 (pcsB s) w2 HR1.out.1 HR1.out.2 HT2.out hrow (pcsB_len s))
    clear hb2 hrow HT1 HB1
    go_wp2_with fail
    refine HFD.out.mono ?_
    rintro e w3 ⟨rfl, hb3⟩
    have HB3 := hidT (blNd HB2.out hb3 HB2.out.size)
    have HT3 := hidT (HT2.out.below hb3)
    clear hb3 HT2 HFD HB2
    rcases bF_path HR1.out.2 (s := s) with ⟨j, hj, hjs, hf⟩ | ⟨hno, hf⟩
    · rw [hf, show ptO bl (some (j + 1)) = .pointer (some ⟨bl (j + 1), 0, none⟩) from rfl]
      have HJ := hidT (And.intro hj hjs)
      have hd6 : 6 ≤ (bP F (j + 1)).length + 6 := by omega
      have hgl := gth_len HR1.out.2 6 (j + 1) (by omega) hd6
      have hn40 := HR1.out.1
      have HGL : Hid ((gth F n 6 (j + 1)).length ≤ 60) := by show _ ≤ _; omega
      have HGA := hidT (gather_any F n bl vs w.heap.size w3.heap.size (w3.heap.size + 1) w3 HFF.out HR1.out.1 HR1.out.2 HT3.out 6 (j + 1) (by omega) (by omega) hd6 (.slice none 0 0) [])
      generalize bl (j + 1) = bj at HGA ⊢
      clear hf hj hjs hd6 hgl hn40
      obtain ⟨nb, hnb⟩ : ∃ nb, nb = w3.heap.size := ⟨_, rfl⟩
      have e1 := heap_alloc_new (w3.alloc (.cells #[.slice none 0 0] 24)) (.cells #[(.func (.func 44) #[] #[.pointer (some ⟨w3.heap.size, 0, none⟩), .pointer (some ⟨w3.heap.size + 1, 0, none⟩)])] 64)
      rw [World.size_alloc] at e1
      have e0 : ((w3.alloc (.cells #[.slice none 0 0] 24)).alloc (.cells #[(.func (.func 44) #[] #[.pointer (some ⟨w3.heap.size, 0, none⟩), .pointer (some ⟨w3.heap.size + 1, 0, none⟩)])] 64)).heap[w3.heap.size]? = some (.cells #[.slice none 0 0] 24 (0, 0)) := by
        rw [Below.heap_alloc _ _ _ (by simp)]; exact heap_alloc_new w3 _
      have hbl : Below w3.heap.size w3 ((w3.alloc (.cells #[.slice none 0 0] 24)).alloc (.cells #[(.func (.func 44) #[] #[.pointer (some ⟨w3.heap.size, 0, none⟩), .pointer (some ⟨w3.heap.size + 1, 0, none⟩)])] 64)) := ((Below.refl _ _).alloc (Nat.le_refl _) _).alloc (by simp) _
      have HLN : Hid (([] : List NdI).length + (gth F n 6 (j + 1)).length ≤ 1000) := by
        have := HGL.out
        show 0 + _ ≤ _
        omega
      have HG0 : Hid (GT w3 ((w3.alloc (.cells #[.slice none 0 0] 24)).alloc (.cells #[(.func (.func 44) #[] #[.pointer (some ⟨w3.heap.size, 0, none⟩), .pointer (some ⟨w3.heap.size + 1, 0, none⟩)])] 64)) w3.heap.size (w3.heap.size + 1) (.slice none 0 0) []) :=
        ⟨hbl, e0, e1, World.ownsRow_nil _ _ _ _, Nat.le_refl _, by omega, by omega⟩
      have HC0 := hidT (HGA.out _ HG0.out HLN.out)
      clear e1 e0 hbl hnb HGA
      have f1 : ((w3.alloc (.cells #[.slice none 0 0] 24)).alloc (.cells #[(.func (.func 44) #[] #[.pointer (some ⟨w3.heap.size, 0, none⟩), .pointer (some ⟨w3.heap.size + 1, 0, none⟩)])] 64)).cell? ⟨w3.heap.size + 1, 0, none⟩ = some ((.func (.func 44) #[] #[.pointer (some ⟨w3.heap.size, 0, none⟩), .pointer (some ⟨w3.heap.size + 1, 0, none⟩)])) := cell_of_row _ _ 0 _ _ _ HG0.out.fn
      go_wp2_with fail
      refine HC0.out.mono ?_
      rintro e w5 ⟨rfl, v5, hg5⟩
      rw [List.nil_append] at hg5
      have G5 := hidT hg5
      have HLM : Hid (((gth F n 6 (j + 1)).map (bN F)).length ≤ 60) := by
        show _ ≤ _
        rw [List.length_map]
        exact HGL.out
      obtain ⟨M, hM⟩ : ∃ M, M = (gth F n 6 (j + 1)).map (bN F) := ⟨_, rfl⟩
      have HM := hidT hM
      rw [← hM] at G5 HLM
      clear hg5 f1 HC0 HG0 hM
      have c5 : w5.cell? ⟨w3.heap.size, 0, none⟩ = some v5 := cell_of_row _ _ 0 _ _ _ G5.out.box
      have HSO := hidT (sortN_any v5 M w3.heap.size w5 HLM.out G5.out.own)
      have HNB : Hid (some w3.heap.size ≠ v5.ownBlock) := fun e => by
        obtain ⟨cur, hc⟩ := own_type G5.out.own e.symm
        rw [G5.out.box] at hc
        have := Option.some.inj hc
        injection this with _ h2
        exact absurd h2 (by decide)
      go_wp2_with fail
      refine HSO.out.mono ?_
      rintro e w6 ⟨rfl, ⟨L', hp, hso, ho⟩, hb6, hg6⟩
      have c6 : w6.cell? ⟨w3.heap.size, 0, none⟩ = some v5 := cell_of_row _ _ 0 _ _ _ ((hg6.block _ (Array.getElem?_eq_some_iff.1 G5.out.box).1 HNB.out).trans G5.out.box)
      have HB6 := hidT (blNd HB3.out (hb6 _ _ (Nat.le_refl _) G5.out.bel) HB3.out.size)
      have HE : Hid (unA F n s = L') := by
        show _ = _
        rw [HUA.out]
        exact (uf_unP HR1.out.2).one (unP_of HR1.out.2 HJ.out.1 HJ.out.2 (by rw [← HM.out]; exact hp) hso)
      have hl := hp.length_eq
      rw [← hl] at ho
      have HO6 := hidT (own_baseU ho HB3.out.size)
      clear hp hso ho hb6 hg6 hl c5 HSO G5
      go_wp2_with fail
      go_ret
      exact ⟨⟨_, rfl, by rw [HE.out]; exact HO6.out⟩, HB6.out⟩
    · rw [hf, show ptO bl none = .pointer none from rfl]
      have HUN : Hid (unA F n s = []) := by
        show _ = _
        rw [HUA.out]
        exact uf_none HR1.out.2 hno
      clear hno hf
      go_wp2_with fail
      go_ret
      exact ⟨⟨_, rfl, by rw [HUN.out]; exact World.ownsRow_nil _ _ _ _⟩, HB3.out⟩
  · have HB1 := hidT hb1
    have HUN : Hid (unA F n s = []) := unA_no hr
    clear hr hb1
    go_wp2_with fail
    go_ret
    exact ⟨⟨_, rfl, by rw [HUN.out]; exact World.ownsRow_nil _ _ _ _⟩, HB1.out⟩
end Go.Proofs.YtfegoldjejlcaaaDoor
