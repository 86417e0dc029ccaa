/-
  A disk that is worked on: synced; Sync of the code.
-/
import Derived.Test.YtanlggglbpibfaaFsP
namespace Go.Proofs.Ytanlggglbpibfaa
open Go.RowKit
set_option linter.unusedVariables false
set_option linter.unusedSimpArgs false
theorem FsW.putW {W : World} {lo wd p mb n : Nat} {L : List FlI} {V : ByteArray → Value} {C : Array Value} (h : FsW W lo p mb L V n) (hw : W.heap[wd]? = some (.cells C 94 (0, 0))) (hp : wd ≠ p) (hm : wd ≠ mb) (j : Nat) (u : Value) : FsW (W.setCell ⟨wd, j, none⟩ u) lo p mb L V n := by
  refine ⟨(heap_setCell_other _ _ _ _ hp.symm).trans h.box, h.map.same (heap_setCell_other _ _ _ _ hm.symm), h.rise, h.rows.keep fun f hf k hk => heap_setCell_other _ _ _ _ (fun c => ?_), h.base⟩
  have c : k = wd := c
  subst c
  obtain ⟨_, cur3, h8⟩ := (h.rows.rows f hf).at hk
  rw [hw] at h8
  injection h8 with h8
  injection h8 with _ h8 _
  exact absurd h8 (by decide)
set_option maxRecDepth 100000 in
set_option maxHeartbeats 2000000 in
theorem wsync_any {lo wd p mb : Nat} {vS vO : Value} {L : List FlI} {O : List DqI} (w : World) (h : WdW w lo wd p mb vS vO L O) (hl : L.length ≤ 1000000) (hL : FlLe L) (hlo : lo ≤ w.heap.size) :
    Calls Try.prog 53 #[.pointer (some ⟨wd, 0, none⟩)] w fun e w' => e = .returned (.tuple #[]) ∧ (∃ v, WdW w' lo wd p mb v (.slice none 0 0) L [] ∧ FlV w' v L) ∧ Below lo w w' := by
  obtain ⟨V, hF⟩ := h.set
  have HNE : Hid (wd ≠ p ∧ wd ≠ mb ∧ lo ≤ wd ∧ lo ≤ w.heap.size) := ⟨h.np, (by
    rintro rfl
    obtain ⟨D, ⟨es, clock, hb, _⟩, _⟩ := hF.map
    have hx := h.box
    rw [hb] at hx
    injection hx with hx
    cases hx), h.base, hlo⟩
  have HLI : Hid (∀ w' V, FsW w' lo p mb L V (sumD L) → Calls Try.prog 51 #[.pointer (some ⟨p, 0, none⟩)] w' (FlAns w' L)) := fun w' V hf => list15_any w' hf hl (fun f hf => by have := (hL.sz f hf).1; omega)
  obtain ⟨SS, hS⟩ : ∃ SS : World → Prop, SS = fun w' => Below lo w w' ∧ (∃ V, FsW w' lo p mb L V (sumD L)) ∧ ∃ y z, w'.heap[wd]? = some (.cells #[.pointer (some ⟨p, 0, none⟩), y, z] 94 (0, 0)) := ⟨_, rfl⟩
  have hSd : SS w := by
    rw [hS]
    exact ⟨Below.refl _ _, ⟨V, hF⟩, _, _, h.box⟩
  have HSX : Hid (∀ w', SS w' → w'.cell? ⟨wd, 0, none⟩ = some (.pointer (some ⟨p, 0, none⟩))) := fun w' hq => by
    rw [hS] at hq
    obtain ⟨_, _, y, z, hq⟩ := hq
    exact cell_of_row _ _ 0 _ _ _ hq
  have HSI : Hid (∀ w' w'', SS w' → Below w'.heap.size w' w'' → SS w'') := fun w' w'' h1 hb => by
    rw [hS] at h1 ⊢
    obtain ⟨h1, ⟨V, h2⟩, y, z, h3⟩ := h1
    exact ⟨blFl h1 hb (Nat.le_trans HNE.out.2.2.2 h1.size), ⟨V, h2.under hb⟩, y, z, (hb.block _ (Array.getElem?_eq_some_iff.1 h3).1).trans h3⟩
  have HSE : Hid (∀ w', SS w' → Below lo w w' ∧ (∃ V, FsW w' lo p mb L V (sumD L)) ∧ ∃ y z, w'.heap[wd]? = some (.cells #[.pointer (some ⟨p, 0, none⟩), y, z] 94 (0, 0))) := fun w' h => by rw [hS] at h; exact h
  have HS1 : Hid (∀ w' u, SS w' → SS (w'.setCell ⟨wd, 1, none⟩ u)) := fun w' u h => by
    rw [hS] at h ⊢
    obtain ⟨h1, ⟨V, h2⟩, y, z, h3⟩ := h
    exact ⟨h1.setCell (p := ⟨wd, 1, none⟩) HNE.out.2.2.1 _, ⟨V, h2.putW h3 HNE.out.1 HNE.out.2.1 _ _⟩, u, z, heap_setCell_same _ _ _ _ _ _ h3⟩
  have HS2 : Hid (∀ w' u, SS w' → SS (w'.setCell ⟨wd, 2, none⟩ u)) := fun w' u h => by
    rw [hS] at h ⊢
    obtain ⟨h1, ⟨V, h2⟩, y, z, h3⟩ := h
    exact ⟨h1.setCell (p := ⟨wd, 2, none⟩) HNE.out.2.2.1 _, ⟨V, h2.putW h3 HNE.out.1 HNE.out.2.1 _ _⟩, y, u, heap_setCell_same _ _ _ _ _ _ h3⟩
  clear hS hF h hL
  go_enter Try.func53, Try.ntmps53
  have q1 := HSX.out _ hSd
  obtain ⟨_, ⟨V2, hF2⟩, _⟩ := HSE.out _ hSd
  have hli := HLI.out _ V2 hF2
  clear hF2 HLI
  go_wp2_with fail
  refine hli.mono ?_
  rintro e w3 ⟨va, rfl, hwa⟩
  obtain ⟨ga, ca, rfl⟩ := ownF_slice hwa.own
  have HWA := hidF hwa
  have hS3 := HSI.out _ _ hSd hwa.bel
  obtain ⟨_, _, y0, z0, hr3⟩ := HSE.out _ hS3
  have hS4 := HS1.out _ (.slice ga L.length ca) hS3
  have hS5 := HS2.out _ (.slice none 0 0) hS4
  obtain ⟨hb5, hf5, _⟩ := HSE.out _ hS5
  have HR5 : Hid (((w3.setCell ⟨wd, 1, none⟩ (.slice ga L.length ca)).setCell ⟨wd, 2, none⟩ (.slice none 0 0)).heap[wd]? = some (.cells #[.pointer (some ⟨p, 0, none⟩), .slice ga L.length ca, .slice none 0 0] 94 (0, 0))) := heap_setCell_same _ _ _ _ _ _ (heap_setCell_same _ _ _ _ _ _ hr3)
  have hwl := hwa.bel
  have hwo := HSE.out _ hSd
  have HV5 : Hid (FlV ((w3.setCell ⟨wd, 1, none⟩ (.slice ga L.length ca)).setCell ⟨wd, 2, none⟩ (.slice none 0 0)) (.slice ga L.length ca) L) := (FlV.of_own hwa.own).keep fun k hk => by
    have hk1 := (hwa.own.lt k hk).1
    have hk2 : wd < w.heap.size := by obtain ⟨_, _, _, _, h⟩ := hwo; exact (Array.getElem?_eq_some_iff.1 h).1
    exact (heap_setCell_other _ _ _ _ (by show k ≠ wd; omega)).trans (heap_setCell_other _ _ _ _ (by show k ≠ wd; omega))
  have HE : Hid ((∃ v, WdW ((w3.setCell ⟨wd, 1, none⟩ (.slice ga L.length ca)).setCell ⟨wd, 2, none⟩ (.slice none 0 0)) lo wd p mb v (.slice none 0 0) L [] ∧ FlV ((w3.setCell ⟨wd, 1, none⟩ (.slice ga L.length ca)).setCell ⟨wd, 2, none⟩ (.slice none 0 0)) v L) ∧ Below lo w ((w3.setCell ⟨wd, 1, none⟩ (.slice ga L.length ca)).setCell ⟨wd, 2, none⟩ (.slice none 0 0))) := ⟨⟨_, ⟨HR5.out, hf5, World.ownsRow_nil _ _ _ _, HNE.out.2.2.1⟩, HV5.out⟩, hb5⟩
  have c1 := cell_of_row _ _ 1 _ _ _ hr3
  have f1 := frozen_of_row _ _ 1 _ _ hr3
  have c2 := cell_of_row _ _ 2 _ _ _ hr3
  have f2 := frozen_of_row _ _ 2 _ _ hr3
  clear hr3 hS4 hS5 hS3 hSd hb5 hf5 hwl hwo HV5 HR5 HWA hwa q1 HSX HSI HSE HS1 HS2
  go_wp2_with fail
  go_end0
  exact ⟨rfl, HE.out⟩
end Go.Proofs.Ytanlggglbpibfaa
