/-
  A set of files: a file is gone.
-/
import Derived.Test.YtanlggglbpibfaaFsC
import Derived.Test.YtanlggglbpibfaaHeld
namespace Go.Proofs.Ytanlggglbpibfaa
open Go.RowKit
open Go.Maps (Keyed)
set_option linter.unusedVariables false
set_option linter.unusedSimpArgs false
/-- all else is as it was -/
structure FrK (w w' : World) (lo p mb : Nat) : Prop where
  bel : Below lo w w'
  keep : ∀ k, k < w.heap.size → k ≠ p → k ≠ mb → w'.heap[k]? = w.heap[k]?
theorem FrK.trans {a b c : World} {lo p mb : Nat} (h : FrK a b lo p mb) (k : FrK b c lo p mb) : FrK a c lo p mb :=
  ⟨h.bel.trans k.bel, fun i hi h1 h2 => (k.keep i (Nat.lt_of_lt_of_le hi h.bel.size) h1 h2).trans (h.keep i hi h1 h2)⟩
theorem FrK.of_below {w w' : World} {lo p mb : Nat} (h : Below w.heap.size w w') (hlo : lo ≤ w.heap.size) : FrK w w' lo p mb := ⟨h.mono hlo, fun k hk _ _ => h.block k hk⟩
/-- from lo on things may turn; but no row of cells that are no bytes, nor p -/
structure BF (lo p : Nat) (w w' : World) : Prop where
  bel : Below lo w w'
  fr : ∀ (k : Nat) (cs : Array Value) (t : TypeId), w.heap[k]? = some (.cells cs t (0, 0)) → t ≠ 5 → k ≠ p → w'.heap[k]? = some (.cells cs t (0, 0))
theorem BF.of_below {lo p : Nat} {w w' : World} (h : Below w.heap.size w w') (hlo : lo ≤ w.heap.size) : BF lo p w w' := ⟨h.mono hlo, fun k cs t hk _ _ => (h.block k (Array.getElem?_eq_some_iff.1 hk).1).trans hk⟩
theorem BF.trans {lo p : Nat} {a b c : World} (h : BF lo p a b) (k : BF lo p b c) : BF lo p a c := ⟨h.bel.trans k.bel, fun i cs t h1 h2 h3 => k.fr i cs t (h.fr i cs t h1 h2 h3) h2 h3⟩
theorem BF.drew {lo p : Nat} {w w' : World} (h : BF lo p w w') : BF lo p w w'.drew := ⟨h.bel.drew, h.fr⟩
theorem FrK.bf {w w' : World} {lo p mb n : Nat} {L : List FlI} {V : ByteArray → Value} (h : FrK w w' lo p mb) (hF : FsW w lo p mb L V n) : BF lo p w w' :=
  ⟨h.bel, fun k cs t h1 _ h3 => (h.keep k (Array.getElem?_eq_some_iff.1 h1).1 h3 (by
    rintro rfl
    obtain ⟨D, ⟨es, clock, hb, _⟩, _⟩ := hF.map
    rw [hb] at h1
    injection h1 with h1
    cases h1)).trans h1⟩
theorem FsW.heap {W W' : World} {lo p mb : Nat} {L : List FlI} {V : ByteArray → Value} {n : Nat} (h : FsW W lo p mb L V n) (he : W'.heap = W.heap) : FsW W' lo p mb L V n :=
  ⟨by rw [he]; exact h.box, h.map.same (by rw [he]), h.rise, h.rows.keep fun f hf k hk => by rw [he], h.base⟩
theorem rowB.slice {W : World} {lo : Nat} {v : Value} {d : ByteArray} (h : rowB W lo v d) : ∃ a c, v = .slice a d.size c := by
  obtain ⟨_, ⟨h0, hn⟩ | ⟨g, cap, cur, h1, h2, h3, _⟩⟩ := h
  · exact ⟨none, 0, by rw [h0, hn]⟩
  · exact ⟨_, _, h1⟩
theorem cell_set_else (X : World) (p i j : Nat) (v : Value) (h : i ≠ j) : (X.setCell ⟨p, i, none⟩ v).cell? ⟨p, j, none⟩ = X.cell? ⟨p, j, none⟩ := World.cell?_setCell_other X ⟨p, i, none⟩ ⟨p, j, none⟩ v (fun c => h (by injection c))
theorem FsW.plt {W : World} {lo p mb : Nat} {L : List FlI} {V : ByteArray → Value} {n : Nat} (h : FsW W lo p mb L V n) : p < W.heap.size ∧ mb < W.heap.size := ⟨(Array.getElem?_eq_some_iff.1 h.box).1, h.map.lt⟩
/-- a number is stored, all else as it was -/
theorem FsW.numK {w X : World} {lo p mb : Nat} {L : List FlI} {V : ByteArray → Value} {n n' : Nat} (h : FsW w lo p mb L V n) (he : X.heap = w.heap) (hb : Below w.heap.size w X) : FsW (X.setCell ⟨p, 1, none⟩ (.int .i64 (n' : Int))) lo p mb L V n' ∧ FrK w (X.setCell ⟨p, 1, none⟩ (.int .i64 (n' : Int))) lo p mb := by
  have hl := h.plt
  have hlo : lo ≤ w.heap.size := by have := h.base.1; omega
  refine ⟨(h.heap he).num, ⟨(hb.mono hlo).setCell (p := ⟨p, 1, none⟩) h.base.1 _, fun k hk h1 h2 => ?_⟩⟩
  rw [heap_setCell_other _ _ _ _ h1]
  exact hb.block k hk
set_option maxRecDepth 100000 in
set_option maxHeartbeats 1500000 in
theorem rem15_yes {lo p mb n n9 : Nat} {L : List FlI} {V : ByteArray → Value} (s d : ByteArray) (w : World) (h : FsW w lo p mb L V n) (hs : s.size ≤ 1500000) (hf : fdF L s = some d) (hn : n ≤ 100000000) (hn9 : n9 + d.size = n) :
    Calls Try.prog 85 #[.pointer (some ⟨p, 0, none⟩), .string s] w fun e w' => e = .returned (.tuple #[]) ∧ FsW w' lo p mb (cutF L s) V n9 ∧ FrK w w' lo p mb := by
  obtain ⟨S, hS⟩ : ∃ S : World → Prop, S = fun w' => w'.cell? ⟨p, 0, none⟩ = some (.map (some mb)) ∧ w'.heap[mb]? = w.heap[mb]? := ⟨_, rfl⟩
  have c0 := cell_of_row _ _ 0 _ _ _ h.box
  have c1 := cell_of_row _ _ 1 _ _ _ h.box
  have z1 := frozen_of_row w p 1 _ _ h.box
  have hSd : S w.drew := by rw [hS]; exact ⟨c0, rfl⟩
  have HC1 : Hid (w.cell? ⟨p, 1, none⟩ = some (.int .i64 (n : Int))) := c1
  have HZ1 := hidF z1
  obtain ⟨sa, sc, hvs⟩ := (h.look_yes hs hf).2.slice
  have HSX : Hid (∀ w', S w' → w'.cell? ⟨p, 0, none⟩ = some (.map (some mb)) ∧ (Instr.lookup 96 (.map (some mb)) (.string s) false).run Try.prog w' = .ok (.slice sa d.size sc) w') := fun w' hq => by
    rw [hS] at hq
    refine ⟨hq.1, ?_⟩
    have := ((h.map.same hq.2).look_yes strK15 Try.underlying96 (zero15 w') (keyS hs) (by rw [fsf_key, hf]; rfl) (v := V s)).2
    rw [hvs] at this
    exact this
  have HFN : Hid (∀ X : World, X.heap = w.heap → Below w.heap.size w X → FsW (X.setCell ⟨p, 1, none⟩ (.int .i64 (n9 : Int))) lo p mb L V n9 ∧ FrK w (X.setCell ⟨p, 1, none⟩ (.int .i64 (n9 : Int))) lo p mb) := fun X he hb => h.numK he hb
  have HSN : Hid (∀ X : World, S X → S (X.setCell ⟨p, 1, none⟩ (.int .i64 (n9 : Int)))) := fun X hq => by
    rw [hS] at hq ⊢
    refine ⟨?_, (heap_setCell_other _ _ _ _ h.pm.symm).trans hq.2⟩
    have h0 := hq.1
    rw [← h0]
    exact cell_set_else X p 1 0 _ (by decide)
  have HDL : Hid (∀ W : World, FsW W lo p mb L V n9 → ∀ ty, ∃ W2, (Builtin.delete_ #[96, 9] ty #[.map (some mb), .string s]).run Try.prog W = .ok (.tuple #[]) W2 ∧ FsW W2 lo p mb (cutF L s) V n9 ∧ W.grownBy W2 (some mb)) := fun W hw ty => hw.gone hs ty
  have HBA := hidF h.base
  have HPL := hidF h.plt
  have hn8 : (n : Int) - (d.size : Int) = (n9 : Int) := by omega
  have hw8 : IntKind.i64.wrap ((n : Int) - (d.size : Int)) = (n9 : Int) := by rw [IntKind.wrap_i64]; omega
  clear c0 c1 z1 h hS
  go_enter Try.func85, Try.ntmps85
  go_wp2_with fail
  refine wp_region_held (S := S) (by kernel_rfl) ?_
  change wpAnyH _ _ _ _ _ _ _ _ (World.drew _)
  generalize hX : w.drew = X2 at hSd ⊢
  have HX2 : Hid (X2.heap = w.heap ∧ Below w.heap.size w X2) := by rw [← hX]; exact ⟨rfl, (Below.refl _ _).drew⟩
  clear hX
  refine wpAnyH_take (i := 0) (v := .pointer (some ⟨p, 0, none⟩)) rfl (by kernel_rfl) (by kernel_rfl) (by kernel_rfl) (fun _ _ _ h => h) (Or.inl ⟨by rfl, by intro w' hS'; go_simp <;> (first | omega | rfl | exact hw8 | (rw [IntKind.wrap_i64]; omega))⟩) hSd ?_
  (try simp only [List.getElem_toArray, List.getElem_cons_succ, List.getElem_cons_zero, Act.put, List.setIfInBounds_toArray, List.set_cons_zero, List.set_cons_succ])
  refine wpAnyH_take (i := 1) (v := .pointer (some ⟨p, 0, none⟩)) rfl (by kernel_rfl) (by kernel_rfl) (by kernel_rfl) (fun _ _ _ h => h) (Or.inl ⟨by rfl, by intro w' hS'; go_simp <;> (first | omega | rfl | exact hw8 | (rw [IntKind.wrap_i64]; omega))⟩) hSd ?_
  (try simp only [List.getElem_toArray, List.getElem_cons_succ, List.getElem_cons_zero, Act.put, List.setIfInBounds_toArray, List.set_cons_zero, List.set_cons_succ])
  refine wpAnyH_take (i := 2) (v := .pointer (some ⟨p, 1, none⟩)) rfl (by kernel_rfl) (by kernel_rfl) (by kernel_rfl) (fun _ _ _ h => h) (Or.inl ⟨by rfl, by intro w' hS'; go_simp <;> (first | omega | rfl | exact hw8 | (rw [IntKind.wrap_i64]; omega))⟩) hSd ?_
  (try simp only [List.getElem_toArray, List.getElem_cons_succ, List.getElem_cons_zero, Act.put, List.setIfInBounds_toArray, List.set_cons_zero, List.set_cons_succ])
  refine wpAnyH_take (i := 4) (v := .pointer (some ⟨p, 0, none⟩)) rfl (by kernel_rfl) (by kernel_rfl) (by kernel_rfl) (fun _ _ _ h => h) (Or.inl ⟨by rfl, by intro w' hS'; go_simp <;> (first | omega | rfl | exact hw8 | (rw [IntKind.wrap_i64]; omega))⟩) hSd ?_
  (try simp only [List.getElem_toArray, List.getElem_cons_succ, List.getElem_cons_zero, Act.put, List.setIfInBounds_toArray, List.set_cons_zero, List.set_cons_succ])
  refine wpAnyH_take (i := 5) (v := .pointer (some ⟨p, 0, none⟩)) rfl (by kernel_rfl) (by kernel_rfl) (by kernel_rfl) (fun _ _ _ h => h) (Or.inl ⟨by rfl, by intro w' hS'; go_simp <;> (first | omega | rfl | exact hw8 | (rw [IntKind.wrap_i64]; omega))⟩) hSd ?_
  (try simp only [List.getElem_toArray, List.getElem_cons_succ, List.getElem_cons_zero, Act.put, List.setIfInBounds_toArray, List.set_cons_zero, List.set_cons_succ])
  refine wpAnyH_take (i := 6) (v := .pointer (some ⟨p, 0, none⟩)) rfl (by kernel_rfl) (by kernel_rfl) (by kernel_rfl) (fun _ _ _ h => h) (Or.inl ⟨by rfl, by intro w' hS'; go_simp <;> (first | omega | rfl | exact hw8 | (rw [IntKind.wrap_i64]; omega))⟩) hSd ?_
  (try simp only [List.getElem_toArray, List.getElem_cons_succ, List.getElem_cons_zero, Act.put, List.setIfInBounds_toArray, List.set_cons_zero, List.set_cons_succ])
  refine wpAnyH_take (i := 7) (v := .map (some mb)) rfl (by kernel_rfl) (by kernel_rfl) (by kernel_rfl) (fun _ _ _ h => h) (Or.inl ⟨by rfl, by intro w' hS'; have hxx := (HSX.out w' hS').1; go_simp <;> (first | omega | rfl | exact hw8 | (rw [IntKind.wrap_i64]; omega))⟩) hSd ?_
  (try simp only [List.getElem_toArray, List.getElem_cons_succ, List.getElem_cons_zero, Act.put, List.setIfInBounds_toArray, List.set_cons_zero, List.set_cons_succ])
  refine wpAnyH_take (i := 8) (v := .string s) rfl (by kernel_rfl) (by kernel_rfl) (by kernel_rfl) (fun _ _ _ h => h) (Or.inl ⟨by rfl, by intro w' hS'; go_simp <;> (first | omega | rfl | exact hw8 | (rw [IntKind.wrap_i64]; omega))⟩) hSd ?_
  (try simp only [List.getElem_toArray, List.getElem_cons_succ, List.getElem_cons_zero, Act.put, List.setIfInBounds_toArray, List.set_cons_zero, List.set_cons_succ])
  refine wpAnyH_take (i := 9) (v := (.slice sa d.size sc)) rfl (by kernel_rfl) (by kernel_rfl) (by kernel_rfl) (fun _ _ _ h => h) (Or.inl ⟨by rfl, by intro w' hS'; have hxx := (HSX.out w' hS').2; go_simp <;> (first | omega | rfl | exact hw8 | (rw [IntKind.wrap_i64]; omega))⟩) hSd ?_
  (try simp only [List.getElem_toArray, List.getElem_cons_succ, List.getElem_cons_zero, Act.put, List.setIfInBounds_toArray, List.set_cons_zero, List.set_cons_succ])
  refine wpAnyH_take (i := 10) (v := .int .i64 (d.size : Int)) rfl (by kernel_rfl) (by kernel_rfl) (by kernel_rfl) (fun _ _ _ h => h) (Or.inl ⟨by rfl, by intro w' hS'; go_simp <;> (first | omega | rfl | exact hw8 | (rw [IntKind.wrap_i64]; omega))⟩) hSd ?_
  (try simp only [List.getElem_toArray, List.getElem_cons_succ, List.getElem_cons_zero, Act.put, List.setIfInBounds_toArray, List.set_cons_zero, List.set_cons_succ])
  have hc1 : X2.cell? ⟨p, 1, none⟩ = some (.int .i64 (n : Int)) := by have e := HC1.out; rw [← e]; simp [World.cell?, HX2.out.1]
  refine held_stepS (i := 3) (by kernel_rfl) rfl (by rfl) ?_
  go_simp
  refine ⟨hSd, ?_⟩
  (try simp only [List.getElem_toArray, List.getElem_cons_succ, List.getElem_cons_zero, Act.put, List.setIfInBounds_toArray, List.set_cons_zero, List.set_cons_succ])
  refine wpAnyH_take (i := 11) (v := .int .i64 (n9 : Int)) rfl (by kernel_rfl) (by kernel_rfl) (by kernel_rfl) (fun _ _ _ h => h) (Or.inl ⟨by rfl, by intro w' hS'; go_simp <;> (first | omega | rfl | exact hw8 | (rw [IntKind.wrap_i64]; omega))⟩) hSd ?_
  (try simp only [List.getElem_toArray, List.getElem_cons_succ, List.getElem_cons_zero, Act.put, List.setIfInBounds_toArray, List.set_cons_zero, List.set_cons_succ])
  refine wpAnyH_take (i := 12) (v := .pointer (some ⟨p, 0, none⟩)) rfl (by kernel_rfl) (by kernel_rfl) (by kernel_rfl) (fun _ _ _ h => h) (Or.inl ⟨by rfl, by intro w' hS'; go_simp <;> (first | omega | rfl | exact hw8 | (rw [IntKind.wrap_i64]; omega))⟩) hSd ?_
  (try simp only [List.getElem_toArray, List.getElem_cons_succ, List.getElem_cons_zero, Act.put, List.setIfInBounds_toArray, List.set_cons_zero, List.set_cons_succ])
  refine wpAnyH_take (i := 13) (v := .pointer (some ⟨p, 1, none⟩)) rfl (by kernel_rfl) (by kernel_rfl) (by kernel_rfl) (fun _ _ _ h => h) (Or.inl ⟨by rfl, by intro w' hS'; go_simp <;> (first | omega | rfl | exact hw8 | (rw [IntKind.wrap_i64]; omega))⟩) hSd ?_
  (try simp only [List.getElem_toArray, List.getElem_cons_succ, List.getElem_cons_zero, Act.put, List.setIfInBounds_toArray, List.set_cons_zero, List.set_cons_succ])
  have hz2 : X2.frozen? ⟨p, 1, none⟩ = false := by have e := HZ1.out; rw [← e]; simp [World.frozen?, HX2.out.1]
  refine held_stepS (i := 14) (by kernel_rfl) rfl (by rfl) ?_
  go_simp
  have HX3 : Hid (FsW (X2.setCell ⟨p, 1, none⟩ (.int .i64 (n9 : Int))) lo p mb L V n9 ∧ FrK w (X2.setCell ⟨p, 1, none⟩ (.int .i64 (n9 : Int))) lo p mb) := HFN.out X2 HX2.out.1 HX2.out.2
  refine ⟨HSN.out X2 hSd, ?_⟩
  (try simp only [List.getElem_toArray, List.getElem_cons_succ, List.getElem_cons_zero, Act.put, List.setIfInBounds_toArray, List.set_cons_zero, List.set_cons_succ])
  refine wpAnyH_done (by kernel_rfl) ?_ _
  obtain ⟨W9, hW9⟩ : ∃ W9, W9 = X2.setCell ⟨p, 1, none⟩ (.int .i64 (n9 : Int)) := ⟨_, rfl⟩
  rw [← hW9] at HX3 ⊢
  clear hW9 hSd HSX HSN hc1 hz2
  have c0 := cell_of_row _ _ 0 _ _ _ HX3.out.1.box
  obtain ⟨W2, hr2, hF2, hg2⟩ := HDL.out _ HX3.out.1 0
  go_wp2_with fail
  go_end0
  refine ⟨rfl, hF2, HX3.out.2.trans ⟨?_, ?_⟩⟩
  · have h1 := HX3.out.1.plt
    have h2 := HBA.out
    exact (Below.refl _ _).grown hg2 (by omega) (fun k hk => by have e : mb = k := Option.some.inj hk; omega)
  · exact fun k hk h1 h2 => hg2.block k hk (fun e => h2 (Option.some.inj e))
set_option maxRecDepth 100000 in
set_option maxHeartbeats 1500000 in
theorem rem15_no {lo p mb n n9 : Nat} {L : List FlI} {V : ByteArray → Value} (s : ByteArray) (w : World) (h : FsW w lo p mb L V n) (hs : s.size ≤ 1500000) (hf : fdF L s = none) (hn : n ≤ 100000000) (hn9 : n9 + (0 : Nat) = n) :
    Calls Try.prog 85 #[.pointer (some ⟨p, 0, none⟩), .string s] w fun e w' => e = .returned (.tuple #[]) ∧ FsW w' lo p mb (cutF L s) V n9 ∧ FrK w w' lo p mb := by
  obtain ⟨S, hS⟩ : ∃ S : World → Prop, S = fun w' => w'.cell? ⟨p, 0, none⟩ = some (.map (some mb)) ∧ w'.heap[mb]? = w.heap[mb]? := ⟨_, rfl⟩
  have c0 := cell_of_row _ _ 0 _ _ _ h.box
  have c1 := cell_of_row _ _ 1 _ _ _ h.box
  have z1 := frozen_of_row w p 1 _ _ h.box
  have hSd : S w.drew := by rw [hS]; exact ⟨c0, rfl⟩
  have HC1 : Hid (w.cell? ⟨p, 1, none⟩ = some (.int .i64 (n : Int))) := c1
  have HZ1 := hidF z1
  have HSX : Hid (∀ w', S w' → w'.cell? ⟨p, 0, none⟩ = some (.map (some mb)) ∧ (Instr.lookup 96 (.map (some mb)) (.string s) false).run Try.prog w' = .ok (.slice none 0 0) w') := fun w' hq => by
    rw [hS] at hq
    refine ⟨hq.1, ?_⟩
    exact ((h.map.same hq.2).look_no strK15 Try.underlying96 (zero15 w') (keyS hs) (by rw [fsf_key, hf]; rfl)).2
  have HFN : Hid (∀ X : World, X.heap = w.heap → Below w.heap.size w X → FsW (X.setCell ⟨p, 1, none⟩ (.int .i64 (n9 : Int))) lo p mb L V n9 ∧ FrK w (X.setCell ⟨p, 1, none⟩ (.int .i64 (n9 : Int))) lo p mb) := fun X he hb => h.numK he hb
  have HSN : Hid (∀ X : World, S X → S (X.setCell ⟨p, 1, none⟩ (.int .i64 (n9 : Int)))) := fun X hq => by
    rw [hS] at hq ⊢
    refine ⟨?_, (heap_setCell_other _ _ _ _ h.pm.symm).trans hq.2⟩
    have h0 := hq.1
    rw [← h0]
    exact cell_set_else X p 1 0 _ (by decide)
  have HDL : Hid (∀ W : World, FsW W lo p mb L V n9 → ∀ ty, ∃ W2, (Builtin.delete_ #[96, 9] ty #[.map (some mb), .string s]).run Try.prog W = .ok (.tuple #[]) W2 ∧ FsW W2 lo p mb (cutF L s) V n9 ∧ W.grownBy W2 (some mb)) := fun W hw ty => hw.gone hs ty
  have HBA := hidF h.base
  have HPL := hidF h.plt
  have hn8 : (n : Int) - (0 : Int) = (n9 : Int) := by omega
  have hw8 : IntKind.i64.wrap ((n : Int) - (0 : Int)) = (n9 : Int) := by rw [IntKind.wrap_i64]; omega
  clear c0 c1 z1 h hS
  go_enter Try.func85, Try.ntmps85
  go_wp2_with fail
  refine wp_region_held (S := S) (by kernel_rfl) ?_
  change wpAnyH _ _ _ _ _ _ _ _ (World.drew _)
  generalize hX : w.drew = X2 at hSd ⊢
  have HX2 : Hid (X2.heap = w.heap ∧ Below w.heap.size w X2) := by rw [← hX]; exact ⟨rfl, (Below.refl _ _).drew⟩
  clear hX
  refine wpAnyH_take (i := 0) (v := .pointer (some ⟨p, 0, none⟩)) rfl (by kernel_rfl) (by kernel_rfl) (by kernel_rfl) (fun _ _ _ h => h) (Or.inl ⟨by rfl, by intro w' hS'; go_simp <;> (first | omega | rfl | exact hw8 | (rw [IntKind.wrap_i64]; omega))⟩) hSd ?_
  (try simp only [List.getElem_toArray, List.getElem_cons_succ, List.getElem_cons_zero, Act.put, List.setIfInBounds_toArray, List.set_cons_zero, List.set_cons_succ])
  refine wpAnyH_take (i := 1) (v := .pointer (some ⟨p, 0, none⟩)) rfl (by kernel_rfl) (by kernel_rfl) (by kernel_rfl) (fun _ _ _ h => h) (Or.inl ⟨by rfl, by intro w' hS'; go_simp <;> (first | omega | rfl | exact hw8 | (rw [IntKind.wrap_i64]; omega))⟩) hSd ?_
  (try simp only [List.getElem_toArray, List.getElem_cons_succ, List.getElem_cons_zero, Act.put, List.setIfInBounds_toArray, List.set_cons_zero, List.set_cons_succ])
  refine wpAnyH_take (i := 2) (v := .pointer (some ⟨p, 1, none⟩)) rfl (by kernel_rfl) (by kernel_rfl) (by kernel_rfl) (fun _ _ _ h => h) (Or.inl ⟨by rfl, by intro w' hS'; go_simp <;> (first | omega | rfl | exact hw8 | (rw [IntKind.wrap_i64]; omega))⟩) hSd ?_
  (try simp only [List.getElem_toArray, List.getElem_cons_succ, List.getElem_cons_zero, Act.put, List.setIfInBounds_toArray, List.set_cons_zero, List.set_cons_succ])
  refine wpAnyH_take (i := 4) (v := .pointer (some ⟨p, 0, none⟩)) rfl (by kernel_rfl) (by kernel_rfl) (by kernel_rfl) (fun _ _ _ h => h) (Or.inl ⟨by rfl, by intro w' hS'; go_simp <;> (first | omega | rfl | exact hw8 | (rw [IntKind.wrap_i64]; omega))⟩) hSd ?_
  (try simp only [List.getElem_toArray, List.getElem_cons_succ, List.getElem_cons_zero, Act.put, List.setIfInBounds_toArray, List.set_cons_zero, List.set_cons_succ])
  refine wpAnyH_take (i := 5) (v := .pointer (some ⟨p, 0, none⟩)) rfl (by kernel_rfl) (by kernel_rfl) (by kernel_rfl) (fun _ _ _ h => h) (Or.inl ⟨by rfl, by intro w' hS'; go_simp <;> (first | omega | rfl | exact hw8 | (rw [IntKind.wrap_i64]; omega))⟩) hSd ?_
  (try simp only [List.getElem_toArray, List.getElem_cons_succ, List.getElem_cons_zero, Act.put, List.setIfInBounds_toArray, List.set_cons_zero, List.set_cons_succ])
  refine wpAnyH_take (i := 6) (v := .pointer (some ⟨p, 0, none⟩)) rfl (by kernel_rfl) (by kernel_rfl) (by kernel_rfl) (fun _ _ _ h => h) (Or.inl ⟨by rfl, by intro w' hS'; go_simp <;> (first | omega | rfl | exact hw8 | (rw [IntKind.wrap_i64]; omega))⟩) hSd ?_
  (try simp only [List.getElem_toArray, List.getElem_cons_succ, List.getElem_cons_zero, Act.put, List.setIfInBounds_toArray, List.set_cons_zero, List.set_cons_succ])
  refine wpAnyH_take (i := 7) (v := .map (some mb)) rfl (by kernel_rfl) (by kernel_rfl) (by kernel_rfl) (fun _ _ _ h => h) (Or.inl ⟨by rfl, by intro w' hS'; have hxx := (HSX.out w' hS').1; go_simp <;> (first | omega | rfl | exact hw8 | (rw [IntKind.wrap_i64]; omega))⟩) hSd ?_
  (try simp only [List.getElem_toArray, List.getElem_cons_succ, List.getElem_cons_zero, Act.put, List.setIfInBounds_toArray, List.set_cons_zero, List.set_cons_succ])
  refine wpAnyH_take (i := 8) (v := .string s) rfl (by kernel_rfl) (by kernel_rfl) (by kernel_rfl) (fun _ _ _ h => h) (Or.inl ⟨by rfl, by intro w' hS'; go_simp <;> (first | omega | rfl | exact hw8 | (rw [IntKind.wrap_i64]; omega))⟩) hSd ?_
  (try simp only [List.getElem_toArray, List.getElem_cons_succ, List.getElem_cons_zero, Act.put, List.setIfInBounds_toArray, List.set_cons_zero, List.set_cons_succ])
  refine wpAnyH_take (i := 9) (v := (.slice none 0 0)) rfl (by kernel_rfl) (by kernel_rfl) (by kernel_rfl) (fun _ _ _ h => h) (Or.inl ⟨by rfl, by intro w' hS'; have hxx := (HSX.out w' hS').2; go_simp <;> (first | omega | rfl | exact hw8 | (rw [IntKind.wrap_i64]; omega))⟩) hSd ?_
  (try simp only [List.getElem_toArray, List.getElem_cons_succ, List.getElem_cons_zero, Act.put, List.setIfInBounds_toArray, List.set_cons_zero, List.set_cons_succ])
  refine wpAnyH_take (i := 10) (v := .int .i64 (0 : Int)) rfl (by kernel_rfl) (by kernel_rfl) (by kernel_rfl) (fun _ _ _ h => h) (Or.inl ⟨by rfl, by intro w' hS'; go_simp <;> (first | omega | rfl | exact hw8 | (rw [IntKind.wrap_i64]; omega))⟩) hSd ?_
  (try simp only [List.getElem_toArray, List.getElem_cons_succ, List.getElem_cons_zero, Act.put, List.setIfInBounds_toArray, List.set_cons_zero, List.set_cons_succ])
  have hc1 : X2.cell? ⟨p, 1, none⟩ = some (.int .i64 (n : Int)) := by have e := HC1.out; rw [← e]; simp [World.cell?, HX2.out.1]
  refine held_stepS (i := 3) (by kernel_rfl) rfl (by rfl) ?_
  go_simp
  refine ⟨hSd, ?_⟩
  (try simp only [List.getElem_toArray, List.getElem_cons_succ, List.getElem_cons_zero, Act.put, List.setIfInBounds_toArray, List.set_cons_zero, List.set_cons_succ])
  refine wpAnyH_take (i := 11) (v := .int .i64 (n9 : Int)) rfl (by kernel_rfl) (by kernel_rfl) (by kernel_rfl) (fun _ _ _ h => h) (Or.inl ⟨by rfl, by intro w' hS'; go_simp <;> (first | omega | rfl | exact hw8 | (rw [IntKind.wrap_i64]; omega))⟩) hSd ?_
  (try simp only [List.getElem_toArray, List.getElem_cons_succ, List.getElem_cons_zero, Act.put, List.setIfInBounds_toArray, List.set_cons_zero, List.set_cons_succ])
  refine wpAnyH_take (i := 12) (v := .pointer (some ⟨p, 0, none⟩)) rfl (by kernel_rfl) (by kernel_rfl) (by kernel_rfl) (fun _ _ _ h => h) (Or.inl ⟨by rfl, by intro w' hS'; go_simp <;> (first | omega | rfl | exact hw8 | (rw [IntKind.wrap_i64]; omega))⟩) hSd ?_
  (try simp only [List.getElem_toArray, List.getElem_cons_succ, List.getElem_cons_zero, Act.put, List.setIfInBounds_toArray, List.set_cons_zero, List.set_cons_succ])
  refine wpAnyH_take (i := 13) (v := .pointer (some ⟨p, 1, none⟩)) rfl (by kernel_rfl) (by kernel_rfl) (by kernel_rfl) (fun _ _ _ h => h) (Or.inl ⟨by rfl, by intro w' hS'; go_simp <;> (first | omega | rfl | exact hw8 | (rw [IntKind.wrap_i64]; omega))⟩) hSd ?_
  (try simp only [List.getElem_toArray, List.getElem_cons_succ, List.getElem_cons_zero, Act.put, List.setIfInBounds_toArray, List.set_cons_zero, List.set_cons_succ])
  have hz2 : X2.frozen? ⟨p, 1, none⟩ = false := by have e := HZ1.out; rw [← e]; simp [World.frozen?, HX2.out.1]
  refine held_stepS (i := 14) (by kernel_rfl) rfl (by rfl) ?_
  go_simp
  have HX3 : Hid (FsW (X2.setCell ⟨p, 1, none⟩ (.int .i64 (n9 : Int))) lo p mb L V n9 ∧ FrK w (X2.setCell ⟨p, 1, none⟩ (.int .i64 (n9 : Int))) lo p mb) := HFN.out X2 HX2.out.1 HX2.out.2
  refine ⟨HSN.out X2 hSd, ?_⟩
  (try simp only [List.getElem_toArray, List.getElem_cons_succ, List.getElem_cons_zero, Act.put, List.setIfInBounds_toArray, List.set_cons_zero, List.set_cons_succ])
  refine wpAnyH_done (by kernel_rfl) ?_ _
  obtain ⟨W9, hW9⟩ : ∃ W9, W9 = X2.setCell ⟨p, 1, none⟩ (.int .i64 (n9 : Int)) := ⟨_, rfl⟩
  rw [← hW9] at HX3 ⊢
  clear hW9 hSd HSX HSN hc1 hz2
  have c0 := cell_of_row _ _ 0 _ _ _ HX3.out.1.box
  obtain ⟨W2, hr2, hF2, hg2⟩ := HDL.out _ HX3.out.1 0
  go_wp2_with fail
  go_end0
  refine ⟨rfl, hF2, HX3.out.2.trans ⟨?_, ?_⟩⟩
  · have h1 := HX3.out.1.plt
    have h2 := HBA.out
    exact (Below.refl _ _).grown hg2 (by omega) (fun k hk => by have e : mb = k := Option.some.inj hk; omega)
  · exact fun k hk h1 h2 => hg2.block k hk (fun e => h2 (Option.some.inj e))
end Go.Proofs.Ytanlggglbpibfaa
