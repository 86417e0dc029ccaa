/-
  A disk that is marked and held: the law's own ways.
-/
import Derived.Test.YtanlggglbpibfaaFsU
namespace Go.Proofs.Ytanlggglbpibfaa
open Go.RowKit
set_option linter.unusedVariables false
set_option linter.unusedSimpArgs false
/-- what lies outside of P is as it was -/
structure FrP (w w' : World) (P : Nat → Prop) : Prop where
  os : w'.os = w.os
  tape : w'.tape = w.tape
  output : w'.output = w.output
  size : w.heap.size ≤ w'.heap.size
  block : ∀ j, j < w.heap.size → ¬ P j → w'.heap[j]? = w.heap[j]?
theorem FrP.grown {w u w' : World} {P : Nat → Prop} {o : Option Nat} (h : FrP w u P) (hg : u.grownBy w' o) (ho : ∀ j, o = some j → P j) : FrP w w' P :=
  ⟨hg.os.trans h.os, hg.tape.trans h.tape, hg.output.trans h.output, Nat.le_trans h.size hg.size, fun j hj hp => (hg.block j (Nat.lt_of_lt_of_le hj h.size) (fun c => hp (ho j c.symm))).trans (h.block j hj hp)⟩
theorem FrP.bel {w u : World} {P : Nat → Prop} (h : Below w.heap.size w u) : FrP w u P := ⟨h.os, h.tape, h.output, h.size, fun j hj _ => h.block j hj⟩
theorem MkF.keep {w w' : World} {v : Value} {n k : Nat} (h : MkF w v n k) (hb : ∀ g, v.ownBlock = some g → w'.heap[g]? = w.heap[g]?) : MkF w' v n k := by
  obtain ⟨a, c, rfl, h1⟩ := h
  refine ⟨a, c, rfl, fun h0 => ?_⟩
  obtain ⟨g, rfl, h2, h3⟩ := h1 h0
  have hg := hb g rfl
  refine ⟨g, rfl, ?_, fun j hj => ⟨(cell_eq hg _).trans (h3 j hj).1, (cell_eq hg _).trans (h3 j hj).2⟩⟩
  rw [Array.getElem?_eq_getElem h2] at hg
  exact (Array.getElem?_eq_some_iff.1 hg).1
set_option maxRecDepth 100000 in
set_option maxHeartbeats 1000000 in
theorem heldDk_any (a b : Value) (x y : Option Addr) (n m k ca : Nat) (w : World) (hn : n ≤ 60) (hm : m ≤ 60) (h1 : 1 ≤ k) (hk : k ≤ 100) (ha : MkF w a n k) (hb : MkF w b m (k + 2 * n)) :
    Calls Try.prog 32 #[.agg #[a, b, .slice x 0 ca], .int .i64 (k : Int)] w fun e w' => e = .returned (.int .i64 ((k + 2 * n + 2 * m : Nat) : Int)) ∧ Below w.heap.size w w' := by
  have HA : Hid (∀ w', Below w.heap.size w w' → Calls Try.prog 74 #[a, .int .i64 (k : Int)] w' fun e w'' => e = .returned (.int .i64 ((k + 2 * n : Nat) : Int)) ∧ Below w'.heap.size w' w'') := fun w' hw => heldFv_any a n k w' (by omega) h1 (by omega) (by
    obtain ⟨p, c, rfl, h⟩ := ha
    exact ⟨p, c, rfl, fun h0 => by obtain ⟨g, rfl, h2, h3⟩ := h h0; exact ⟨g, rfl, Nat.lt_of_lt_of_le h2 hw.size, h3.below hw h2⟩⟩)
  have HB : Hid (∀ w', Below w.heap.size w w' → Calls Try.prog 74 #[b, .int .i64 ((k + 2 * n : Nat) : Int)] w' fun e w'' => e = .returned (.int .i64 ((k + 2 * n + 2 * m : Nat) : Int)) ∧ Below w'.heap.size w' w'') := fun w' hw => heldFv_any b m (k + 2 * n) w' (by omega) (by omega) (by omega) (by
    obtain ⟨p, c, rfl, h⟩ := hb
    exact ⟨p, c, rfl, fun h0 => by obtain ⟨g, rfl, h2, h3⟩ := h h0; exact ⟨g, rfl, Nat.lt_of_lt_of_le h2 hw.size, h3.below hw h2⟩⟩)
  have HC : Hid (∀ (k : Nat) w', Calls Try.prog 75 #[.slice x 0 ca, .int .i64 (k : Int)] w' fun e w'' => e = .returned (.int .i64 (k : Int)) ∧ w'' = w') := fun k w' => heldQ_zero x ca k w'
  clear ha hb
  obtain ⟨k1, hk1⟩ : ∃ k1, k1 = k + 2 * n := ⟨_, rfl⟩
  obtain ⟨k2, hk2⟩ : ∃ k2, k2 = k1 + 2 * m := ⟨_, rfl⟩
  rw [← hk1] at HA HB ⊢
  rw [← hk2] at HB ⊢
  have i1 : ¬ (k1 : Int) < 0 := by omega
  have i2 : ¬ (k2 : Int) < 0 := by omega
  have HB1 : Hid (Below w.heap.size w (w.alloc (.cells #[a, b, .slice x 0 ca] 27))) := (Below.refl _ _).alloc (Nat.le_refl _) _
  have HX1 : Hid ((w.alloc (.cells #[a, b, .slice x 0 ca] 27)).heap[w.heap.size]? = some (.cells #[a, b, .slice x 0 ca] 27 (0, 0))) := heap_alloc_new w _
  clear hk1 hk2 hn hm h1 hk
  go_enter Try.func32, Try.ntmps32
  go_wp2_with fail
  refine (HA.out _ HB1.out).mono ?_
  rintro e w2 ⟨rfl, hb2⟩
  have HX2 := hidF ((hb2.block _ (Array.getElem?_eq_some_iff.1 HX1.out).1).trans HX1.out)
  have HB2 := hidF (blFl HB1.out hb2 HB1.out.size)
  have c1 := cell_of_row _ _ 1 _ _ _ HX2.out
  clear hb2 HX1 HB1
  go_wp2_with fail
  refine (HB.out _ HB2.out).mono ?_
  rintro e w3 ⟨rfl, hb3⟩
  have HX3 := hidF ((hb3.block _ (Array.getElem?_eq_some_iff.1 HX2.out).1).trans HX2.out)
  have HB3 := hidF (blFl HB2.out hb3 HB2.out.size)
  have c2 := cell_of_row _ _ 2 _ _ _ HX3.out
  clear hb3 HX2 HB2 c1
  go_wp2_with fail
  refine (HC.out _ _).mono ?_
  rintro e w4 ⟨rfl, rfl⟩
  go_wp2_with fail
  go_ret
  exact ⟨rfl, HB3.out⟩
set_option maxRecDepth 100000 in
set_option maxHeartbeats 1000000 in
theorem markDk_any (a b c : Value) (n m q k : Nat) (w : World) (hn : n ≤ 1048576) (hm : m ≤ 1048576) (hq : q ≤ 1048576) (hs : n + m + q ≤ 1048576) (h1 : 1 ≤ k) (hk : k ≤ 100000) (ha : RwF w a n) (hb : RwF w b m) (hc : RwQ w c q)
    (hl : ∀ g, a.ownBlock = some g ∨ b.ownBlock = some g ∨ c.ownBlock = some g → g < w.heap.size) (hab : ∀ g, a.ownBlock = some g → b.ownBlock ≠ some g ∧ c.ownBlock ≠ some g) (hbc : ∀ g, b.ownBlock = some g → c.ownBlock ≠ some g) :
    Calls Try.prog 31 #[.agg #[a, b, c], .int .i64 (k : Int)] w fun e w' => (e = .returned (.int .i64 ((k + 2 * n + 2 * m + 4 * q : Nat) : Int)) ∧ MkF w' a n k ∧ MkF w' b m (k + 2 * n)) ∧ FrP w w' (fun g => a.ownBlock = some g ∨ b.ownBlock = some g ∨ c.ownBlock = some g) := by
  have HA : Hid (∀ w', RwF w' a n → Calls Try.prog 72 #[a, .int .i64 (k : Int)] w' fun e w'' => (e = .returned (.int .i64 ((k + 2 * n : Nat) : Int)) ∧ MkF w'' a n k) ∧ w'.grownBy w'' a.ownBlock) := fun w' h => markFv_any a n k w' hn h1 (by omega) h
  have HB : Hid (∀ w', RwF w' b m → Calls Try.prog 72 #[b, .int .i64 ((k + 2 * n : Nat) : Int)] w' fun e w'' => (e = .returned (.int .i64 ((k + 2 * n + 2 * m : Nat) : Int)) ∧ MkF w'' b m (k + 2 * n)) ∧ w'.grownBy w'' b.ownBlock) := fun w' h => markFv_any b m (k + 2 * n) w' hm (by omega) (by omega) h
  have HC : Hid (∀ w', RwQ w' c q → Calls Try.prog 73 #[c, .int .i64 ((k + 2 * n + 2 * m : Nat) : Int)] w' fun e w'' => e = .returned (.int .i64 ((k + 2 * n + 2 * m + 4 * q : Nat) : Int)) ∧ w'.grownBy w'' c.ownBlock) := fun w' h => markQv_any c q (k + 2 * n + 2 * m) w' hq (by omega) (by omega) h
  have HL := hidF hl
  have HAB := hidF hab
  have HBC := hidF hbc
  obtain ⟨k1, hk1⟩ : ∃ k1, k1 = k + 2 * n := ⟨_, rfl⟩
  obtain ⟨k2, hk2⟩ : ∃ k2, k2 = k1 + 2 * m := ⟨_, rfl⟩
  obtain ⟨k3, hk3⟩ : ∃ k3, k3 = k2 + 4 * q := ⟨_, rfl⟩
  rw [← hk1] at HA HB HC ⊢
  rw [← hk2] at HB HC ⊢
  rw [← hk3] at HC ⊢
  have hB1 : Below w.heap.size w (w.alloc (.cells #[a, b, c] 27)) := (Below.refl _ _).alloc (Nat.le_refl _) _
  have HX1 : Hid ((w.alloc (.cells #[a, b, c] 27)).heap[w.heap.size]? = some (.cells #[a, b, c] 27 (0, 0))) := heap_alloc_new w _
  have HA1 := hidF (ha.keep fun g hg => hB1.block g (hl g (Or.inl hg)))
  have HB1 := hidF (hb.keep fun g hg => hB1.block g (hl g (Or.inr (Or.inl hg))))
  have HC1 := hidF (hc.keep fun g hg => hB1.block g (hl g (Or.inr (Or.inr hg))))
  have HF1 : Hid (FrP w (w.alloc (.cells #[a, b, c] 27)) (fun g => a.ownBlock = some g ∨ b.ownBlock = some g ∨ c.ownBlock = some g)) := FrP.bel hB1
  have hle := hB1.size
  clear hk1 hk2 hk3 ha hb hc hl hab hbc hB1
  go_enter Try.func31, Try.ntmps31
  go_wp2_with fail
  refine (HA.out _ HA1.out).mono ?_
  rintro e w2 ⟨⟨rfl, hm1⟩, hg1⟩
  have HX2 := hidF ((hg1.block _ (Array.getElem?_eq_some_iff.1 HX1.out).1 (fun c => by have := HL.out _ (Or.inl c.symm); omega)).trans HX1.out)
  have HB2 := hidF (HB1.out.keep fun g hg => hg1.block g (by have := HL.out g (Or.inr (Or.inl hg)); omega) (fun c => (HAB.out g c.symm).1 hg))
  have HC2 := hidF (HC1.out.keep fun g hg => hg1.block g (by have := HL.out g (Or.inr (Or.inr hg)); omega) (fun c => (HAB.out g c.symm).2 hg))
  have HF2 := hidF (HF1.out.grown hg1 fun j h => Or.inl h)
  have HM2 := hidF hm1
  have c1 := cell_of_row _ _ 1 _ _ _ HX2.out
  have hle2 := Nat.le_trans hle hg1.size
  clear hm1 hg1 HX1 HA1 HB1 HC1 HF1
  go_wp2_with fail
  refine (HB.out _ HB2.out).mono ?_
  rintro e w3 ⟨⟨rfl, hm2⟩, hg2⟩
  have HX3 := hidF ((hg2.block _ (Array.getElem?_eq_some_iff.1 HX2.out).1 (fun c => by have := HL.out _ (Or.inr (Or.inl c.symm)); omega)).trans HX2.out)
  have HC3 := hidF (HC2.out.keep fun g hg => hg2.block g (by have := HL.out g (Or.inr (Or.inr hg)); omega) (fun c => HBC.out g c.symm hg))
  have HF3 := hidF (HF2.out.grown hg2 fun j h => Or.inr (Or.inl h))
  have HM3 := hidF (HM2.out.keep fun g hg => hg2.block g (by have := HL.out g (Or.inl hg); omega) (fun c => (HAB.out g hg).1 c.symm))
  have HN3 := hidF hm2
  have c2 := cell_of_row _ _ 2 _ _ _ HX3.out
  have hle3 := Nat.le_trans hle2 hg2.size
  clear hm2 hg2 HX2 HB2 HC2 HF2 HM2 c1
  go_wp2_with fail
  refine (HC.out _ HC3.out).mono ?_
  rintro e w4 ⟨rfl, hg3⟩
  have HF4 := hidF (HF3.out.grown hg3 fun j h => Or.inr (Or.inr h))
  have HM4 := hidF (HM3.out.keep fun g hg => hg3.block g (by have := HL.out g (Or.inl hg); omega) (fun c => (HAB.out g hg).2 c.symm))
  have HN4 := hidF (HN3.out.keep fun g hg => hg3.block g (by have := HL.out g (Or.inr (Or.inl hg)); omega) (fun c => HBC.out g hg c.symm))
  clear hg3 HX3 HC3 HF3 HM3 HN3 c2
  go_wp2_with fail
  go_ret
  exact ⟨⟨rfl, HM4.out, HN4.out⟩, HF4.out⟩
end Go.Proofs.Ytanlggglbpibfaa
