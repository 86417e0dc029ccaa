/-
  Several texts of this seat as one: ThrBR, DecNx, DecC.
-/
import Derived.Test.YtbkjcngehhdchaaPk21
import Derived.Test.YtbkjcngehhdchaaPk11
import Derived.Test.YtbkjcngehhdchaaPk06
import Derived.Test.YtbkjcngehhdchaaPk04
import Derived.BigRegion
import Derived.Lib.Strings
import Derived.Lib.CutLaws
import Derived.Laws.DeepStrings4
import Derived.Laws.Strings3

/-!   The code's way through a token, by the closure that reads. -/
namespace Go.Proofs.Ytbkjcngehhdchaa
open Go.RowKit
set_option linter.unusedVariables false
set_option linter.unusedSimpArgs false
set_option maxRecDepth 100000 in
set_option maxHeartbeats 1000000 in
theorem rthrough_any {σ : Type} (PS : World → σ → (Nat → Prop) → Prop) (bit : σ → Nat → Nat → Nat) (nxt : σ → Nat → Nat → σ) (sz : σ → Nat) (lim : Nat) (bd bo : Nat)
    (hP : ∀ w s D c t, PS w s D → sz s ≤ lim → c < 512 → t < 2 → Calls Try.prog 87 #[.int .i64 ((c : Nat) : Int), .int .i64 ((t : Nat) : Int), .pointer (some ⟨bd, 0, none⟩), .pointer (some ⟨bo, 0, none⟩)] w fun e w' => e = .returned (.int .i64 ((bit s c t : Nat) : Int)) ∧ ∃ D', PS w' (nxt s c t) D' ∧ Kpt D w D' w')
    (hB : ∀ s c t, t < 2 → bit s c t < 2) (hS : ∀ w w' s D, PS w s D → (∀ k, D k → w'.heap[k]? = w.heap[k]?) → PS w' s D) (hLT : ∀ w s D, PS w s D → ∀ k, D k → k < w.heap.size)
    (hZ : ∀ s c t, sz (nxt s c t) ≤ sz s + 1) (a k : Nat) (aI kI b d l : Int) (s : σ) (D : Nat → Prop) (w : World) (ha : a < 2) (hk : k < 2) (haI : aI = (a : Int)) (hkI : kI = (k : Int)) (hb : 0 ≤ b ∧ b ≤ 5000) (hd : 0 ≤ d ∧ d ≤ 5000) (hl : 0 ≤ l ∧ l ≤ 5000) (hps : PS w s D) (hsz : sz s + 21 ≤ lim) :
    Calls Try.prog 79 #[.agg #[.int .i64 kI, .int .i64 b, .int .i64 d, .int .i64 l], .int .i64 aI, .func (.func 87) #[] #[.pointer (some ⟨bd, 0, none⟩), .pointer (some ⟨bo, 0, none⟩)]] w fun e w' => (∃ t, t = (thTok bit nxt a k b d l s).2 ∧ e = .returned (.agg #[.int .i64 (t.k : Int), .int .i64 (t.b : Int), .int .i64 (t.d : Int), .int .i64 (t.l : Int)])) ∧ ∃ D', PS w' (thTok bit nxt a k b d l s).1 D' ∧ Kpt D w D' w' := by
  have HTR : Hid (∀ (p5 f nb : Nat) (fI nbI v : Int) (s : σ) (D : Nat → Prop) (w : World) (n : Nat) (r : σ), n = (thT bit nxt f v nb 1 s).2 - 2 ^ nb → r = (thT bit nxt f v nb 1 s).1 → fI = (f : Int) → nbI = (nb : Int) → (nb = 8 ∨ nb = 6) → (f ≤ 400 ∧ (nb = 8 → f ≤ 1)) → (-4611686018427387904 ≤ v ∧ v < 4611686018427387904) → PS w s D → sz s + 8 ≤ lim → w.cell? ⟨p5, 0, none⟩ = some (.func (.func 87) #[] #[.pointer (some ⟨bd, 0, none⟩), .pointer (some ⟨bo, 0, none⟩)]) → ¬ D p5 →
      Calls Try.prog 96 #[.int .i64 fI, .int .i64 nbI, .int .i64 v, .pointer (some ⟨p5, 0, none⟩)] w fun e w' => e = .returned (.int .i64 (n : Int)) ∧ ∃ D', PS w' r D' ∧ Kpt D w D' w') :=
    fun p5 f nb fI nbI v s D w n r e1 e2 h1 h2 h3 h4 h5 h6 h7 h8 h9 => by subst e1; subst e2; exact rtree_any PS bit nxt sz lim bd bo hP hB hS hZ p5 f nb fI nbI v s D w h1 h2 h3 h4 h5 h6 h7 h8 h9
  have HSS : Hid (∀ (D D' : Nat → Prop) (w w' : World) (s : σ) (B : Nat) (v0 v1 v2 v3 : Value), PS w' s D' → Kpt D w D' w' → ¬ D' B → w.heap.size ≤ B →
      PS ((((w'.setCell ⟨B, 0, none⟩ v0).setCell ⟨B, 1, none⟩ v1).setCell ⟨B, 2, none⟩ v2).setCell ⟨B, 3, none⟩ v3) s D' ∧ Kpt D w D' ((((w'.setCell ⟨B, 0, none⟩ v0).setCell ⟨B, 1, none⟩ v1).setCell ⟨B, 2, none⟩ v2).setCell ⟨B, 3, none⟩ v3)) :=
    fun D D' w w' s B v0 v1 v2 v3 h1 h2 h3 h4 => ⟨hS _ _ _ _ h1 (fun q hq => by
      have hn : q ≠ B := fun e => h3 (e ▸ hq)
      rw [heap_setCell_other _ _ _ _ hn, heap_setCell_other _ _ _ _ hn, heap_setCell_other _ _ _ _ hn, heap_setCell_other _ _ _ _ hn]), (((h2.setNew h4).setNew h4).setNew h4).setNew h4⟩
  have HLT : Hid (∀ f v s, (thT bit nxt f v 6 1 s).2 < 2 ^ 7) := fun f v s => thT_lt hB f v 6 1 1 s (by decide)
  obtain ⟨b0, hb0⟩ : ∃ b0, b0 = bit s a k := ⟨_, rfl⟩
  obtain ⟨s1, hs1⟩ : ∃ s1, s1 = nxt s a k := ⟨_, rfl⟩
  have hb2 : b0 < 2 := by rw [hb0]; exact hB s a k hk
  have hz1 : sz s1 ≤ sz s + 1 := by rw [hs1]; exact hZ s a k
  have HZT : Hid (∀ f v s, sz (thT bit nxt f v 6 1 s).1 ≤ sz s + 6) := fun f v s => thT_sz hZ f v 6 1 s
  obtain ⟨R, hR⟩ : ∃ R, R = thTok bit nxt a k b d l s := ⟨_, rfl⟩
  have HR : Hid (R = if b0 = 0 then ((thT bit nxt 1 b 8 1 s1).1, (⟨0, (thT bit nxt 1 b 8 1 s1).2 - 2 ^ 8, 0, 0⟩ : TkN))
      else ((thT bit nxt 400 ((d - 1).tmod 64) 6 1 (thT bit nxt 330 ((d - 1).tdiv 64) 6 1 (thT bit nxt 260 (l - 3) 6 1 s1).1).1).1, (⟨1, 0, ((thT bit nxt 330 ((d - 1).tdiv 64) 6 1 (thT bit nxt 260 (l - 3) 6 1 s1).1).2 - 2 ^ 6) * 64 + ((thT bit nxt 400 ((d - 1).tmod 64) 6 1 (thT bit nxt 330 ((d - 1).tdiv 64) 6 1 (thT bit nxt 260 (l - 3) 6 1 s1).1).1).2 - 2 ^ 6) + 1, (thT bit nxt 260 (l - 3) 6 1 s1).2 - 2 ^ 6 + 3⟩ : TkN))) := by
    show R = _
    rw [hR, hb0, hs1]; rfl
  rw [← hR]
  obtain ⟨w3, hw3⟩ : ∃ w3, w3 = ((w.alloc (.cells #[.int .i64 (k : Int), .int .i64 b, .int .i64 d, .int .i64 l] 106)).alloc (.cells #[.func (.func 87) #[] #[.pointer (some ⟨bd, 0, none⟩), .pointer (some ⟨bo, 0, none⟩)]] 143)).alloc (.cells #[.int .i64 0, .int .i64 0, .int .i64 0, .int .i64 0] 106) := ⟨_, rfl⟩
  have hbl : Below w.heap.size w w3 := by
    rw [hw3]
    exact ((((Below.refl _ w).alloc (Nat.le_refl _) _).alloc (by simp <;> omega) _).alloc (by simp <;> omega) _)
  have HK3 : Hid (Kpt D w D w3) := Kpt.below hbl
  have hps3 : PS w3 s D := hS w w3 s D hps (fun q hq => hbl.block q (hLT w s D hps q hq))
  have HT3 : Hid (TB w.heap.size k b d l (.func (.func 87) #[] #[.pointer (some ⟨bd, 0, none⟩), .pointer (some ⟨bo, 0, none⟩)]) D w3) := by
    have hno : ∀ j, ¬ D (w.heap.size + j) := fun j hj => by have := hLT w s D hps _ hj; omega
    refine ⟨?_, ?_, ?_, hno 0, hno 1, (by have := hno 2; simpa using this)⟩
    · rw [hw3]
      refine (Below.heap_alloc _ _ _ (by simp <;> omega)).trans ((Below.heap_alloc _ _ _ (by simp <;> omega)).trans (heap_alloc_new _ _))
    · rw [hw3]
      refine (Below.heap_alloc _ _ _ (by simp <;> omega)).trans ?_
      have := heap_alloc_new (w.alloc (.cells #[.int .i64 (k : Int), .int .i64 b, .int .i64 d, .int .i64 l] 106)) (.cells #[.func (.func 87) #[] #[.pointer (some ⟨bd, 0, none⟩), .pointer (some ⟨bo, 0, none⟩)]] 143)
      simpa using this
    · rw [hw3]
      have := heap_alloc_new ((w.alloc (.cells #[.int .i64 (k : Int), .int .i64 b, .int .i64 d, .int .i64 l] 106)).alloc (.cells #[.func (.func 87) #[] #[.pointer (some ⟨bd, 0, none⟩), .pointer (some ⟨bo, 0, none⟩)]] 143)) (.cells #[.int .i64 0, .int .i64 0, .int .i64 0, .int .i64 0] 106)
      simpa using this
  have HPC : Hid (Calls Try.prog 87 #[.int .i64 (a : Int), .int .i64 (k : Int), .pointer (some ⟨bd, 0, none⟩), .pointer (some ⟨bo, 0, none⟩)] w3 fun e w' => e = .returned (.int .i64 (b0 : Int)) ∧ ∃ D', PS w' s1 D' ∧ Kpt D w3 D' w') := by
    have h := hP w3 s D a k hps3 (by omega) (by omega) hk
    rw [← hb0, ← hs1] at h
    exact h
  subst haI
  subst hkI
  have HW3 : Hid (w3 = _) := hw3
  obtain ⟨hb1, hb2'⟩ := hb
  obtain ⟨hd1, hd2⟩ := hd
  obtain ⟨hl1, hl2⟩ := hl
  clear hP hB hS hLT hZ hps hR hb0 hs1 hbl hps3 hw3
  go_enter Try.func79, Try.ntmps79
  go_wp2_with fail
  rw [← HW3.out]
  refine HPC.out.mono ?_
  rintro e w5 ⟨rfl, D5, hp5, hk5⟩
  have hT5 := HT3.out.next hk5
  have HS5 : Hid (PS w5 s1 D5 ∧ Kpt D w D5 w5) := ⟨hp5, HK3.out.trans hk5⟩
  have HT5 : Hid (TB w.heap.size k b d l (.func (.func 87) #[] #[.pointer (some ⟨bd, 0, none⟩), .pointer (some ⟨bo, 0, none⟩)]) D5 w5) := hT5
  have x1 : w5.cell? ⟨w.heap.size, 1, none⟩ = some (.int .i64 b) := cell_of_row _ _ _ _ _ _ hT5.r0
  have x2 : w5.cell? ⟨w.heap.size, 2, none⟩ = some (.int .i64 d) := cell_of_row _ _ _ _ _ _ hT5.r0
  have x3 : w5.cell? ⟨w.heap.size, 3, none⟩ = some (.int .i64 l) := cell_of_row _ _ _ _ _ _ hT5.r0
  clear hT5 HT3 HK3 HPC hp5 hk5 HW3 ha hk
  by_cases h0 : b0 = 0
  · subst h0
    have HRR : Hid _ := HR.out
    simp only [if_pos] at HRR
    obtain ⟨n6, hn6⟩ : ∃ n, n = (thT bit nxt 1 b 8 1 s1).2 - 2 ^ 8 := ⟨_, rfl⟩
    obtain ⟨s6, hs6⟩ : ∃ s6, s6 = (thT bit nxt 1 b 8 1 s1).1 := ⟨_, rfl⟩
    have HC : Hid (Calls Try.prog 96 #[.int .i64 1, .int .i64 8, .int .i64 b, .pointer (some ⟨w.heap.size + 1, 0, none⟩)] w5 fun e w' => e = .returned (.int .i64 (n6 : Int)) ∧ ∃ D', PS w' s6 D' ∧ Kpt D5 w5 D' w') := HTR.out (w.heap.size + 1) 1 8 1 8 b s1 D5 w5 n6 s6 hn6 hs6 rfl rfl (Or.inl rfl) ⟨by omega, by omega⟩ ⟨by omega, by omega⟩ HS5.out.1 (by omega) (cell_of_row _ _ _ _ _ _ HT5.out.r1) HT5.out.n1
    rw [← hn6, ← hs6] at HRR
    clear HTR HR hn6 hs6 HZT hz1 hsz
    go_wp2_with fail
    refine HC.out.mono ?_
    rintro e w6 ⟨rfl, D6, hp6, hk6⟩
    have hT6 := HT5.out.next hk6
    have HS6 : Hid (PS w6 s6 D6 ∧ Kpt D w D6 w6 ∧ ¬ D6 (w.heap.size + 1 + 1)) := ⟨hp6, HS5.out.2.trans hk6, hT6.n2⟩
    have HR2 : Hid _ := hT6.r2
    have y0 : w6.cell? ⟨w.heap.size + 1 + 1, 0, none⟩ = some (.int .i64 0) := cell_of_row _ _ _ _ _ _ hT6.r2
    have z0 : w6.frozen? ⟨w.heap.size + 1 + 1, 0, none⟩ = false := frozen_of_row w6 (w.heap.size + 1 + 1) 0 _ _ hT6.r2
    have y1 : w6.cell? ⟨w.heap.size + 1 + 1, 1, none⟩ = some (.int .i64 0) := cell_of_row _ _ _ _ _ _ hT6.r2
    have z1 : w6.frozen? ⟨w.heap.size + 1 + 1, 1, none⟩ = false := frozen_of_row w6 (w.heap.size + 1 + 1) 1 _ _ hT6.r2
    have y2 : w6.cell? ⟨w.heap.size + 1 + 1, 2, none⟩ = some (.int .i64 0) := cell_of_row _ _ _ _ _ _ hT6.r2
    have z2 : w6.frozen? ⟨w.heap.size + 1 + 1, 2, none⟩ = false := frozen_of_row w6 (w.heap.size + 1 + 1) 2 _ _ hT6.r2
    have y3 : w6.cell? ⟨w.heap.size + 1 + 1, 3, none⟩ = some (.int .i64 0) := cell_of_row _ _ _ _ _ _ hT6.r2
    have z3 : w6.frozen? ⟨w.heap.size + 1 + 1, 3, none⟩ = false := frozen_of_row w6 (w.heap.size + 1 + 1) 3 _ _ hT6.r2
    clear HC HT5 HS5 hT6 hp6 hk6 x1 x2 x3
    go_wp2_with fail
    refine bodyPost_ret (results_cell_row rfl _ _ (w.heap.size + 1 + 1) 106 #[.int .i64 0, .int .i64 (n6 : Int), .int .i64 0, .int .i64 0] (0, 0) _ rfl (heap_setCell_same _ _ _ _ _ _ (heap_setCell_same _ _ _ _ _ _ (heap_setCell_same _ _ _ _ _ _ (heap_setCell_same _ _ _ _ _ _ HR2.out)))) Try.underlying106 rfl (by kernel_rfl)) rfl ⟨⟨R.2, rfl, ?_⟩, ?_⟩
    · rw [HRR.out]; first | rfl | simp
    · rw [HRR.out]; exact ⟨D6, HSS.out _ _ _ _ _ _ _ _ _ _ HS6.out.1 HS6.out.2.1 HS6.out.2.2 (by omega)⟩
  · have h0I : ¬ (b0 : Int) = 0 := by omega
    have HRR : Hid _ := HR.out
    simp only [if_neg h0] at HRR
    obtain ⟨d1, hd1e⟩ : ∃ d1, d1 = (d - 1).tdiv 64 := ⟨_, rfl⟩
    obtain ⟨d2, hd2e⟩ : ∃ d2, d2 = (d - 1).tmod 64 := ⟨_, rfl⟩
    have hdb : -5000 ≤ d1 ∧ d1 ≤ 5000 ∧ -5000 ≤ d2 ∧ d2 ≤ 5000 := by
      rw [hd1e, hd2e]
      by_cases hd0 : d = 0
      · subst hd0; decide
      · rw [Int.tdiv_eq_ediv_of_nonneg (by omega), Int.tmod_eq_emod_of_nonneg (by omega)]; omega
    obtain ⟨hq1, hq2, hq3, hq4⟩ := hdb
    have hv1 : (d - 1).tdiv 64 = d1 := hd1e.symm
    have hv2 : (d - 1).tmod 64 = d2 := hd2e.symm
    rw [← hd1e, ← hd2e] at HRR
    clear hd1e hd2e
    obtain ⟨n6, hn6⟩ : ∃ n, n = (thT bit nxt 260 (l - 3) 6 1 s1).2 - 2 ^ 6 := ⟨_, rfl⟩
    obtain ⟨s6, hs6⟩ : ∃ s6, s6 = (thT bit nxt 260 (l - 3) 6 1 s1).1 := ⟨_, rfl⟩
    rw [← hn6, ← hs6] at HRR
    obtain ⟨n7, hn7⟩ : ∃ n, n = (thT bit nxt 330 d1 6 1 s6).2 - 2 ^ 6 := ⟨_, rfl⟩
    obtain ⟨s7, hs7⟩ : ∃ q, q = (thT bit nxt 330 d1 6 1 s6).1 := ⟨_, rfl⟩
    rw [← hn7, ← hs7] at HRR
    obtain ⟨n8, hn8⟩ : ∃ n, n = (thT bit nxt 400 d2 6 1 s7).2 - 2 ^ 6 := ⟨_, rfl⟩
    obtain ⟨s8, hs8⟩ : ∃ q, q = (thT bit nxt 400 d2 6 1 s7).1 := ⟨_, rfl⟩
    rw [← hn8, ← hs8] at HRR
    have hz6 : sz s6 ≤ sz s + 7 := by rw [hs6]; have := HZT.out 260 (l - 3) s1; omega
    have hz7 : sz s7 ≤ sz s + 13 := by rw [hs7]; have := HZT.out 330 d1 s6; omega
    have hm6 : n6 < 64 := by have h := HLT.out 260 (l - 3) s1; rw [show (2 : Nat) ^ 7 = 128 by decide] at h; rw [hn6, show (2 : Nat) ^ 6 = 64 by decide]; omega
    have hm7 : n7 < 64 := by have h := HLT.out 330 d1 s6; rw [show (2 : Nat) ^ 7 = 128 by decide] at h; rw [hn7, show (2 : Nat) ^ 6 = 64 by decide]; omega
    have hm8 : n8 < 64 := by have h := HLT.out 400 d2 s7; rw [show (2 : Nat) ^ 7 = 128 by decide] at h; rw [hn8, show (2 : Nat) ^ 6 = 64 by decide]; omega
    have HC : Hid (Calls Try.prog 96 #[.int .i64 260, .int .i64 6, .int .i64 (l - 3), .pointer (some ⟨w.heap.size + 1, 0, none⟩)] w5 fun e w' => e = .returned (.int .i64 (n6 : Int)) ∧ ∃ D', PS w' s6 D' ∧ Kpt D5 w5 D' w') := HTR.out (w.heap.size + 1) 260 6 260 6 (l - 3) s1 D5 w5 n6 s6 hn6 hs6 rfl rfl (Or.inr rfl) ⟨by omega, by omega⟩ ⟨by omega, by omega⟩ HS5.out.1 (by omega) (cell_of_row _ _ _ _ _ _ HT5.out.r1) HT5.out.n1
    have HC7 : Hid (∀ w6 D6, PS w6 s6 D6 → TB w.heap.size k b d l (.func (.func 87) #[] #[.pointer (some ⟨bd, 0, none⟩), .pointer (some ⟨bo, 0, none⟩)]) D6 w6 → Calls Try.prog 96 #[.int .i64 330, .int .i64 6, .int .i64 d1, .pointer (some ⟨w.heap.size + 1, 0, none⟩)] w6 fun e w' => e = .returned (.int .i64 (n7 : Int)) ∧ ∃ D', PS w' s7 D' ∧ Kpt D6 w6 D' w') := fun w6 D6 hp ht => HTR.out (w.heap.size + 1) 330 6 330 6 d1 s6 D6 w6 n7 s7 hn7 hs7 rfl rfl (Or.inr rfl) ⟨by omega, by omega⟩ ⟨by omega, by omega⟩ hp (by omega) (cell_of_row _ _ _ _ _ _ ht.r1) ht.n1
    have HC8 : Hid (∀ w6 D6, PS w6 s7 D6 → TB w.heap.size k b d l (.func (.func 87) #[] #[.pointer (some ⟨bd, 0, none⟩), .pointer (some ⟨bo, 0, none⟩)]) D6 w6 → Calls Try.prog 96 #[.int .i64 400, .int .i64 6, .int .i64 d2, .pointer (some ⟨w.heap.size + 1, 0, none⟩)] w6 fun e w' => e = .returned (.int .i64 (n8 : Int)) ∧ ∃ D', PS w' s8 D' ∧ Kpt D6 w6 D' w') := fun w6 D6 hp ht => HTR.out (w.heap.size + 1) 400 6 400 6 d2 s7 D6 w6 n8 s8 hn8 hs8 rfl rfl (Or.inr rfl) ⟨by omega, by omega⟩ ⟨by omega, by omega⟩ hp (by omega) (cell_of_row _ _ _ _ _ _ ht.r1) ht.n1
    clear HTR HR hn6 hs6 hn7 hs7 hn8 hs8 HLT HZT hz1 hz6 hz7 hsz
    go_wp2_with fail
    refine HC.out.mono ?_
    rintro e w6 ⟨rfl, D6, hp6, hk6⟩
    have HT6 : Hid (TB w.heap.size k b d l (.func (.func 87) #[] #[.pointer (some ⟨bd, 0, none⟩), .pointer (some ⟨bo, 0, none⟩)]) D6 w6) := HT5.out.next hk6
    have HS6 : Hid (PS w6 s6 D6 ∧ Kpt D w D6 w6) := ⟨hp6, HS5.out.2.trans hk6⟩
    clear HC HT5 HS5 hp6 hk6 x1 x2 x3
    have x2 : w6.cell? ⟨w.heap.size, 2, none⟩ = some (.int .i64 d) := cell_of_row _ _ _ _ _ _ HT6.out.r0
    have HC := HC7.out w6 D6 HS6.out.1 HT6.out
    have HC : Hid (Calls Try.prog 96 #[.int .i64 330, .int .i64 6, .int .i64 d1, .pointer (some ⟨w.heap.size + 1, 0, none⟩)] w6 fun e w' => e = .returned (.int .i64 (n7 : Int)) ∧ ∃ D', PS w' s7 D' ∧ Kpt D6 w6 D' w') := HC
    go_wp2_with fail
    refine HC.out.mono ?_
    rintro e w7 ⟨rfl, D7, hp7, hk7⟩
    have HT7 : Hid (TB w.heap.size k b d l (.func (.func 87) #[] #[.pointer (some ⟨bd, 0, none⟩), .pointer (some ⟨bo, 0, none⟩)]) D7 w7) := HT6.out.next hk7
    have HS7 : Hid (PS w7 s7 D7 ∧ Kpt D w D7 w7) := ⟨hp7, HS6.out.2.trans hk7⟩
    clear HC HT6 HS6 hp7 hk7 x2 HC7
    have x2 : w7.cell? ⟨w.heap.size, 2, none⟩ = some (.int .i64 d) := cell_of_row _ _ _ _ _ _ HT7.out.r0
    have HC : Hid (Calls Try.prog 96 #[.int .i64 400, .int .i64 6, .int .i64 d2, .pointer (some ⟨w.heap.size + 1, 0, none⟩)] w7 fun e w' => e = .returned (.int .i64 (n8 : Int)) ∧ ∃ D', PS w' s8 D' ∧ Kpt D7 w7 D' w') := HC8.out w7 D7 HS7.out.1 HT7.out
    go_wp2_with fail
    refine HC.out.mono ?_
    rintro e w8 ⟨rfl, D8, hp8, hk8⟩
    have hT8 := HT7.out.next hk8
    have HS8 : Hid (PS w8 s8 D8 ∧ Kpt D w D8 w8) := ⟨hp8, HS7.out.2.trans hk8⟩
    have HR2 : Hid (TB w.heap.size k b d l (.func (.func 87) #[] #[.pointer (some ⟨bd, 0, none⟩), .pointer (some ⟨bo, 0, none⟩)]) D8 w8) := hT8
    have y0 : w8.cell? ⟨w.heap.size + 1 + 1, 0, none⟩ = some (.int .i64 0) := cell_of_row _ _ _ _ _ _ hT8.r2
    have z0 : w8.frozen? ⟨w.heap.size + 1 + 1, 0, none⟩ = false := frozen_of_row w8 (w.heap.size + 1 + 1) 0 _ _ hT8.r2
    have y1 : w8.cell? ⟨w.heap.size + 1 + 1, 1, none⟩ = some (.int .i64 0) := cell_of_row _ _ _ _ _ _ hT8.r2
    have z1 : w8.frozen? ⟨w.heap.size + 1 + 1, 1, none⟩ = false := frozen_of_row w8 (w.heap.size + 1 + 1) 1 _ _ hT8.r2
    have y2 : w8.cell? ⟨w.heap.size + 1 + 1, 2, none⟩ = some (.int .i64 0) := cell_of_row _ _ _ _ _ _ hT8.r2
    have z2 : w8.frozen? ⟨w.heap.size + 1 + 1, 2, none⟩ = false := frozen_of_row w8 (w.heap.size + 1 + 1) 2 _ _ hT8.r2
    have y3 : w8.cell? ⟨w.heap.size + 1 + 1, 3, none⟩ = some (.int .i64 0) := cell_of_row _ _ _ _ _ _ hT8.r2
    have z3 : w8.frozen? ⟨w.heap.size + 1 + 1, 3, none⟩ = false := frozen_of_row w8 (w.heap.size + 1 + 1) 3 _ _ hT8.r2
    clear HC HT7 HS7 hT8 hp8 hk8 x2 HC8
    obtain ⟨m, hm⟩ : ∃ m, m = n7 * 64 + n8 + 1 := ⟨_, rfl⟩
    obtain ⟨u, hu⟩ : ∃ u, u = n6 + 3 := ⟨_, rfl⟩
    have hu1 : (n7 : Int) * 64 + (n8 : Int) + 1 = (m : Int) := by omega
    have hu2 : (n6 : Int) + 3 = (u : Int) := by omega
    have hw1 : IntKind.i64.wrap (m : Int) = (m : Int) := by rw [IntKind.wrap_i64]; omega
    have hw2 : IntKind.i64.wrap (u : Int) = (u : Int) := by rw [IntKind.wrap_i64]; omega
    rw [← hm, ← hu] at HRR
    clear hm hu
    go_wp2_with fail
    refine bodyPost_ret (results_cell_row rfl _ _ (w.heap.size + 1 + 1) 106 #[.int .i64 1, .int .i64 0, .int .i64 (m : Int), .int .i64 (u : Int)] (0, 0) _ rfl (heap_setCell_same _ _ _ _ _ _ (heap_setCell_same _ _ _ _ _ _ (heap_setCell_same _ _ _ _ _ _ (heap_setCell_same _ _ _ _ _ _ HR2.out.r2)))) Try.underlying106 rfl (by kernel_rfl)) rfl ⟨⟨R.2, rfl, ?_⟩, ?_⟩
    · rw [HRR.out]; first | rfl | simp
    · rw [HRR.out]; exact ⟨D8, HSS.out _ _ _ _ _ _ _ _ _ _ HS8.out.1 HS8.out.2 HR2.out.n2 (by omega)⟩
end Go.Proofs.Ytbkjcngehhdchaa

/-!   Coding of ranges as plain mathematics: one choice of a coder that reads, at any bytes; at bytes that were written it reads what was written. -/
namespace Go.Proofs.Ytbkjcngehhdchaa
set_option linter.unusedVariables false

/-- a coder that reads -/
structure DS where
  width : Nat
  code : Nat
  probs : Nat → Nat
  rest : List Nat
/-- the shifts behind a choice: whether the bytes were there, width, code, what is left -/
def nrm : Nat → Nat → List Nat → Bool × Nat × Nat × List Nat
  | w, c, [] => (decide (16777216 ≤ w), w, c, [])
  | w, c, b :: r => if w < 16777216 then nrm (w * 256) (min (c * 256 + b) (w * 256)) r else (true, w, c, b :: r)
theorem nrm_done {w c : Nat} {l : List Nat} (h : 16777216 ≤ w) : nrm w c l = (true, w, c, l) := by
  cases l with
  | nil => simp [nrm, h]
  | cons b r => rw [nrm, if_neg (by omega)]
theorem nrm_step {w c b : Nat} {r : List Nat} (h : w < 16777216) : nrm w c (b :: r) = nrm (w * 256) (min (c * 256 + b) (w * 256)) r := by rw [nrm, if_pos h]
theorem nrm_end {w c : Nat} (h : w < 16777216) : nrm w c [] = (false, w, c, []) := by
  rw [nrm, decide_eq_false (by omega)]
def DS.bd (s : DS) (x : Nat) : Nat := s.width / 2048 * s.probs x
def DS.bit (s : DS) (x : Nat) : Nat := if s.code < s.bd x then 0 else 1
def DS.w1 (s : DS) (x : Nat) : Nat := if s.code < s.bd x then s.bd x else s.width - s.bd x
def DS.c1 (s : DS) (x : Nat) : Nat := if s.code < s.bd x then s.code else s.code - s.bd x
def DS.pr (s : DS) (x j : Nat) : Nat := if j = x then movP (s.probs x) (s.bit x) else s.probs j
def DS.nx (s : DS) (x : Nat) : Bool × Nat × Nat × List Nat := nrm (s.w1 x) (s.c1 x) s.rest
def DS.ok (s : DS) (x : Nat) : Bool := (s.nx x).1
def DS.tell (s : DS) (x : Nat) : Nat := if s.ok x then s.bit x else 0
def DS.go (s : DS) (x : Nat) : DS := ⟨(s.nx x).2.1, (s.nx x).2.2.1, s.pr x, (s.nx x).2.2.2⟩
structure DS.Fine (s : DS) : Prop where
  w : s.width < 4294967296
  c : s.code < 4294967296
  p : ∀ j, 1 ≤ s.probs j ∧ s.probs j ≤ 2047
  r : ∀ x ∈ s.rest, x < 256
theorem nrm_fine {w c : Nat} {l : List Nat} (hw : w < 4294967296) (hc : c < 4294967296) (hl : ∀ x ∈ l, x < 256) : (nrm w c l).2.1 < 4294967296 ∧ (nrm w c l).2.2.1 < 4294967296 ∧ ∀ x ∈ (nrm w c l).2.2.2, x < 256 := by
  induction l generalizing w c with
  | nil => exact ⟨hw, hc, hl⟩
  | cons b r ih =>
    by_cases h : w < 16777216
    · rw [nrm_step h]
      exact ih (by omega) (by omega) (fun x hx => hl x (List.mem_cons_of_mem _ hx))
    · rw [nrm_done (by omega)]; exact ⟨hw, hc, hl⟩
theorem DS.bd_le {s : DS} (h : s.Fine) (x : Nat) : s.bd x ≤ s.width := by
  have h2 := (h.p x).2
  unfold DS.bd
  have a2 : s.width / 2048 * s.probs x ≤ s.width / 2048 * 2047 := Nat.mul_le_mul_left _ h2
  omega
theorem DS.Fine.go {s : DS} (h : s.Fine) (x : Nat) : (s.go x).Fine := by
  have hb := DS.bd_le h x
  have h1 : s.w1 x < 4294967296 := by have := h.w; unfold DS.w1; split <;> omega
  have h2 : s.c1 x < 4294967296 := by have := h.c; unfold DS.c1; split <;> omega
  obtain ⟨a, b, c⟩ := nrm_fine h1 h2 h.r
  refine ⟨a, b, fun j => ?_, c⟩
  show 1 ≤ s.pr x j ∧ s.pr x j ≤ 2047
  unfold DS.pr; split
  · exact movP_in _ (h.p x)
  · exact h.p j
def DS.start (c : Nat) (r : List Nat) : DS := ⟨4294967295, c, fun _ => 1024, r⟩
theorem DS.start_fine {c : Nat} {r : List Nat} (hc : c < 4294967296) (hr : ∀ x ∈ r, x < 256) : (DS.start c r).Fine := ⟨by show 4294967295 < 4294967296; omega, hc, fun j => ⟨by show 1 ≤ 1024; omega, by show 1024 ≤ 2047; omega⟩, hr⟩

theorem shw_probs (s : RS) : s.shw.probs = s.probs := by unfold RS.shw RS.sh; split <;> rfl
theorem norm1_probs (s : RS) : s.norm1.probs = s.probs := by unfold RS.norm1; split; exact shw_probs s; rfl
theorem put_probs (s : RS) (x b : Nat) : (s.put x b).probs = s.moved x b := by
  unfold RS.put RS.norm
  rw [norm1_probs, norm1_probs]
  unfold RS.pre; split <;> rfl
theorem nrm_at1 {X : Nat} {Y : List Nat} {s t : RS} {code k : Nat} {rest : List Nat} (hX : X = val Y) (hb : ∀ x ∈ Y, x < 256) (h : At X Y s code rest) (hf : s.Fine) (hs : s.norm1.Sub t k) (hY : Y.length = t.out.length + 4) :
    ∃ c r, At X Y s.norm1 c r ∧ nrm s.width code rest = nrm s.norm1.width c r := by
  by_cases hw : s.width < 16777216
  · have e : s.norm1 = s.shw := by unfold RS.norm1; rw [if_pos hw]
    rw [e] at hs ⊢
    have hl := hs.len
    have hl2 := (shw_N hf).2
    obtain ⟨b, r, rfl, hb2, h2⟩ := h.shw hX hb hf (by omega)
    have hlt := h2.lt
    refine ⟨code * 256 + b, r, h2, ?_⟩
    rw [nrm_step hw, shw_width]
    rw [shw_width] at hlt
    rw [Nat.min_eq_left (by omega)]
  · have e : s.norm1 = s := by unfold RS.norm1; rw [if_neg hw]
    rw [e]
    exact ⟨code, rest, h, rfl⟩
/-- where one stands who reads what was written: the bit is the one that was written, and he stands where the one who wrote stood -/
theorem at_go {X : Nat} {Y : List Nat} {s t : RS} {code k x b : Nat} {rest : List Nat} (hX : X = val Y) (hb : ∀ x ∈ Y, x < 256) (h : At X Y s code rest) (hf : s.Fine) (hw : 16777216 ≤ s.width) (hbb : b = 0 ∨ b = 1)
    (hs : (s.put x b).Sub t k) (htw : 0 < t.width) (hY : Y.length = t.out.length + 4) (hXt : X = t.N) :
    ∃ c r, At X Y (s.put x b) c r ∧ DS.tell ⟨s.width, code, s.probs, rest⟩ x = b ∧ DS.ok ⟨s.width, code, s.probs, rest⟩ x = true ∧ DS.go ⟨s.width, code, s.probs, rest⟩ x = ⟨(s.put x b).width, c, (s.put x b).probs, r⟩ := by
  have hp := hf.pre hw x b
  obtain ⟨j1, hj1⟩ := sub_norm1 hp
  obtain ⟨j2, hj2⟩ := sub_norm1 hp.norm1
  have hs1 : (s.pre x b).norm1.Sub t (j2 + k) := hj2.trans hs
  have hs0 : (s.pre x b).Sub t (j1 + (j2 + k)) := hj1.trans hs1
  obtain ⟨h1, h2⟩ := h.pre hf hw hbb hs0 htw hY hXt
  obtain ⟨c1, r1, a1, n1⟩ := nrm_at1 hX hb h2 hp hs1 hY
  obtain ⟨c2, r2, a2, n2⟩ := nrm_at1 hX hb a1 hp.norm1 hs hY
  have hw2 := (hf.put hw x b).2
  have n3 : nrm (s.pre x b).width (if b = 0 then code else code - s.bound x) rest = (true, (s.put x b).width, c2, r2) := by
    rw [n1, n2]; exact nrm_done hw2
  have ebd : DS.bd ⟨s.width, code, s.probs, rest⟩ x = s.bound x := rfl
  have ebit : DS.bit ⟨s.width, code, s.probs, rest⟩ x = b := by
    unfold DS.bit; rw [ebd]
    show (if code < s.bound x then 0 else 1) = b
    rcases hbb with rfl | rfl
    · rw [if_pos (h1.1 rfl)]
    · rw [if_neg (fun q => by have := h1.2 q; omega)]
  have enx : DS.nx ⟨s.width, code, s.probs, rest⟩ x = (true, (s.put x b).width, c2, r2) := by
    rw [← n3]
    unfold DS.nx DS.w1 DS.c1
    rw [ebd]
    show nrm (if code < s.bound x then s.bound x else s.width - s.bound x) (if code < s.bound x then code else code - s.bound x) rest = _
    rcases hbb with rfl | rfl
    · have c := h1.1 rfl
      rw [if_pos c, if_pos c, if_pos rfl]; rfl
    · have c : ¬ code < s.bound x := fun q => by have := h1.2 q; omega
      rw [if_neg c, if_neg c, if_neg (by decide)]; rfl
  have eok : DS.ok ⟨s.width, code, s.probs, rest⟩ x = true := by unfold DS.ok; rw [enx]
  refine ⟨c2, r2, a2, by unfold DS.tell; rw [eok, ebit]; rfl, eok, ?_⟩
  unfold DS.go
  rw [enx, put_probs]
  congr 1
  funext j
  show DS.pr _ x j = _
  unfold DS.pr RS.moved
  rw [ebit]
/-- many choices -/
def DS.many (s : DS) : List Nat → DS
  | [] => s
  | x :: l => DS.many (s.go x) l
theorem at_many {X : Nat} {Y : List Nat} {s t : RS} {code k : Nat} {rest : List Nat} (hX : X = val Y) (hb : ∀ x ∈ Y, x < 256) (l : List (Nat × Nat)) (hl : OkC l) (h : At X Y s code rest) (hf : s.Fine) (hw : 16777216 ≤ s.width)
    (hs : (s.run l).Sub t k) (htw : 0 < t.width) (hY : Y.length = t.out.length + 4) (hXt : X = t.N) :
    ∃ c r, At X Y (s.run l) c r ∧ DS.many ⟨s.width, code, s.probs, rest⟩ (l.map (·.1)) = ⟨(s.run l).width, c, (s.run l).probs, r⟩ := by
  induction l generalizing s code rest with
  | nil => exact ⟨code, rest, h, rfl⟩
  | cons c l ih =>
    obtain ⟨h1, h2⟩ := hf.put hw c.1 c.2
    have hl2 : OkC l := fun d hd => hl d (List.mem_cons_of_mem _ hd)
    obtain ⟨k2, hk2⟩ := sub_run h1 h2 hl2
    obtain ⟨c', r', a', _, _, g'⟩ := at_go hX hb h hf hw (hl c (List.mem_cons_self ..)).2 (hk2.trans hs) htw hY hXt
    obtain ⟨c2, r2, a2, g2⟩ := ih hl2 a' h1 h2 hs
    refine ⟨c2, r2, a2, ?_⟩
    show DS.many (DS.go _ c.1) _ = _
    rw [g', g2]; rfl
end Go.Proofs.Ytbkjcngehhdchaa

/-!   A coder that reads: one choice, at any bytes. -/
namespace Go.Proofs.Ytbkjcngehhdchaa
open Go.RowKit
set_option linter.unusedVariables false
set_option linter.unusedSimpArgs false
def bl (R : ByteArray) : List Nat := R.data.toList.map (·.toNat)
theorem bl_lt (R : ByteArray) : ∀ x ∈ bl R, x < 256 := by
  intro x hx
  obtain ⟨c, _, rfl⟩ := List.mem_map.1 hx
  exact UInt8.toNat_lt c
theorem bl_nil {R : ByteArray} (h : R.size = 0) : bl R = [] := by
  have : R.data.toList = [] := by rw [Lib.size_eq] at h; exact List.length_eq_zero_iff.1 h
  unfold bl; rw [this]; rfl
theorem bl_cons {R : ByteArray} (h : 0 < R.size) : bl R = R[0].toNat :: bl (R.extract 1 R.size) := by
  have h2 : 0 < R.data.toList.length := by rw [← Lib.size_eq]; exact h
  unfold bl
  rw [Lib.extract_to_end]
  have e : R.data.toList = R.data.toList[0] :: R.data.toList.drop 1 := by rw [← List.drop_eq_getElem_cons h2]; rfl
  rw [e]; rfl
/-- a coder that reads, at block g -/
structure DEC (w : World) (g wd cd : Nat) (pr : Nat → Nat) (R : ByteArray) (C : Array Value) : Prop where
  row : w.heap[g]? = some (.cells C 152 (0, 0))
  sz : C.size = 515
  c0 : C[0]? = some (.int .i64 (wd : Int))
  cp : ∀ j, j < 512 → C[1 + j]? = some (.int .i64 (pr j : Int))
  cc : C[513]? = some (.int .i64 (cd : Int))
  cr : C[514]? = some (.string R)
theorem DEC.of_row {w w' : World} {g wd cd : Nat} {pr : Nat → Nat} {R : ByteArray} {C : Array Value} (h : DEC w g wd cd pr R C) (e : w'.heap[g]? = w.heap[g]?) : DEC w' g wd cd pr R C := ⟨e.trans h.row, h.sz, h.c0, h.cp, h.cc, h.cr⟩
theorem DEC.lt {w : World} {g wd cd : Nat} {pr : Nat → Nat} {R : ByteArray} {C : Array Value} (h : DEC w g wd cd pr R C) : g < w.heap.size := (Array.getElem?_eq_some_iff.1 h.row).1
theorem DEC.narrow {w w' : World} {g wd cd x wd' p' : Nat} {pr : Nat → Nat} {R : ByteArray} {C : Array Value} (h : DEC w g wd cd pr R C) (hx : x < 512) (hr : w'.heap[g]? = some (.cells (narC C x wd' p') 152 (0, 0))) :
    DEC w' g wd' cd (fun j => if j = x then p' else pr j) R (narC C x wd' p') := by
  refine ⟨hr, by simp [narC, h.sz], ?_, ?_, ?_, ?_⟩
  · unfold narC; rw [Array.getElem?_setIfInBounds_ne (by omega), Array.getElem?_setIfInBounds_self_of_lt (by rw [h.sz]; omega)]
  · intro j hj
    unfold narC
    by_cases e : j = x
    · subst e; rw [if_pos rfl, Array.getElem?_setIfInBounds_self_of_lt (by simp [h.sz]; omega)]
    · rw [if_neg e, Array.getElem?_setIfInBounds_ne (by omega), Array.getElem?_setIfInBounds_ne (by omega)]; exact h.cp j hj
  · unfold narC; rw [Array.getElem?_setIfInBounds_ne (by omega), Array.getElem?_setIfInBounds_ne (by omega)]; exact h.cc
  · unfold narC; rw [Array.getElem?_setIfInBounds_ne (by omega), Array.getElem?_setIfInBounds_ne (by omega)]; exact h.cr
theorem DEC.setw {w : World} {g wd cd : Nat} {pr : Nat → Nat} {R : ByteArray} {C : Array Value} (h : DEC w g wd cd pr R C) (wd' : Nat) : DEC (w.setCell ⟨g, 0, none⟩ (.int .i64 (wd' : Int))) g wd' cd pr R (C.setIfInBounds 0 (.int .i64 (wd' : Int))) :=
  ⟨heap_setCell_same _ _ _ _ _ _ h.row, by simp [h.sz], Array.getElem?_setIfInBounds_self_of_lt (by rw [h.sz]; omega), fun j hj => by rw [Array.getElem?_setIfInBounds_ne (by omega)]; exact h.cp j hj, by rw [Array.getElem?_setIfInBounds_ne (by omega)]; exact h.cc, by rw [Array.getElem?_setIfInBounds_ne (by omega)]; exact h.cr⟩
theorem DEC.setc {w : World} {g wd cd : Nat} {pr : Nat → Nat} {R : ByteArray} {C : Array Value} (h : DEC w g wd cd pr R C) (cd' : Nat) : DEC (w.setCell ⟨g, 513, none⟩ (.int .i64 (cd' : Int))) g wd cd' pr R (C.setIfInBounds 513 (.int .i64 (cd' : Int))) :=
  ⟨heap_setCell_same _ _ _ _ _ _ h.row, by simp [h.sz], by rw [Array.getElem?_setIfInBounds_ne (by omega)]; exact h.c0, fun j hj => by rw [Array.getElem?_setIfInBounds_ne (by omega)]; exact h.cp j hj, Array.getElem?_setIfInBounds_self_of_lt (by rw [h.sz]; omega), by rw [Array.getElem?_setIfInBounds_ne (by omega)]; exact h.cr⟩
theorem DEC.setr {w : World} {g wd cd : Nat} {pr : Nat → Nat} {R : ByteArray} {C : Array Value} (h : DEC w g wd cd pr R C) (R' : ByteArray) : DEC (w.setCell ⟨g, 514, none⟩ (.string R')) g wd cd pr R' (C.setIfInBounds 514 (.string R')) :=
  ⟨heap_setCell_same _ _ _ _ _ _ h.row, by simp [h.sz], by rw [Array.getElem?_setIfInBounds_ne (by omega)]; exact h.c0, fun j hj => by rw [Array.getElem?_setIfInBounds_ne (by omega)]; exact h.cp j hj, by rw [Array.getElem?_setIfInBounds_ne (by omega)]; exact h.cc, Array.getElem?_setIfInBounds_self_of_lt (by rw [h.sz]; omega)⟩
theorem grownBy_drewN (w : World) (n : Nat) (g : Option Nat) : w.grownBy (w.drewN n) g := ⟨rfl, rfl, rfl, Nat.le_refl _, fun _ _ _ => rfl⟩
theorem below_grownBy {w w' : World} (h : Below w.heap.size w w') (g : Option Nat) : w.grownBy w' g := ⟨h.os, h.tape, h.output, h.size, fun k hk _ => h.block k hk⟩
/-- a coder that reads stands at block g, as these numbers say -/
def DecAt (w : World) (g : Nat) (s : DS) : Prop := ∃ R C, DEC w g s.width s.code s.probs R C ∧ bl R = s.rest
def restAt (g : Nat) (w : World) : Nat := match w.cell? ⟨g, 514, none⟩ with | some (.string r) => r.size | _ => 0
theorem restAt_eq {w : World} {g : Nat} {r : ByteArray} (h : w.cell? ⟨g, 514, none⟩ = some (.string r)) : restAt g w = r.size := by unfold restAt; rw [h]
set_option maxRecDepth 100000 in
set_option maxHeartbeats 4000000 in
theorem dnext_any {w : World} {g x : Nat} {s : DS} (hs : s.Fine) (hD : DecAt w g s) (hx : x < 512) :
    Calls Try.prog 88 #[.pointer (some ⟨g, 0, none⟩), .int .i64 (x : Int)] w fun e w' => e = .returned (.tuple #[.int .i64 ((s.tell x : Nat) : Int), .bool (s.ok x)]) ∧ DecAt w' g (s.go x) ∧ w.grownBy w' (some g) := by
  obtain ⟨R, C, hE, hR⟩ := hD
  have hpr := hs.p x
  have hw2 := hs.w
  have hc2 := hs.c
  have hble := DS.bd_le hs x
  obtain ⟨bd, hbd⟩ : ∃ bd, bd = s.bd x := ⟨_, rfl⟩
  rw [← hbd] at hble
  have HBD : Hid (∀ w' : World, w'.heap[g]? = w.heap[g]? → Calls Try.prog 97 #[.pointer (some ⟨g, 0, none⟩), .int .i64 (x : Int)] w' fun e w'' => e = .returned (.int .i64 (bd : Int)) ∧ Below w'.heap.size w' w'') := fun w' e => by
    have h := hE.of_row e
    rw [hbd]
    exact bound_any g s.width x (s.probs x) w' hw2 hx hpr.2 ((cell_of_row w' g 0 _ _ _ h.row).trans h.c0) ((cell_of_row w' g (1 + x) _ _ _ h.row).trans (h.cp x hx))
  obtain ⟨N, hN⟩ : ∃ N, N = s.nx x := ⟨_, rfl⟩
  have HGO : Hid (∀ w' R' C', DEC w' g N.2.1 N.2.2.1 (s.pr x) R' C' → bl R' = N.2.2.2 → w.grownBy w' (some g) → DecAt w' g (s.go x) ∧ w.grownBy w' (some g)) := fun w' R' C' h1 h2 h3 => by
    rw [hN] at h1 h2
    exact ⟨⟨R', C', h1, h2⟩, h3⟩
  have HTN : Hid (N.1 = false → s.tell x = 0 ∧ s.ok x = false) := fun h => by
    have : s.ok x = false := by unfold DS.ok; rw [← hN]; exact h
    exact ⟨by unfold DS.tell; rw [this]; rfl, this⟩
  have HTY : Hid (N.1 = true → s.tell x = s.bit x ∧ s.ok x = true) := fun h => by
    have : s.ok x = true := by unfold DS.ok; rw [← hN]; exact h
    exact ⟨by unfold DS.tell; rw [this]; rfl, this⟩
  have HN0 : Hid (s.code < bd → s.bit x = 0 ∧ nrm bd s.code (bl R) = N ∧ s.pr x = fun j => if j = x then movP (s.probs x) 0 else s.probs j) := fun h => by
    have hb : s.bit x = 0 := by unfold DS.bit; rw [← hbd, if_pos h]
    refine ⟨hb, ?_, ?_⟩
    · rw [hN]; unfold DS.nx DS.w1 DS.c1; rw [← hbd, if_pos h, if_pos h, hR]
    · funext j; unfold DS.pr; rw [hb]
  have HN1 : Hid (¬ s.code < bd → s.bit x = 1 ∧ nrm (s.width - bd) (s.code - bd) (bl R) = N ∧ s.pr x = fun j => if j = x then movP (s.probs x) 1 else s.probs j) := fun h => by
    have hb : s.bit x = 1 := by unfold DS.bit; rw [← hbd, if_neg h]
    refine ⟨hb, ?_, ?_⟩
    · rw [hN]; unfold DS.nx DS.w1 DS.c1; rw [← hbd, if_neg h, if_neg h, hR]
    · funext j; unfold DS.pr; rw [hb]
  have HPX : Hid (1 ≤ s.probs x ∧ s.probs x ≤ 2047) := hpr
  generalize s.tell x = tl at HTN HTY ⊢
  generalize s.ok x = ok at HTN HTY ⊢
  generalize s.bit x = bt at HTY HN0 HN1
  generalize s.pr x = pr' at HGO HN0 HN1
  generalize s.go x = sg at HGO ⊢
  obtain ⟨wd, cd, pr, rs⟩ := s
  simp only at hE hw2 hc2 hble HN0 HN1 HPX
  clear hN hbd hpr hs hR
  obtain ⟨W1, hW1⟩ : ∃ W1, W1 = w.alloc (.cells #[.int .i64 (x : Int), .int .i64 0] 108) := ⟨_, rfl⟩
  have hgl := hE.lt
  have HE1 : Hid (DEC W1 g wd cd pr R C) := hE.of_row (by rw [hW1]; exact Below.heap_alloc _ _ _ hgl)
  have HBOX : Hid (W1.heap[w.heap.size]? = some (.cells #[.int .i64 (x : Int), .int .i64 0] 108 (0, 0))) := by rw [hW1]; exact heap_alloc_new _ _
  have HG1 : Hid (w.grownBy W1 (some g)) := by rw [hW1]; exact World.grownBy_alloc _ _ _
  have HBD2 : Hid (Calls Try.prog 97 #[.pointer (some ⟨g, 0, none⟩), .int .i64 (x : Int)] W1 fun e w'' => e = .returned (.int .i64 (bd : Int)) ∧ Below W1.heap.size W1 w'') := HBD.out W1 (by rw [hW1]; exact Below.heap_alloc _ _ _ hgl)
  have HGL : Hid (g < w.heap.size ∧ x < 512) := ⟨hgl, hx⟩
  clear hE HBD hgl
  go_enter Try.func88, Try.ntmps88
  go_wp2_with fail
  rw [← hW1]
  clear hW1
  refine HBD2.out.mono ?_
  rintro e w3 ⟨rfl, hb3⟩
  have HE3 : Hid (DEC w3 g wd cd pr R C) := HE1.out.of_row (hb3.block _ HE1.out.lt)
  have HBOX3 : Hid (w3.heap[w.heap.size]? = some (.cells #[.int .i64 (x : Int), .int .i64 0] 108 (0, 0))) := (hb3.block _ (Array.getElem?_eq_some_iff.1 HBOX.out).1).trans HBOX.out
  have HG3 : Hid (w.grownBy w3 (some g)) := HG1.out.trans (below_grownBy hb3 _)
  clear HE1 HBOX HG1 hb3 HBD2
  have k513 : w3.cell? ⟨g, 513, none⟩ = some (.int .i64 (cd : Int)) := (cell_of_row w3 g 513 _ _ _ HE3.out.row).trans HE3.out.cc
  have hbx1 : w3.cell? ⟨w.heap.size, 1, none⟩ = some (.int .i64 0) := cell_of_row w3 _ 1 _ _ _ HBOX3.out
  have hbz1 := frozen_of_row w3 w.heap.size 1 _ _ HBOX3.out
  have hz513 := frozen_of_row w3 g 513 _ _ HE3.out.row
  by_cases hlt : cd < bd
  · have hltI : ¬ (bd : Int) ≤ (cd : Int) := by omega
    clear hbx1 hbz1 hz513
    go_wp2_with fail
    clear k513
    obtain ⟨w4, hw4⟩ : ∃ w4, w4 = w3 := ⟨_, rfl⟩
    rw [← hw4] at HE3 HBOX3 HG3 ⊢
    obtain ⟨C4, hC4⟩ : ∃ C4, C4 = C := ⟨_, rfl⟩
    have HE4 : Hid (DEC w4 g wd cd pr R C4) := by rw [hC4]; exact HE3.out
    have HBOX4 : Hid _ := HBOX3.out
    have HG4 : Hid (w.grownBy w4 (some g)) := HG3.out
    clear hw4 hC4 HE3 HBOX3 HG3
    have HNAR : Hid (Calls Try.prog 99 #[.pointer (some ⟨g, 0, none⟩), .agg #[.int .i64 (x : Int), .int .i64 0], .int .i64 (bd : Int)] w4.drew fun e w' => (∃ v, e = .returned v) ∧ w'.heap[g]? = some (.cells (narC C4 x bd (movP (pr x) 0)) 152 (0, 0)) ∧ w4.drew.grownBy w' (some g)) := narrow_zero g wd x (pr x) bd C4 _ w4.drew HGL.out.2 HPX.out HE4.out.row HE4.out.c0 (HE4.out.cp x HGL.out.2)
    obtain ⟨S, hSS⟩ : ∃ S : World → Prop, S = fun w' => w'.cell? ⟨w.heap.size, 0, none⟩ = some (.int .i64 (x : Int)) ∧ w'.cell? ⟨w.heap.size, 1, none⟩ = some (.int .i64 0) := ⟨_, rfl⟩
    have HS : Hid (S = fun w' => w'.cell? ⟨w.heap.size, 0, none⟩ = some (.int .i64 (x : Int)) ∧ w'.cell? ⟨w.heap.size, 1, none⟩ = some (.int .i64 0)) := hSS
    have hSd : S w4.drew := by rw [hSS]; exact ⟨cell_of_row w4 _ 0 _ _ _ HBOX4.out, cell_of_row w4 _ 1 _ _ _ HBOX4.out⟩
    have HX2 : Hid (∀ w', S w' → w'.cell? ⟨w.heap.size, 0, none⟩ = some (.int .i64 (x : Int)) ∧ w'.cell? ⟨w.heap.size, 1, none⟩ = some (.int .i64 0)) := fun w' h => by rw [hSS] at h; exact h
    clear hSS
    refine wp_region_held (S := S) (by kernel_rfl) ?_
    change wpAnyH _ _ _ _ _ _ _ _ (World.drew _)
    refine wpAnyH_take (i := 0) (v := .pointer (some ⟨g, 0, none⟩)) rfl (by kernel_rfl) (by kernel_rfl) (by kernel_rfl) (fun _ _ _ h => h) (Or.inl ⟨by rfl, by intro w' hS'; go_simp <;> (first | omega | (rw [IntKind.wrap_i64]; omega) | (rw [IntKind.wrap_u64]; omega) | (rw [IntKind.wrap_u32]; omega) | (rw [Int.tmod_eq_emod_of_nonneg (by omega)]))⟩) hSd ?_
    (try simp only [List.getElem_toArray, List.getElem_cons_succ, List.getElem_cons_zero, Act.put, List.setIfInBounds_toArray, List.set_cons_zero, List.set_cons_succ])
    refine wpAnyH_take (i := 1) (v := .pointer (some ⟨g, 0, none⟩)) rfl (by kernel_rfl) (by kernel_rfl) (by kernel_rfl) (fun _ _ _ h => h) (Or.inl ⟨by rfl, by intro w' hS'; go_simp <;> (first | omega | (rw [IntKind.wrap_i64]; omega) | (rw [IntKind.wrap_u64]; omega) | (rw [IntKind.wrap_u32]; omega) | (rw [Int.tmod_eq_emod_of_nonneg (by omega)]))⟩) hSd ?_
    (try simp only [List.getElem_toArray, List.getElem_cons_succ, List.getElem_cons_zero, Act.put, List.setIfInBounds_toArray, List.set_cons_zero, List.set_cons_succ])
    refine wpAnyH_take (i := 2) (v := .pointer (some ⟨g, 0, none⟩)) rfl (by kernel_rfl) (by kernel_rfl) (by kernel_rfl) (fun _ _ _ h => h) (Or.inl ⟨by rfl, by intro w' hS'; go_simp <;> (first | omega | (rw [IntKind.wrap_i64]; omega) | (rw [IntKind.wrap_u64]; omega) | (rw [IntKind.wrap_u32]; omega) | (rw [Int.tmod_eq_emod_of_nonneg (by omega)]))⟩) hSd ?_
    (try simp only [List.getElem_toArray, List.getElem_cons_succ, List.getElem_cons_zero, Act.put, List.setIfInBounds_toArray, List.set_cons_zero, List.set_cons_succ])
    refine wpAnyH_take (i := 3) (v := .agg #[.int .i64 (x : Int), .int .i64 0]) rfl (by kernel_rfl) (by kernel_rfl) (by kernel_rfl) (fun _ _ _ h => h) (Or.inl ⟨by rfl, by intro w' hS'; have hx0 := (HX2.out w' hS').1; have hx1 := (HX2.out w' hS').2; go_simp <;> (first | omega | (rw [IntKind.wrap_i64]; omega) | (rw [IntKind.wrap_u64]; omega) | (rw [IntKind.wrap_u32]; omega) | (rw [Int.tmod_eq_emod_of_nonneg (by omega)]))⟩) hSd ?_
    (try simp only [List.getElem_toArray, List.getElem_cons_succ, List.getElem_cons_zero, Act.put, List.setIfInBounds_toArray, List.set_cons_zero, List.set_cons_succ])
    refine wpAnyH_take (i := 4) (v := .int .i64 (bd : Int)) rfl (by kernel_rfl) (by kernel_rfl) (by kernel_rfl) (fun _ _ _ h => h) (Or.inl ⟨by rfl, by intro w' hS'; go_simp <;> (first | omega | (rw [IntKind.wrap_i64]; omega) | (rw [IntKind.wrap_u64]; omega) | (rw [IntKind.wrap_u32]; omega) | (rw [Int.tmod_eq_emod_of_nonneg (by omega)]))⟩) hSd ?_
    (try simp only [List.getElem_toArray, List.getElem_cons_succ, List.getElem_cons_zero, Act.put, List.setIfInBounds_toArray, List.set_cons_zero, List.set_cons_succ])
    refine held_stepS (i := 5) (by kernel_rfl) rfl (by rfl) ?_
    go_simp
    refine (HNAR.out).mono ?_
    rintro e w5 ⟨⟨ve, rfl⟩, hr5, hg5⟩
    have hbx5 : w5.heap[w.heap.size]? = some (.cells #[.int .i64 (x : Int), .int .i64 0] 108 (0, 0)) := (hg5.block _ (Array.getElem?_eq_some_iff.1 HBOX4.out).1 (by intro c; have := Option.some.inj c; have := HGL.out.1; omega)).trans HBOX4.out
    refine ⟨by rw [HS.out]; exact ⟨cell_of_row w5 _ 0 _ _ _ hbx5, cell_of_row w5 _ 1 _ _ _ hbx5⟩, ?_⟩
    (try simp only [List.getElem_toArray, List.getElem_cons_succ, List.getElem_cons_zero, Act.put, List.setIfInBounds_toArray, List.set_cons_zero, List.set_cons_succ])
    refine wpAnyH_done (by kernel_rfl) ?_ _
    have hg6 : w4.grownBy w5 (some g) := ⟨hg5.os, hg5.tape, hg5.output, hg5.size, hg5.block⟩
    obtain ⟨hbt, hnr, hpr⟩ := HN0.out (by first | exact hlt | omega)
    have HE5 : Hid (DEC w5 g bd (cd) pr' R (narC C4 x bd (movP (pr x) 0))) := by rw [hpr]; exact HE4.out.narrow HGL.out.2 hr5
    have HG5 : Hid (w.grownBy w5 (some g)) := HG4.out.trans hg6
    have HBX5 : Hid (w5.heap[w.heap.size]? = some (.cells #[.int .i64 (x : Int), .int .i64 0] 108 (0, 0))) := hbx5
    have HNR : Hid (nrm bd (cd) (bl R) = N) := hnr
    have HBT : Hid (bt = 0) := hbt
    clear hr5 hg5 hg6 hbx5 hSd HX2 HS HNAR HE4 HBOX4 HG4 HN0 HN1 hbt hnr hpr
    go_wp2_with fail
    go_loopw [] (fun wr => ∃ (wd1 cd1 : Nat) (R1 : ByteArray) (C1 : Array Value), Hid (DEC wr g wd1 cd1 pr' R1 C1) ∧ wd1 < 4294967296 ∧ cd1 < 4294967296 ∧ Hid (nrm wd1 cd1 (bl R1) = N) ∧ Hid (wr.heap[w.heap.size]? = some (.cells #[.int .i64 (x : Int), .int .i64 0] 108 (0, 0))) ∧ Hid (w.grownBy wr (some g))) (fun wr => restAt g wr)
    case atStart => exact ⟨bd, cd, R, _, HE5, by omega, by omega, HNR, HBX5, HG5⟩
    case round =>
      clear HE5 HG5 HBX5 HNR
      obtain ⟨wd1, cd1, R1, C1, HE, hw1, hc1, HNR, HBX, HG⟩ := hrel
      have x0 : wr.cell? ⟨g, 0, none⟩ = some (.int .i64 (wd1 : Int)) := (cell_of_row wr g 0 _ _ _ HE.out.row).trans HE.out.c0
      have x514 : wr.cell? ⟨g, 514, none⟩ = some (.string R1) := (cell_of_row wr g 514 _ _ _ HE.out.row).trans HE.out.cr
      have HMW : Hid (restAt g wr = R1.size) := restAt_eq x514
      by_cases hwl : wd1 < 16777216
      · have hwlI : (wd1 : Int) < 16777216 := by omega
        by_cases hr0 : R1.size = 0
        · have hte : R1.toList.isEmpty = true := by rw [Lib.toList_data]; have h := Lib.size_eq R1; rw [hr0] at h; rw [List.length_eq_zero_iff.1 h.symm]; rfl
          have hn := HNR.out
          rw [bl_nil hr0, nrm_end hwl] at hn
          obtain ⟨rfl, rfl⟩ := HTN.out (by rw [← hn])
          have HFIN : Hid (DecAt wr g sg ∧ w.grownBy wr (some g)) := HGO.out wr R1 C1 (by rw [← hn]; exact HE.out) (by rw [← hn, bl_nil hr0]) HG.out
          clear hn HGO HNR HE HBX HG HTN HTY HBT hr0
          go_wp2_with fail
          go_ret2
          exact ⟨rfl, HFIN.out⟩
        · have hr1 : 0 < R1.size := by omega
          have hr1I : (0 : Int) < (R1.size : Int) := by omega
          have hr2I : (1 : Int) ≤ (R1.size : Int) := by omega
          have hte : R1.toList.isEmpty = false := by
            rw [Lib.toList_data]
            cases h : R1.data.toList with
            | nil =>
              have h2 : R1.size = 0 := by rw [Lib.size_eq, h]; rfl
              omega
            | cons _ _ => rfl
          obtain ⟨b1, hb1⟩ : ∃ b1 : Nat, b1 = R1[0].toNat := ⟨_, rfl⟩
          have hb256 : b1 < 256 := by rw [hb1]; exact UInt8.toNat_lt _
          have hb1I : ((R1[0].toNat : Nat) : Int) = (b1 : Int) := by rw [hb1]
          obtain ⟨wd2, hwd2⟩ : ∃ wd2, wd2 = wd1 * 256 := ⟨_, rfl⟩
          obtain ⟨c2, hc2e⟩ : ∃ c2, c2 = cd1 * 256 := ⟨_, rfl⟩
          obtain ⟨c3, hc3e⟩ : ∃ c3, c3 = min (cd1 * 256 + b1) (wd1 * 256) := ⟨_, rfl⟩
          have hn := HNR.out
          rw [bl_cons hr1, nrm_step hwl, ← hb1, ← hc3e, ← hwd2] at hn
          have HNR2 : Hid (nrm wd2 c3 (bl (R1.extract 1 R1.size)) = N) := hn
          have f1 : IntKind.i64.wrap ((wd1 : Int) * 256) = (wd2 : Int) := by rw [IntKind.wrap_i64]; omega
          have f1b : (wd1 : Int) * 256 = (wd2 : Int) := by omega
          have f2 : IntKind.i64.wrap ((cd1 : Int) * 256) = (c2 : Int) := by rw [IntKind.wrap_i64]; omega
          have f2b : (cd1 : Int) * 256 = (c2 : Int) := by omega
          have f3 : IntKind.i64.wrap ((c2 : Int) + (b1 : Int)) = (c2 : Int) + (b1 : Int) := by rw [IntKind.wrap_i64]; omega
          have f4 : min ((c2 : Int) + (b1 : Int)) (wd2 : Int) = (c3 : Int) := by omega
          have f5 : IntKind.i64.wrap (b1 : Int) = (b1 : Int) := by rw [IntKind.wrap_i64]; omega
          have hw2b : wd2 < 4294967296 := by omega
          have hc3b : c3 < 4294967296 := by omega
          have z0 := frozen_of_row wr g 0 _ _ HE.out.row
          obtain ⟨W2, hW2⟩ : ∃ W2, W2 = wr.setCell ⟨g, 0, none⟩ (.int .i64 (wd2 : Int)) := ⟨_, rfl⟩
          have HE2 : Hid (DEC W2 g wd2 cd1 pr' R1 (C1.setIfInBounds 0 (.int .i64 (wd2 : Int)))) := by rw [hW2]; exact HE.out.setw wd2
          have HG2 : Hid (w.grownBy W2 (some g)) := by rw [hW2]; exact HG.out.trans (grownBy_setC _ g 0 _)
          have HB2 : Hid (W2.heap[w.heap.size]? = some (.cells #[.int .i64 (x : Int), .int .i64 0] 108 (0, 0))) := by rw [hW2]; exact (heap_setCell_other _ _ _ _ (by show w.heap.size ≠ g; have := HGL.out.1; omega)).trans HBX.out
          clear hn HNR HE HBX HG hwd2 hc2e hc3e hb1 hr0 hwl
          go_wp2_with fail
          rw [← hW2]
          clear hW2 x0 x514 z0
          have y0 : W2.cell? ⟨g, 0, none⟩ = some (.int .i64 (wd2 : Int)) := (cell_of_row W2 g 0 _ _ _ HE2.out.row).trans HE2.out.c0
          have y513 : W2.cell? ⟨g, 513, none⟩ = some (.int .i64 (cd1 : Int)) := (cell_of_row W2 g 513 _ _ _ HE2.out.row).trans HE2.out.cc
          have y514 : W2.cell? ⟨g, 514, none⟩ = some (.string R1) := (cell_of_row W2 g 514 _ _ _ HE2.out.row).trans HE2.out.cr
          have w513 := frozen_of_row W2 g 513 _ _ HE2.out.row
          go_region
          try rw [show (if (wd2 : Int) < (c2 : Int) + (b1 : Int) then (wd2 : Int) else (c2 : Int) + (b1 : Int)) = (c3 : Int) from by split <;> omega]
          obtain ⟨W3, hW3⟩ : ∃ W3, W3 = (W2.setCell ⟨g, 513, none⟩ (.int .i64 (c3 : Int))).drew := ⟨_, rfl⟩
          have HE3 : Hid (DEC W3 g wd2 c3 pr' R1 ((C1.setIfInBounds 0 (.int .i64 (wd2 : Int))).setIfInBounds 513 (.int .i64 (c3 : Int)))) := by rw [hW3]; exact (HE2.out.setc c3).of_row rfl
          have HG3 : Hid (w.grownBy W3 (some g)) := by rw [hW3]; exact (HG2.out.trans (grownBy_setC _ g 513 _)).trans (grownBy_drewN _ 1 _)
          have HB3 : Hid (W3.heap[w.heap.size]? = some (.cells #[.int .i64 (x : Int), .int .i64 0] 108 (0, 0))) := by rw [hW3]; exact (heap_setCell_other _ _ _ _ (by show w.heap.size ≠ g; have := HGL.out.1; omega)).trans HB2.out
          rw [← hW3]
          clear hW3 HE2 HG2 HB2 y0 y513 y514 w513 f1 f1b f2 f2b f3 f4 f5 hte hb1I
          have v514 : W3.cell? ⟨g, 514, none⟩ = some (.string R1) := (cell_of_row W3 g 514 _ _ _ HE3.out.row).trans HE3.out.cr
          have q514 := frozen_of_row W3 g 514 _ _ HE3.out.row
          have HME : Hid (restAt g wr = R1.size) := HMW
          go_wp2_with fail
          go_roundw
          case rel => exact ⟨wd2, c3, R1.extract 1 R1.size, _, HE3.out.setr (R1.extract 1 R1.size), hw2b, hc3b, HNR2, (heap_setCell_other _ _ _ _ (by show w.heap.size ≠ g; have := HGL.out.1; omega)).trans HB3.out, HG3.out.trans (grownBy_setC _ g 514 _)⟩
          case measure =>
            rw [HME.out]
            have h2 := HE3.out.setr (R1.extract 1 R1.size)
            have h3 := restAt_eq ((cell_of_row _ g 514 _ _ _ h2.row).trans h2.cr)
            rw [h3, ByteArray.size_extract]
            omega
      · have hn := HNR.out
        rw [nrm_done (by omega)] at hn
        obtain ⟨rfl, rfl⟩ := HTY.out (by rw [← hn])
        obtain rfl := HBT.out
        have HFIN : Hid (DecAt wr g sg ∧ w.grownBy wr (some g)) := HGO.out wr R1 C1 (by rw [← hn]; exact HE.out) (by rw [← hn]) HG.out
        have hwlI : ¬ (wd1 : Int) < 16777216 := by omega
        have bx1 : wr.cell? ⟨w.heap.size, 1, none⟩ = some (.int .i64 0) := cell_of_row wr _ 1 _ _ _ HBX.out
        clear hn HGO HNR HE HBX HG HTN HTY
        go_wp2_with fail
        go_ret2
        exact ⟨rfl, HFIN.out⟩
  · have hltI : (bd : Int) ≤ (cd : Int) := by omega
    obtain ⟨cd2, hcd2⟩ : ∃ cd2, cd2 = cd - bd := ⟨_, rfl⟩
    have hsub : IntKind.i64.wrap ((cd : Int) - (bd : Int)) = (cd2 : Int) := by rw [IntKind.wrap_i64]; omega
    have hsub2 : (cd : Int) - (bd : Int) = (cd2 : Int) := by omega
    obtain ⟨w4, hw4⟩ : ∃ w4, w4 = (w3.setCell ⟨w.heap.size, 1, none⟩ (.int .i64 1)).setCell ⟨g, 513, none⟩ (.int .i64 (cd2 : Int)) := ⟨_, rfl⟩
    have hne : w.heap.size ≠ g := by have := HGL.out.1; omega
    have hgne : ¬ g = w.heap.size := fun e => hne e.symm
    have HE4 : Hid (DEC w4 g wd (cd - bd) pr R (C.setIfInBounds 513 (.int .i64 (cd2 : Int)))) := by rw [hw4, ← hcd2]; exact (HE3.out.of_row (heap_setCell_other _ _ _ _ hgne)).setc cd2
    have HBOX4 : Hid (w4.heap[w.heap.size]? = some (.cells #[.int .i64 (x : Int), .int .i64 1] 108 (0, 0))) := by rw [hw4]; exact (heap_setCell_other _ _ _ _ hne).trans (heap_setCell_same _ _ _ _ _ _ HBOX3.out)
    have HG4 : Hid (w.grownBy w4 (some g)) := by rw [hw4]; exact ⟨HG3.out.os, HG3.out.tape, HG3.out.output, by simpa using HG3.out.size, fun k hk hne2 => (heap_setCell_other _ _ _ _ (fun e => hne2 (by rw [e]))).trans ((heap_setCell_other _ _ _ _ (by show k ≠ w.heap.size; omega)).trans (HG3.out.block k hk hne2))⟩
    clear HE3 HBOX3 HG3 hcd2
    go_wp2_with fail
    rw [← hw4]
    clear hw4 k513 hbx1 hbz1 hz513 hsub hsub2
    generalize C.setIfInBounds 513 (.int .i64 (cd2 : Int)) = C4 at HE4
    have HNAR : Hid (Calls Try.prog 99 #[.pointer (some ⟨g, 0, none⟩), .agg #[.int .i64 (x : Int), .int .i64 1], .int .i64 (bd : Int)] w4.drew fun e w' => (∃ v, e = .returned v) ∧ w'.heap[g]? = some (.cells (narC C4 x (wd - bd) (movP (pr x) 1)) 152 (0, 0)) ∧ w4.drew.grownBy w' (some g)) := narrow_one g wd x (pr x) bd C4 _ w4.drew hw2 hble HGL.out.2 HPX.out HE4.out.row HE4.out.c0 (HE4.out.cp x HGL.out.2)
    obtain ⟨S, hSS⟩ : ∃ S : World → Prop, S = fun w' => w'.cell? ⟨w.heap.size, 0, none⟩ = some (.int .i64 (x : Int)) ∧ w'.cell? ⟨w.heap.size, 1, none⟩ = some (.int .i64 1) := ⟨_, rfl⟩
    have HS : Hid (S = fun w' => w'.cell? ⟨w.heap.size, 0, none⟩ = some (.int .i64 (x : Int)) ∧ w'.cell? ⟨w.heap.size, 1, none⟩ = some (.int .i64 1)) := hSS
    have hSd : S w4.drew := by rw [hSS]; exact ⟨cell_of_row w4 _ 0 _ _ _ HBOX4.out, cell_of_row w4 _ 1 _ _ _ HBOX4.out⟩
    have HX2 : Hid (∀ w', S w' → w'.cell? ⟨w.heap.size, 0, none⟩ = some (.int .i64 (x : Int)) ∧ w'.cell? ⟨w.heap.size, 1, none⟩ = some (.int .i64 1)) := fun w' h => by rw [hSS] at h; exact h
    clear hSS
    refine wp_region_held (S := S) (by kernel_rfl) ?_
    change wpAnyH _ _ _ _ _ _ _ _ (World.drew _)
    refine wpAnyH_take (i := 0) (v := .pointer (some ⟨g, 0, none⟩)) rfl (by kernel_rfl) (by kernel_rfl) (by kernel_rfl) (fun _ _ _ h => h) (Or.inl ⟨by rfl, by intro w' hS'; go_simp <;> (first | omega | (rw [IntKind.wrap_i64]; omega) | (rw [IntKind.wrap_u64]; omega) | (rw [IntKind.wrap_u32]; omega) | (rw [Int.tmod_eq_emod_of_nonneg (by omega)]))⟩) hSd ?_
    (try simp only [List.getElem_toArray, List.getElem_cons_succ, List.getElem_cons_zero, Act.put, List.setIfInBounds_toArray, List.set_cons_zero, List.set_cons_succ])
    refine wpAnyH_take (i := 1) (v := .pointer (some ⟨g, 0, none⟩)) rfl (by kernel_rfl) (by kernel_rfl) (by kernel_rfl) (fun _ _ _ h => h) (Or.inl ⟨by rfl, by intro w' hS'; go_simp <;> (first | omega | (rw [IntKind.wrap_i64]; omega) | (rw [IntKind.wrap_u64]; omega) | (rw [IntKind.wrap_u32]; omega) | (rw [Int.tmod_eq_emod_of_nonneg (by omega)]))⟩) hSd ?_
    (try simp only [List.getElem_toArray, List.getElem_cons_succ, List.getElem_cons_zero, Act.put, List.setIfInBounds_toArray, List.set_cons_zero, List.set_cons_succ])
    refine wpAnyH_take (i := 2) (v := .pointer (some ⟨g, 0, none⟩)) rfl (by kernel_rfl) (by kernel_rfl) (by kernel_rfl) (fun _ _ _ h => h) (Or.inl ⟨by rfl, by intro w' hS'; go_simp <;> (first | omega | (rw [IntKind.wrap_i64]; omega) | (rw [IntKind.wrap_u64]; omega) | (rw [IntKind.wrap_u32]; omega) | (rw [Int.tmod_eq_emod_of_nonneg (by omega)]))⟩) hSd ?_
    (try simp only [List.getElem_toArray, List.getElem_cons_succ, List.getElem_cons_zero, Act.put, List.setIfInBounds_toArray, List.set_cons_zero, List.set_cons_succ])
    refine wpAnyH_take (i := 3) (v := .agg #[.int .i64 (x : Int), .int .i64 1]) rfl (by kernel_rfl) (by kernel_rfl) (by kernel_rfl) (fun _ _ _ h => h) (Or.inl ⟨by rfl, by intro w' hS'; have hx0 := (HX2.out w' hS').1; have hx1 := (HX2.out w' hS').2; go_simp <;> (first | omega | (rw [IntKind.wrap_i64]; omega) | (rw [IntKind.wrap_u64]; omega) | (rw [IntKind.wrap_u32]; omega) | (rw [Int.tmod_eq_emod_of_nonneg (by omega)]))⟩) hSd ?_
    (try simp only [List.getElem_toArray, List.getElem_cons_succ, List.getElem_cons_zero, Act.put, List.setIfInBounds_toArray, List.set_cons_zero, List.set_cons_succ])
    refine wpAnyH_take (i := 4) (v := .int .i64 (bd : Int)) rfl (by kernel_rfl) (by kernel_rfl) (by kernel_rfl) (fun _ _ _ h => h) (Or.inl ⟨by rfl, by intro w' hS'; go_simp <;> (first | omega | (rw [IntKind.wrap_i64]; omega) | (rw [IntKind.wrap_u64]; omega) | (rw [IntKind.wrap_u32]; omega) | (rw [Int.tmod_eq_emod_of_nonneg (by omega)]))⟩) hSd ?_
    (try simp only [List.getElem_toArray, List.getElem_cons_succ, List.getElem_cons_zero, Act.put, List.setIfInBounds_toArray, List.set_cons_zero, List.set_cons_succ])
    refine held_stepS (i := 5) (by kernel_rfl) rfl (by rfl) ?_
    go_simp
    refine (HNAR.out).mono ?_
    rintro e w5 ⟨⟨ve, rfl⟩, hr5, hg5⟩
    have hbx5 : w5.heap[w.heap.size]? = some (.cells #[.int .i64 (x : Int), .int .i64 1] 108 (0, 0)) := (hg5.block _ (Array.getElem?_eq_some_iff.1 HBOX4.out).1 (by intro c; have := Option.some.inj c; have := HGL.out.1; omega)).trans HBOX4.out
    refine ⟨by rw [HS.out]; exact ⟨cell_of_row w5 _ 0 _ _ _ hbx5, cell_of_row w5 _ 1 _ _ _ hbx5⟩, ?_⟩
    (try simp only [List.getElem_toArray, List.getElem_cons_succ, List.getElem_cons_zero, Act.put, List.setIfInBounds_toArray, List.set_cons_zero, List.set_cons_succ])
    refine wpAnyH_done (by kernel_rfl) ?_ _
    have hg6 : w4.grownBy w5 (some g) := ⟨hg5.os, hg5.tape, hg5.output, hg5.size, hg5.block⟩
    obtain ⟨hbt, hnr, hpr⟩ := HN1.out (by first | exact hlt | omega)
    have HE5 : Hid (DEC w5 g (wd - bd) (cd - bd) pr' R (narC C4 x (wd - bd) (movP (pr x) 1))) := by rw [hpr]; exact HE4.out.narrow HGL.out.2 hr5
    have HG5 : Hid (w.grownBy w5 (some g)) := HG4.out.trans hg6
    have HBX5 : Hid (w5.heap[w.heap.size]? = some (.cells #[.int .i64 (x : Int), .int .i64 1] 108 (0, 0))) := hbx5
    have HNR : Hid (nrm (wd - bd) (cd - bd) (bl R) = N) := hnr
    have HBT : Hid (bt = 1) := hbt
    clear hr5 hg5 hg6 hbx5 hSd HX2 HS HNAR HE4 HBOX4 HG4 HN0 HN1 hbt hnr hpr
    go_wp2_with fail
    go_loopw [] (fun wr => ∃ (wd1 cd1 : Nat) (R1 : ByteArray) (C1 : Array Value), Hid (DEC wr g wd1 cd1 pr' R1 C1) ∧ wd1 < 4294967296 ∧ cd1 < 4294967296 ∧ Hid (nrm wd1 cd1 (bl R1) = N) ∧ Hid (wr.heap[w.heap.size]? = some (.cells #[.int .i64 (x : Int), .int .i64 1] 108 (0, 0))) ∧ Hid (w.grownBy wr (some g))) (fun wr => restAt g wr)
    case atStart => exact ⟨(wd - bd), cd - bd, R, _, HE5, by omega, by omega, HNR, HBX5, HG5⟩
    case round =>
      clear HE5 HG5 HBX5 HNR
      obtain ⟨wd1, cd1, R1, C1, HE, hw1, hc1, HNR, HBX, HG⟩ := hrel
      have x0 : wr.cell? ⟨g, 0, none⟩ = some (.int .i64 (wd1 : Int)) := (cell_of_row wr g 0 _ _ _ HE.out.row).trans HE.out.c0
      have x514 : wr.cell? ⟨g, 514, none⟩ = some (.string R1) := (cell_of_row wr g 514 _ _ _ HE.out.row).trans HE.out.cr
      have HMW : Hid (restAt g wr = R1.size) := restAt_eq x514
      by_cases hwl : wd1 < 16777216
      · have hwlI : (wd1 : Int) < 16777216 := by omega
        by_cases hr0 : R1.size = 0
        · have hte : R1.toList.isEmpty = true := by rw [Lib.toList_data]; have h := Lib.size_eq R1; rw [hr0] at h; rw [List.length_eq_zero_iff.1 h.symm]; rfl
          have hn := HNR.out
          rw [bl_nil hr0, nrm_end hwl] at hn
          obtain ⟨rfl, rfl⟩ := HTN.out (by rw [← hn])
          have HFIN : Hid (DecAt wr g sg ∧ w.grownBy wr (some g)) := HGO.out wr R1 C1 (by rw [← hn]; exact HE.out) (by rw [← hn, bl_nil hr0]) HG.out
          clear hn HGO HNR HE HBX HG HTN HTY HBT hr0
          go_wp2_with fail
          go_ret2
          exact ⟨rfl, HFIN.out⟩
        · have hr1 : 0 < R1.size := by omega
          have hr1I : (0 : Int) < (R1.size : Int) := by omega
          have hr2I : (1 : Int) ≤ (R1.size : Int) := by omega
          have hte : R1.toList.isEmpty = false := by
            rw [Lib.toList_data]
            cases h : R1.data.toList with
            | nil =>
              have h2 : R1.size = 0 := by rw [Lib.size_eq, h]; rfl
              omega
            | cons _ _ => rfl
          obtain ⟨b1, hb1⟩ : ∃ b1 : Nat, b1 = R1[0].toNat := ⟨_, rfl⟩
          have hb256 : b1 < 256 := by rw [hb1]; exact UInt8.toNat_lt _
          have hb1I : ((R1[0].toNat : Nat) : Int) = (b1 : Int) := by rw [hb1]
          obtain ⟨wd2, hwd2⟩ : ∃ wd2, wd2 = wd1 * 256 := ⟨_, rfl⟩
          obtain ⟨c2, hc2e⟩ : ∃ c2, c2 = cd1 * 256 := ⟨_, rfl⟩
          obtain ⟨c3, hc3e⟩ : ∃ c3, c3 = min (cd1 * 256 + b1) (wd1 * 256) := ⟨_, rfl⟩
          have hn := HNR.out
          rw [bl_cons hr1, nrm_step hwl, ← hb1, ← hc3e, ← hwd2] at hn
          have HNR2 : Hid (nrm wd2 c3 (bl (R1.extract 1 R1.size)) = N) := hn
          have f1 : IntKind.i64.wrap ((wd1 : Int) * 256) = (wd2 : Int) := by rw [IntKind.wrap_i64]; omega
          have f1b : (wd1 : Int) * 256 = (wd2 : Int) := by omega
          have f2 : IntKind.i64.wrap ((cd1 : Int) * 256) = (c2 : Int) := by rw [IntKind.wrap_i64]; omega
          have f2b : (cd1 : Int) * 256 = (c2 : Int) := by omega
          have f3 : IntKind.i64.wrap ((c2 : Int) + (b1 : Int)) = (c2 : Int) + (b1 : Int) := by rw [IntKind.wrap_i64]; omega
          have f4 : min ((c2 : Int) + (b1 : Int)) (wd2 : Int) = (c3 : Int) := by omega
          have f5 : IntKind.i64.wrap (b1 : Int) = (b1 : Int) := by rw [IntKind.wrap_i64]; omega
          have hw2b : wd2 < 4294967296 := by omega
          have hc3b : c3 < 4294967296 := by omega
          have z0 := frozen_of_row wr g 0 _ _ HE.out.row
          obtain ⟨W2, hW2⟩ : ∃ W2, W2 = wr.setCell ⟨g, 0, none⟩ (.int .i64 (wd2 : Int)) := ⟨_, rfl⟩
          have HE2 : Hid (DEC W2 g wd2 cd1 pr' R1 (C1.setIfInBounds 0 (.int .i64 (wd2 : Int)))) := by rw [hW2]; exact HE.out.setw wd2
          have HG2 : Hid (w.grownBy W2 (some g)) := by rw [hW2]; exact HG.out.trans (grownBy_setC _ g 0 _)
          have HB2 : Hid (W2.heap[w.heap.size]? = some (.cells #[.int .i64 (x : Int), .int .i64 1] 108 (0, 0))) := by rw [hW2]; exact (heap_setCell_other _ _ _ _ (by show w.heap.size ≠ g; have := HGL.out.1; omega)).trans HBX.out
          clear hn HNR HE HBX HG hwd2 hc2e hc3e hb1 hr0 hwl
          go_wp2_with fail
          rw [← hW2]
          clear hW2 x0 x514 z0
          have y0 : W2.cell? ⟨g, 0, none⟩ = some (.int .i64 (wd2 : Int)) := (cell_of_row W2 g 0 _ _ _ HE2.out.row).trans HE2.out.c0
          have y513 : W2.cell? ⟨g, 513, none⟩ = some (.int .i64 (cd1 : Int)) := (cell_of_row W2 g 513 _ _ _ HE2.out.row).trans HE2.out.cc
          have y514 : W2.cell? ⟨g, 514, none⟩ = some (.string R1) := (cell_of_row W2 g 514 _ _ _ HE2.out.row).trans HE2.out.cr
          have w513 := frozen_of_row W2 g 513 _ _ HE2.out.row
          go_region
          try rw [show (if (wd2 : Int) < (c2 : Int) + (b1 : Int) then (wd2 : Int) else (c2 : Int) + (b1 : Int)) = (c3 : Int) from by split <;> omega]
          obtain ⟨W3, hW3⟩ : ∃ W3, W3 = (W2.setCell ⟨g, 513, none⟩ (.int .i64 (c3 : Int))).drew := ⟨_, rfl⟩
          have HE3 : Hid (DEC W3 g wd2 c3 pr' R1 ((C1.setIfInBounds 0 (.int .i64 (wd2 : Int))).setIfInBounds 513 (.int .i64 (c3 : Int)))) := by rw [hW3]; exact (HE2.out.setc c3).of_row rfl
          have HG3 : Hid (w.grownBy W3 (some g)) := by rw [hW3]; exact (HG2.out.trans (grownBy_setC _ g 513 _)).trans (grownBy_drewN _ 1 _)
          have HB3 : Hid (W3.heap[w.heap.size]? = some (.cells #[.int .i64 (x : Int), .int .i64 1] 108 (0, 0))) := by rw [hW3]; exact (heap_setCell_other _ _ _ _ (by show w.heap.size ≠ g; have := HGL.out.1; omega)).trans HB2.out
          rw [← hW3]
          clear hW3 HE2 HG2 HB2 y0 y513 y514 w513 f1 f1b f2 f2b f3 f4 f5 hte hb1I
          have v514 : W3.cell? ⟨g, 514, none⟩ = some (.string R1) := (cell_of_row W3 g 514 _ _ _ HE3.out.row).trans HE3.out.cr
          have q514 := frozen_of_row W3 g 514 _ _ HE3.out.row
          have HME : Hid (restAt g wr = R1.size) := HMW
          go_wp2_with fail
          go_roundw
          case rel => exact ⟨wd2, c3, R1.extract 1 R1.size, _, HE3.out.setr (R1.extract 1 R1.size), hw2b, hc3b, HNR2, (heap_setCell_other _ _ _ _ (by show w.heap.size ≠ g; have := HGL.out.1; omega)).trans HB3.out, HG3.out.trans (grownBy_setC _ g 514 _)⟩
          case measure =>
            rw [HME.out]
            have h2 := HE3.out.setr (R1.extract 1 R1.size)
            have h3 := restAt_eq ((cell_of_row _ g 514 _ _ _ h2.row).trans h2.cr)
            rw [h3, ByteArray.size_extract]
            omega
      · have hn := HNR.out
        rw [nrm_done (by omega)] at hn
        obtain ⟨rfl, rfl⟩ := HTY.out (by rw [← hn])
        obtain rfl := HBT.out
        have HFIN : Hid (DecAt wr g sg ∧ w.grownBy wr (some g)) := HGO.out wr R1 C1 (by rw [← hn]; exact HE.out) (by rw [← hn]) HG.out
        have hwlI : ¬ (wd1 : Int) < 16777216 := by omega
        have bx1 : wr.cell? ⟨w.heap.size, 1, none⟩ = some (.int .i64 1) := cell_of_row wr _ 1 _ _ _ HBX.out
        clear hn HGO HNR HE HBX HG HTN HTY
        go_wp2_with fail
        go_ret2
        exact ⟨rfl, HFIN.out⟩
end Go.Proofs.Ytbkjcngehhdchaa
