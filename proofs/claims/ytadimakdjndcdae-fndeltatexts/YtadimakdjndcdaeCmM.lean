/-
  Parts of pieces, as plain mathematics; and one part, the code's.
-/
import Derived.Test.YtadimakdjndcdaeRdL
namespace Go.Proofs.Ytadimakdjndcdae
open Go.RowKit
set_option linter.unusedVariables false
set_option linter.unusedSimpArgs false
noncomputable def partI (p : PcI) (x y : Int) : PcI := open Classical in if p.d = ⟨#[]⟩ then ⟨p.f + x, y - x, ⟨#[]⟩⟩ else ⟨0, 0, p.d.extract x.toNat y.toNat⟩
theorem partI_no {p : PcI} (h : p.d = ⟨#[]⟩) (x y : Int) : partI p x y = ⟨p.f + x, y - x, ⟨#[]⟩⟩ := by unfold partI; rw [if_pos h]
theorem partI_yes {p : PcI} (h : p.d ≠ ⟨#[]⟩) (x y : Int) : partI p x y = ⟨0, 0, p.d.extract x.toNat y.toNat⟩ := by unfold partI; rw [if_neg h]
def loP (F : Nat → PcI) (a : Int) (i : Nat) : Prop := True
noncomputable def lowP (F : Nat → PcI) (a : Int) (i : Nat) : Int := max (a - pcSum F i) 0
noncomputable def highP (F : Nat → PcI) (b : Int) (i : Nat) : Int := min (b - pcSum F i) (pcSz (F i))
noncomputable def stepP (F : Nat → PcI) (a b : Int) (i : Nat) : List PcI := if lowP F a i < highP F b i then [partI (F i) (lowP F a i) (highP F b i)] else []
noncomputable def prtL (F : Nat → PcI) (a b : Int) : Nat → List PcI
  | 0 => []
  | i + 1 => prtL F a b i ++ stepP F a b i
theorem prtL_len (F : Nat → PcI) (a b : Int) (i : Nat) : (prtL F a b i).length ≤ i := by
  induction i with
  | zero => exact Nat.le_refl 0
  | succ i ih =>
    show (prtL F a b i ++ stepP F a b i).length ≤ _
    rw [List.length_append]
    have : (stepP F a b i).length ≤ 1 := by unfold stepP; split <;> simp
    omega
theorem stepP_yes {F : Nat → PcI} {a b : Int} {i : Nat} (h : lowP F a i < highP F b i) : prtL F a b (i + 1) = prtL F a b i ++ [partI (F i) (lowP F a i) (highP F b i)] := by
  show prtL F a b i ++ stepP F a b i = _
  unfold stepP; rw [if_pos h]
theorem stepP_no {F : Nat → PcI} {a b : Int} {i : Nat} (h : ¬ lowP F a i < highP F b i) : prtL F a b (i + 1) = prtL F a b i := by
  show prtL F a b i ++ stepP F a b i = _
  unfold stepP; rw [if_neg h, List.append_nil]
set_option maxRecDepth 100000 in
set_option maxHeartbeats 1000000 in
theorem part_any (p : PcI) (x y : Int) (w : World) (h0 : 0 ≤ x) (h1 : x ≤ y) (h2 : y ≤ pcSz p) (h3 : pcSz p ≤ 1048576) (h4 : 0 ≤ p.f ∧ p.f ≤ 4000) :
    Calls Try.prog 23 #[pcV p.f p.l p.d, .int .i64 x, .int .i64 y] w fun e w' => e = .returned (pcV (partI p x y).f (partI p x y).l (partI p x y).d) ∧ Below w.heap.size w w' := by
  obtain ⟨f, l, d⟩ := p
  simp only at h4
  by_cases h : d = ⟨#[]⟩
  · rw [partI_no h]
    subst h
    rw [pcSz_no rfl] at h2 h3
    simp only at h2 h3
    have e1 : IntKind.i64.wrap (f + x) = f + x := by rw [IntKind.wrap_i64]; omega
    have e2 : IntKind.i64.wrap (y - x) = y - x := by rw [IntKind.wrap_i64]; omega
    unfold pcV
    have HR := hid (heap_alloc_new (w.alloc (.cells #[.int .i64 f, .int .i64 l, .string ⟨#[]⟩] 43)) (.cells #[.int .i64 (f + x), .int .i64 (y - x), .string ⟨#[]⟩] 43))
    go_enter Try.func23, Try.ntmps23
    go_wp2_with fail
    refine bodyPost_ret (results_cell_row rfl _ _ (w.heap.size + 1) 43 #[.int .i64 (f + x), .int .i64 (y - x), .string ⟨#[]⟩] (0, 0) _ rfl (by have h := HR.out; simpa using h) Try.underlying43 rfl (by kernel_rfl)) rfl ⟨rfl, ((Below.refl _ _).alloc (Nat.le_refl _) _).alloc (by simp) _⟩
  · rw [partI_yes h]
    rw [pcSz_yes h] at h2 h3
    simp only at h2 h3 ⊢
    have he := d_ne h
    obtain ⟨x2, rfl⟩ : ∃ x2 : Nat, x = (x2 : Int) := ⟨x.toNat, by omega⟩
    obtain ⟨y2, rfl⟩ : ∃ y2 : Nat, y = (y2 : Int) := ⟨y.toNat, by omega⟩
    simp only [Int.toNat_natCast]
    have s1 : x2 ≤ y2 := by omega
    have s2 : y2 ≤ d.size := by omega
    have HC : Hid (∀ w, Calls Try.prog 45 #[.string (d.extract x2 y2)] w fun e w' => e = .returned (.string (d.extract x2 y2)) ∧ Below w.heap.size w w') := fun w => clone_any _ w (by rw [ByteArray.size_extract]; omega)
    unfold pcV
    have HB0 : Hid (Below w.heap.size w ((w.alloc (.cells #[.int .i64 f, .int .i64 l, .string d] 43)).alloc (.cells #[.int .i64 0, .int .i64 0, .string ⟨#[]⟩] 43)) ∧ ((w.alloc (.cells #[.int .i64 f, .int .i64 l, .string d] 43)).alloc (.cells #[.int .i64 0, .int .i64 0, .string ⟨#[]⟩] 43)).heap[w.heap.size + 1]? = some (.cells #[.int .i64 0, .int .i64 0, .string ⟨#[]⟩] 43 (0, 0))) := by
      refine ⟨((Below.refl _ _).alloc (Nat.le_refl _) _).alloc (by simp) _, ?_⟩
      have h := heap_alloc_new (w.alloc (.cells #[.int .i64 f, .int .i64 l, .string d] 43)) (.cells #[.int .i64 0, .int .i64 0, .string ⟨#[]⟩] 43)
      simpa using h
    clear h h3
    go_enter Try.func23, Try.ntmps23
    go_wp2_with fail
    refine (HC.out _).mono ?_
    rintro e w2 ⟨rfl, hb2⟩
    have hr2 : w2.heap[w.heap.size + 1]? = some (.cells #[.int .i64 0, .int .i64 0, .string ⟨#[]⟩] 43 (0, 0)) := (hb2.block _ (by simp)).trans HB0.out.2
    have HB2 := hid (bl3 HB0.out.1 hb2 HB0.out.1.size)
    have b0 : w2.cell? ⟨w.heap.size + 1, 0, none⟩ = some (.int .i64 0) := cell_of_row _ _ _ _ _ _ hr2
    have b1 : w2.cell? ⟨w.heap.size + 1, 1, none⟩ = some (.int .i64 0) := cell_of_row _ _ _ _ _ _ hr2
    have b2 : w2.cell? ⟨w.heap.size + 1, 2, none⟩ = some (.string ⟨#[]⟩) := cell_of_row _ _ _ _ _ _ hr2
    have z0 := frozen_of_row w2 (w.heap.size + 1) 0 _ _ hr2
    have z1 := frozen_of_row w2 (w.heap.size + 1) 1 _ _ hr2
    have z2 := frozen_of_row w2 (w.heap.size + 1) 2 _ _ hr2
    have HR := hid (box3_row hr2 (.int .i64 0) (.int .i64 0) (.string (d.extract x2 y2)))
    have HBF := hid (box3_below HB2.out (g := w.heap.size + 1) (by omega) (.int .i64 0) (.int .i64 0) (.string (d.extract x2 y2)))
    clear hb2 hr2 HB0
    go_wp2_with fail
    refine bodyPost_ret (results_cell_row rfl _ _ (w.heap.size + 1) 43 #[.int .i64 0, .int .i64 0, .string (d.extract x2 y2)] (0, 0) _ rfl HR.out Try.underlying43 rfl (by kernel_rfl)) rfl ⟨rfl, HBF.out⟩
end Go.Proofs.Ytadimakdjndcdae
