/-
  Files of a right disk, asked one by one.
-/
import Derived.Test.YtanlggglbpibfaaDkM
namespace Go.Proofs.Ytanlggglbpibfaa
open Go.RowKit
set_option linter.unusedVariables false
set_option linter.unusedSimpArgs false
/-- a list of files that a call can go through -/
structure FlLe (L : List FlI) : Prop where
  len : L.length ≤ 1100000
  sz : ∀ f ∈ L, f.a.size ≤ 1500000 ∧ f.d.size ≤ 1500000
theorem FlLe.at {L : List FlI} (h : FlLe L) {i : Nat} (hi : i < L.length) : (flF L i).a.size ≤ 1500000 ∧ (flF L i).d.size ≤ 1500000 := by
  rw [flF_at hi]; exact h.sz _ (List.getElem_mem hi)
theorem filesP.le {L : List FlI} (h : filesP L) : FlLe L := ⟨by have := h.len; omega, fun f hf => ⟨by have := (h.nm f hf).2; omega, by have := sumD_mem hf; have := h.sum; omega⟩⟩
theorem rise_adj {L : List FlI} (h : ∀ j, j + 1 < L.length → fnL (flF L j).a (flF L (j + 1)).a) : riseF L := by
  have key : ∀ d i, i + d + 1 < L.length → fnL (flF L i).a (flF L (i + d + 1)).a := by
    intro d
    induction d with
    | zero => intro i hi; exact h i hi
    | succ d ih => intro i hi; exact fnL_trans (ih i (by omega)) (h (i + d + 1) (by omega))
  unfold riseF
  rw [List.pairwise_iff_getElem]
  intro i j hi hj hij
  have := key (j - i - 1) i (by omega)
  rw [show i + (j - i - 1) + 1 = j by omega, flF_at hi, flF_at hj] at this
  exact this
theorem rise_at {L : List FlI} (h : riseF L) {i j : Nat} (hij : i < j) (hj : j < L.length) : fnL (flF L i).a (flF L j).a := by
  rw [flF_at (by omega : i < L.length), flF_at hj]
  exact List.pairwise_iff_getElem.1 h i j (by omega) hj hij
/-- the first i are so -/
def fileT (L : List FlI) (i : Nat) : Prop := (∀ j, j < i → nmOk (flF L j).a) ∧ ∀ j, j + 1 < i → fnL (flF L j).a (flF L (j + 1)).a
theorem fileT_zero (L : List FlI) : fileT L 0 := ⟨fun j h => absurd h (by omega), fun j h => absurd h (by omega)⟩
theorem fileT_step {L : List FlI} {i : Nat} (h : fileT L i) (hn : nmOk (flF L i).a) (hr : ∀ j, j + 1 = i → fnL (flF L j).a (flF L i).a) : fileT L (i + 1) := by
  refine ⟨fun j hj => ?_, fun j hj => ?_⟩
  · by_cases e : j = i
    · subst e; exact hn
    · exact h.1 j (by omega)
  · by_cases e : j + 1 = i
    · subst e; exact hr j rfl
    · exact h.2 j (by omega)
theorem fileT_all {L : List FlI} (h : fileT L L.length) (h1 : L.length ≤ 60) (h2 : sumD L ≤ 200000) : filesP L :=
  ⟨h1, fun f hf => by
    obtain ⟨i, hi, rfl⟩ := List.mem_iff_getElem.1 hf
    have := h.1 i hi
    rwa [flF_at hi] at this, rise_adj h.2, h2⟩
theorem filesP.nmAt {L : List FlI} (h : filesP L) {i : Nat} (hi : i < L.length) : nmOk (flF L i).a := by
  rw [flF_at hi]; exact h.nm _ (List.getElem_mem hi)
theorem sumD_step {L : List FlI} {i : Nat} (hi : i < L.length) : sumD (L.take (i + 1)) = sumD (L.take i) + (flF L i).d.size := by
  rw [List.take_add_one, List.getElem?_eq_getElem hi, sumD_app, flF_at hi]
  simp [sumD]
theorem sumD_few {L : List FlI} (h : FlLe L) : ∀ i, i ≤ L.length → sumD (L.take i) ≤ 1500000 * i
  | 0, _ => by simp [sumD]
  | i + 1, hi => by
    have h1 := sumD_few h i (by omega)
    have h2 := (h.at (i := i) (by omega)).2
    rw [sumD_step (by omega)]
    omega
def flB (L : List FlI) : Bool := decide (filesP L)
theorem flB_yes {L : List FlI} (h : filesP L) : flB L = true := by unfold flB; exact decide_eq_true h
theorem flB_no {L : List FlI} (h : ¬ filesP L) : flB L = false := by unfold flB; exact decide_eq_false h
theorem blF_yes {a b : ByteArray} (h : fnL a b) : Op.bytesLess a.toList b.toList = true := h
theorem blF_no {a b : ByteArray} (h : ¬ fnL a b) : Op.bytesLess a.toList b.toList = false := by
  cases hb : Op.bytesLess a.toList b.toList with
  | false => rfl
  | true => exact absurd hb h
theorem beqF_no {a b : ByteArray} (h : a ≠ b) : (a.toList == b.toList) = false := beq_eq_false_iff_ne.2 fun c => h (bl_inj c)
/-- a list of files as the law has it, as a list -/
theorem flF_map (F : Nat → FlI) (n : Nat) : ((List.range n).map F).length = n ∧ ∀ i, i < n → flF ((List.range n).map F) i = F i := by
  refine ⟨by simp, fun i hi => ?_⟩
  rw [flF_at (by simpa using hi)]
  simp
theorem dqF_map (F : Nat → DqI) (n : Nat) : ((List.range n).map F).length = n ∧ ∀ i, i < n → dqF ((List.range n).map F) i = F i := by
  refine ⟨by simp, fun i hi => ?_⟩
  rw [dqF_at (by simpa using hi)]
  simp
theorem FlRow.congr {w : World} {g n : Nat} {F G : Nat → FlI} (h : FlRow w g n F) (e : ∀ i, i < n → G i = F i) : FlRow w g n G :=
  ⟨h.lt, fun i hi => by rw [e i hi]; exact h.c0 i hi, fun i hi => by rw [e i hi]; exact h.c1 i hi⟩
theorem FlArg.congr {w : World} {v : Value} {n : Nat} {F G : Nat → FlI} (h : FlArg w v n F) (e : ∀ i, i < n → G i = F i) : FlArg w v n G := by
  obtain ⟨a, c, h1, h2⟩ := h
  exact ⟨a, c, h1, fun h0 => by obtain ⟨g, h3, h4⟩ := h2 h0; exact ⟨g, h3, h4.congr e⟩⟩
theorem DqRow.congr {w : World} {g n : Nat} {F G : Nat → DqI} (h : DqRow w g n F) (e : ∀ i, i < n → G i = F i) : DqRow w g n G :=
  ⟨h.lt, fun i hi => by rw [e i hi]; exact h.c0 i hi, fun i hi => by rw [e i hi]; exact h.c1 i hi, fun i hi => by rw [e i hi]; exact h.c2 i hi, fun i hi => by rw [e i hi]; exact h.c3 i hi⟩
theorem DqArg.congr {w : World} {v : Value} {n : Nat} {F G : Nat → DqI} (h : DqArg w v n F) (e : ∀ i, i < n → G i = F i) : DqArg w v n G := by
  obtain ⟨a, c, h1, h2⟩ := h
  exact ⟨a, c, h1, fun h0 => by obtain ⟨g, h3, h4⟩ := h2 h0; exact ⟨g, h3, h4.congr e⟩⟩
end Go.Proofs.Ytanlggglbpibfaa
