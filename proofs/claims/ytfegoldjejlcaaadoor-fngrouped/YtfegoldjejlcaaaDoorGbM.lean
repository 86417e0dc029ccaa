/-
  Members that are grouped: grouped again, or turned round ahead, they are the same; whether two members are the same, as the language asks.
-/
import Derived.Test.YtfegoldjejlcaaaDoorGrS
import Derived.Laws.StructEq
import Derived.Lib.Strings
import Derived.BigRegion
import Derived.BigQuiet
namespace Go.Proofs.YtfegoldjejlcaaaDoor
open Go.RowKit
set_option linter.unusedVariables false
set_option linter.unusedSimpArgs false
def mbEq (p q : MbI) : Bool := (p.a.toList == q.a.toList) && (p.d.toList == q.d.toList)
theorem mbEq_yes {p q : MbI} (h : p = q) : mbEq p q = true := by subst h; unfold mbEq; simp
theorem mbEq_no {p q : MbI} (h : p ≠ q) : mbEq p q = false := by
  cases hb : mbEq p q with
  | false => rfl
  | true =>
    exfalso
    apply h
    unfold mbEq at hb
    simp only [Bool.and_eq_true, beq_iff_eq] at hb
    obtain ⟨a, b⟩ := p
    obtain ⟨c, d⟩ := q
    simp only at hb
    rw [gba_list hb.1, gba_list hb.2]
set_option maxRecDepth 100000 in
set_option maxHeartbeats 1000000 in
theorem mb_eql (p q : MbI) (w : World) : Sem.run Tryd.prog (binOp .eql 46 (.agg #[.string p.a, .string p.d]) (.agg #[.string q.a, .string q.d])) w = .ok (.bool (mbEq p q)) w := by
  have hS : Tryd.prog.underlying 46 = some (.struct (Tryd.prog.fieldsOf 46)) := by kernel_rfl
  have hp : Tryd.prog.stoodInHeld 46 = false := by kernel_rfl
  rw [run_eql_struct, show (10000 : Nat) = 9999 + 1 from rfl, run_equalIn_agg w 9999 46 _ _ hS hp]
  simp only [Program.fieldsOf, Tryd.underlying46]
  go_simp
  unfold mbEq
  by_cases h1 : p.a.toList = q.a.toList <;> by_cases h4 : p.d.toList = q.d.toList <;> simp [h1, h4]
theorem pf_take (L : List MbI) : ∀ i, i ≤ L.length → pf (mbF L) i = L.take i
  | 0, _ => by simp [pf]
  | i + 1, h => by
    show pf (mbF L) i ++ [mbF L i] = _
    rw [pf_take L i (by omega), mbF_at (by omega), List.take_succ_eq_append_getElem (by omega)]
theorem mbSum_pf (F : Nat → MbI) : ∀ n, mbSum F n = ((pf F n).map fun p => p.d.size).sum
  | 0 => rfl
  | n + 1 => by
    show mbSum F n + (F n).d.size = ((pf F n ++ [F n]).map _).sum
    rw [mbSum_pf F n, List.map_append, List.sum_append]
    simp
theorem mem_mbF (L : List MbI) (p : MbI) : p ∈ L ↔ ∃ i, i < L.length ∧ mbF L i = p := by
  constructor
  · intro h
    obtain ⟨i, hi, e⟩ := List.getElem_of_mem h
    exact ⟨i, hi, by rw [mbF_at hi]; exact e⟩
  · rintro ⟨i, hi, rfl⟩
    rw [mbF_at hi]
    exact List.getElem_mem hi
theorem mbU_iff (L : List MbI) : mbU (mbF L) L.length ↔ L.Pairwise fun a b => a.a ≠ b.a := by
  rw [List.pairwise_iff_getElem]
  constructor
  · intro h i j hi hj hij
    have := h i j hij hj
    rwa [mbF_at hi, mbF_at hj] at this
  · intro h i j hij hj
    rw [mbF_at (show i < L.length by omega), mbF_at hj]
    exact h i j (by omega) hj hij
theorem mbR_perm {A B : List MbI} (h : mbR (mbF A) A.length) (p : A.Perm B) : mbR (mbF B) B.length := by
  obtain ⟨h1, h2, h3, h4⟩ := h
  refine ⟨by rw [← p.length_eq]; exact h1, ?_, ?_, ?_⟩
  · intro i hi
    have : mbF B i ∈ A := p.mem_iff.2 ((mem_mbF B _).2 ⟨i, hi, rfl⟩)
    obtain ⟨j, hj, e⟩ := (mem_mbF A _).1 this
    rw [← e]
    exact h2 j hj
  · rw [mbSum_pf, pf_take _ _ (Nat.le_refl _), List.take_length] at h3 ⊢
    have := (p.map fun p => p.d.size).sum_nat
    omega
  · exact (mbU_iff B).2 ((p.pairwise_iff (fun {a b} h e => h e.symm)).1 ((mbU_iff A).1 h4))
theorem gr_perm {A B : List MbI} (h : mbR (mbF A) A.length) (p : A.Perm B) : grL (mbF B) B.length = grL (mbF A) A.length := by
  rw [grL_yes h, grL_yes (mbR_perm h p)]
  have h1 := gL_grP (F := mbF A) (n := A.length) h.2.2.2
  have h2 := gL_grP (F := mbF B) (n := B.length) (mbR_perm h p).2.2.2
  refine GrP.one (F := mbF A) (n := A.length) ⟨by rw [h2.len, p.length_eq], h2.rise, fun q => ?_⟩ h1
  rw [h2.mem, ← mem_mbF, ← mem_mbF]
  exact p.mem_iff.symm
theorem gr_self {A : List MbI} (h : mbR (mbF A) A.length) : A.Perm (grL (mbF A) A.length) := by
  rw [grL_yes h]
  have h1 := gL_grP (F := mbF A) (n := A.length) h.2.2.2
  have n1 : A.Nodup := ((mbU_iff A).1 h.2.2.2).imp fun {a b} h e => h (by rw [e])
  have n2 : (gL (mbF A) A.length).Nodup := h1.rise.imp fun {a b} h e => by subst e; exact gN_irr _ h
  exact (List.perm_ext_iff_of_nodup n1 n2).2 fun q => (mem_mbF A q).trans (h1.mem q).symm
theorem gr_rise {A : List MbI} (h : mbR (mbF A) A.length) : (grL (mbF A) A.length).Pairwise gP := by
  rw [grL_yes h]
  exact (gL_grP (F := mbF A) (n := A.length) h.2.2.2).rise
theorem gr_step {G : List MbI} (h : G.Pairwise gP) {i : Nat} (hi : i + 1 < G.length) : gN (mbF G i).a (mbF G (i + 1)).a := by
  rw [mbF_at (show i < G.length by omega), mbF_at hi]
  exact List.pairwise_iff_getElem.1 h i (i + 1) (by omega) hi (by omega)
end Go.Proofs.YtfegoldjejlcaaaDoor
