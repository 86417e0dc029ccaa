/-
  Several texts of this seat as one: LkR, LkL.
-/
import Derived.Test.YtpeddaljgmkomaaPk27
import Derived.Test.YtpeddaljgmkomaaPk11
import Derived.Test.YtpeddaljgmkomaaPk13

/-!   A list of links that came in as an argument, read as data. -/
namespace Go.Proofs.Ytpeddaljgmkomaa
open Go.ChangeShapes Go.WideShapes Go.ChangeAt Go.RowKit
open Go.ChangeMaps (open_string shut_string)
open Go.Deep
set_option linter.unusedVariables false
set_option maxRecDepth 100000 in
theorem rdL_pc {H : Type} {enc : TypeId × Value → H} {W : World} (fuel : Nat) (cs : List Value) (x : DataW H × List MemPlace) (hl : cs.length = 3) (h : DataW.trod enc Try.prog W 0 (fun _ => true) true fuel 111 cs = some x) :
    ∃ p : PcI, RdL W cs (pcDs p) ∧ p.d.size ≤ maxLen := by
  obtain ⟨p, rfl, hz⟩ := read_onePc hl h
  refine ⟨p, ⟨rfl, fun j y hy => ?_⟩, hz⟩
  match j, hy with
  | 0, hy => simp [pcDs] at hy; subst hy; exact ⟨_, rfl, .one _⟩
  | 1, hy => simp [pcDs] at hy; subst hy; exact ⟨_, rfl, .one _⟩
  | 2, hy => simp [pcDs] at hy; subst hy; exact ⟨_, rfl, .one _⟩
theorem pcZ_of {L : List PcI} (h1 : L.length ≤ maxLen) (h2 : ∀ p ∈ L, p.d.size ≤ maxLen) : PcZ L :=
  ⟨h1, fun i hi => h2 _ (List.mem_of_getElem? (pc_some hi))⟩
set_option maxRecDepth 100000 in
theorem rdL_lk {H : Type} {enc : TypeId × Value → H} {W : World} (fuel : Nat) (cs : List Value) (x : DataW H × List MemPlace) (hl : cs.length = 3) (h : DataW.trod enc Try.prog W 0 (fun _ => true) true fuel 48 cs = some x) :
    ∃ l : LkI, RdL W cs (lkDs l) ∧ LkZ l := by
  obtain ⟨c0, c1, c2, rfl⟩ := list3x hl
  obtain ⟨y0, y1, y2, n, _, _, t0, t1, t2⟩ := trod_struct3 Try.underlying48 h
  have cI : Try.prog.cellsOf 2 = 1 := by kernel_rfl
  have cS : Try.prog.cellsOf 9 = 1 := by kernel_rfl
  have cL : Try.prog.cellsOf 46 = 1 := by kernel_rfl
  have cP : Try.prog.cellsOf 111 = 3 := by kernel_rfl
  obtain ⟨b0, e0, z0⟩ := DataW.trod_int Try.underlying2 t0
  obtain ⟨b1, e1, _, z1⟩ := DataW.trod_string Try.underlying9 t1
  obtain ⟨p, v, e2, hr, hn, hz⟩ := rd_list (e2 := 89) Try.underlying46 cP (by omega) pcDs_len (fun fuel cs x => rdL_pc fuel cs x) t2
  rw [cI] at e0
  rw [cS] at e1
  rw [cL] at e2
  simp at e0 e1 e2
  subst e0 e1 e2
  refine ⟨⟨b0, b1, p⟩, ⟨rfl, fun j y hy => ?_⟩, z0.2, z1, pcZ_of hn hz⟩
  match j, hy with
  | 0, hy => simp [lkDs] at hy; subst hy; exact ⟨_, rfl, .one _⟩
  | 1, hy => simp [lkDs] at hy; subst hy; exact ⟨_, rfl, .one _⟩
  | 2, hy => simp [lkDs] at hy; subst hy; exact ⟨_, rfl, hr⟩
set_option maxRecDepth 100000 in
theorem read_inLk {H : Type} {enc : TypeId × Value → H} {W : World} {v : Value} {d : DataW H} {ps : List MemPlace} (h0 : DataW.Trod enc Try.prog W 0 (fun _ => true) true 22 v d ps) (ho : Value.okWide Try.prog W .any 0 22 v) :
    ∃ L, L.length ≤ maxLen ∧ (∀ x ∈ L, LkZ x) ∧ Rd W (lksD L) v := by
  obtain ⟨a, n, c, rfl⟩ := okWide_slice Try.underlying22 ho
  obtain ⟨fuel, hf⟩ := h0
  have hf' : DataW.trod enc Try.prog W 0 (fun _ => true) true fuel 22 [.slice a n c] = some (d, ps) := by simpa [Value.cells] using hf
  have c3 : Try.prog.cellsOf 48 = 3 := by kernel_rfl
  obtain ⟨L, v, e, hr, hn, hz⟩ := rd_list (e2 := 54) Try.underlying22 c3 (by omega) lkDs_len (fun fuel cs x => rdL_lk fuel cs x) hf'
  injection e with e _
  subst e
  exact ⟨L, hn, hz, hr⟩
end Go.Proofs.Ytpeddaljgmkomaa

/-!   What the law's measure lets in, of lists of links. -/
namespace Go.Proofs.Ytpeddaljgmkomaa
open Go.RowKit
set_option linter.unusedVariables false
theorem lkLe_of {L : List LkI} (hz : ∀ x ∈ L, LkZ x) (hn : lkN L ≤ 1048576) : LkLe L ∧ L.length ≤ 1048576 ∧ ∀ x ∈ L, x.p.length ≤ 1048576 := by
  have h1 : ∀ x ∈ L, lkW x ≤ 1048576 := fun x hx => by
    have := sum_one lkW hx
    unfold lkN at hn
    omega
  have h0 : L.length ≤ 1048576 := by unfold lkN at hn; omega
  have h2 : ∀ x ∈ L, x.p.length ≤ 1048576 := fun x hx => by
    have := h1 x hx
    unfold lkW pcN at this
    omega
  refine ⟨⟨h0, fun x hx => ⟨?_, (hz x hx).b, h2 x hx, fun i hi => ?_⟩⟩, h0, h2⟩
  · have := h1 x hx
    unfold lkW at this
    omega
  · have := h1 x hx
    have h3 := pcTot_one (pcF x.p) hi
    unfold lkW pcN at this
    omega
end Go.Proofs.Ytpeddaljgmkomaa
