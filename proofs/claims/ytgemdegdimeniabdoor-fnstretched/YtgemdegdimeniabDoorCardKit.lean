/-
  What every tied row of this seat shares: the words of the rounds, as the program's text lays them.
-/
import Derived.Test.YtgemdegdimeniabDoorRows
import Derived.Test.YtgemdegdimeniabDoorShaConst
import Derived.WalkKit
import Derived.ProofKit
import Derived.OpenShut
import Derived.ShutString
import Derived.ChangeVars
import Derived.LaidMore
import Derived.LaidHandle
import Derived.MakeChecks
import Derived.Stop.Joined
namespace Go.Proofs.YtgemdegdimeniabDoor
open Go.ChangeShapes Go.WideShapes Go.ChangeAt Go.RowKit

theorem cOwn : ownKnob Tryd.prog.godebug = none := by kernel_rfl
theorem cLaidOut : laidOutB Tryd.prog = true := by kernel_rfl
theorem gRW : Tryd.prog.globalNamed "loop.example/g00228/impl.roundWords" = some 1 := by kernel_rfl
theorem tRW : (Tryd.prog.globals[1]?).map (·.type) = some 83 := by kernel_rfl
theorem door_met (os : Os) (args : Array Value) : laidMetH Tryd.prog [("loop.example/g00228/impl.roundWords", Rows.laid_loop_example_g00228_impl_roundWords)] ((World.doorLaid Tryd.prog 400 os).forCall (fun _ _ => 0) ⟨#[], args, []⟩).memory :=
  laidMetH_of_parts3 (fuel := 8) (laidMet_of_run' 8 (by kernel_rfl) (by kernel_rfl)) (by kernel_rfl) (by kernel_rfl)
theorem laid_eq {H : Type} : (Rows.laid_loop_example_g00228_impl_roundWords : DataW H) = .agg (kL.map fun x => .lit (.int .u32 x)) := rfl
set_option maxRecDepth 100000 in
theorem of_laid {W : World} (h : laidMetH Tryd.prog [("loop.example/g00228/impl.roundWords", Rows.laid_loop_example_g00228_impl_roundWords)] W) :
    (∀ j, j < 64 → W.cell? ⟨1, j, none⟩ = some (.int .u32 (kF j))) ∧ 1 < W.heap.size := by
  rw [MakeChecks.laidMetH_plain _ _ _ (by kernel_rfl)] at h
  obtain ⟨ps, ⟨g0, t0, cs0, f0, p0, q0, hg0, ht0, hv0, hd0, _, _⟩, _, _⟩ := h
  obtain rfl := Option.some.inj (gRW.symm.trans hg0)
  obtain rfl := Option.some.inj (tRW.symm.trans ht0)
  rw [laid_eq] at hd0
  obtain ⟨xs, m1, rfl, hx1, hlen, hn3, hel⟩ := DataW.trod_array Tryd.underlying83 hd0
  have c1 : Tryd.prog.cellsOf 56 = 1 := by kernel_rfl
  have hl : (kL.map fun x => (DataW.lit (Lit.int IntKind.u32 x) : DataW Unit)) = xs.map (fun x => x.fst) := by
    injection hx1 with h1 _
    injection h1
  have key : ∀ j, j < 64 → W.cell? ⟨1, j, none⟩ = some (.int .u32 (kF j)) := fun j hj => by
    have h1 := hel j hj
    rw [c1, Nat.mul_one, List.getElem?_eq_getElem (by omega)] at h1
    obtain ⟨n, e1, e2, _⟩ := DataW.trod_int Tryd.underlying56 h1
    have h2 : (xs.map (fun x => x.fst))[j]? = some (DataW.lit (Lit.int IntKind.u32 n)) := by
      rw [List.getElem?_map, List.getElem?_eq_getElem (by omega), e2]; rfl
    have hkl : j < kL.length := hj
    rw [← hl, List.getElem?_map, List.getElem?_eq_getElem hkl] at h2
    have h3 : kL[j] = n := by
      simpa using h2
    have h4 : cs0[j]? = some (.int .u32 n) := by
      have h5 : (cs0.toList.drop j)[0]? = some (Value.int .u32 n) := by
        have : (List.take 1 (cs0.toList.drop j))[0]? = some (Value.int .u32 n) := by rw [e1]; rfl
        rwa [List.getElem?_take, if_pos (by omega)] at this
      simpa using h5
    rw [World.var?_cell hg0 hv0 j, h4, kF, List.getD_eq_getElem?_getD, List.getElem?_eq_getElem hkl, ← h3]; rfl
  exact ⟨key, World.block_lt_of_cell? W ⟨1, 0, none⟩ (key 0 (by omega))⟩
theorem var?_below {P : Program} {B g : Nat} {W W' : World} {n : String} {cs : Array Value} (h : Below B W W') (hg : P.globalNamed n = some g) (hgB : g < B) (hv : W.var? P n = some cs) : W'.var? P n = some cs := by
  unfold World.var? at hv ⊢
  simp only [hg, Option.bind_some] at hv ⊢
  rw [h.block g hgB]
  exact hv
theorem kept {H : Type} {enc : TypeId × Value → H} {W W' : World} {cs : Array Value} {fuel : Nat} {d : DataW H} {p' : List MemPlace} (hvar : W.var? Tryd.prog "loop.example/g00228/impl.roundWords" = some cs)
    (hd : DataW.trod enc Tryd.prog W 0 (fun _ => true) true fuel 83 cs.toList = some (d, p')) (hlt : ∀ x ∈ p', x.block < W.heap.size) (h0 : 1 < W.heap.size) (hB : Below W.heap.size W W') :
    DataW.TrodVars enc Tryd.prog W' (fun b => decide (b < W.heap.size)) ["loop.example/g00228/impl.roundWords"] [d] (MemPlace.row ⟨1, 0, none⟩ cs.size ++ p') := by
  obtain ⟨fuel', hd'⟩ := Below.trod cLaidOut (by kernel_rfl) (of_decide_eq_true (by kernel_rfl)) (v := .agg cs) (⟨fuel, by simpa [Value.cells] using hd⟩ : DataW.Trod enc Tryd.prog W 0 (fun _ => true) true 83 (.agg cs) d p') hB hlt
  exact trodVars_mk1 gRW tRW (var?_below hB gRW h0 hvar) (by simpa [Value.cells] using hd')
end Go.Proofs.YtgemdegdimeniabDoor
