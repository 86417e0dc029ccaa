/-
  What every tied row of two variables shares: the words of the rounds and the fault behind all faults, as the program's text lays them.
-/
import Derived.Test.YtnkahdidelhdaacGreatDoorRows
import Derived.Test.YtnkahdidelhdaacGreatDoorSealC
import Derived.WalkKit
import Derived.ProofKit
import Derived.OpenShut
import Derived.ShutString
import Derived.ChangeVars
import Derived.LaidMore
import Derived.LaidHandle
import Derived.MakeChecks
import Derived.Stop.Joined
import Derived.Stop.LaidErr
import Derived.OpenVars
namespace Go.Proofs.YtnkahdidelhdaacGreatDoor
open Go.ChangeShapes Go.WideShapes Go.ChangeAt Go.RowKit

theorem cOwn : ownKnob Tryz.prog.godebug = none := by kernel_rfl
theorem cLaidOut : laidOutB Tryz.prog = true := by kernel_rfl
theorem gRW : Tryz.prog.globalNamed "loop.example/g00228/impl.roundWords" = some 1 := by kernel_rfl
theorem tRW : (Tryz.prog.globals[1]?).map (·.type) = some 98 := by kernel_rfl
theorem gER : Tryz.prog.globalNamed "loop.example/g00228/impl.errRefused" = some 0 := by kernel_rfl
theorem tER : (Tryz.prog.globals[0]?).map (·.type) = some 38 := by kernel_rfl
theorem starE : "*" ++ "errors.errorString" = "*errors.errorString" := by decide
theorem rowE (u : TypeId) (h : Tryz.prog.typeName? 3 u = some "*errors.errorString") : u = 132 :=
  typeName_ptr_named (nm := "errors.errorString") (by rw [starE]; kernel_rfl) (by kernel_rfl) (by decide) u (by rw [starE]; exact h)
theorem cellsE : Tryz.prog.cellsOf 154 = 1 := by kernel_rfl
theorem cellsS : Tryz.prog.cellsOf 9 = 1 := by kernel_rfl
theorem door_met (os : Os) (args : Array Value) : laidMetH Tryz.prog [("loop.example/g00228/impl.roundWords", Rows.laid_loop_example_g00228_impl_roundWords), ("loop.example/g00228/impl.errRefused", Rows.laid_loop_example_g00228_impl_errRefused)] ((World.doorLaid Tryz.prog 400 os).forCall (fun _ _ => 0) ⟨#[], args, []⟩).memory :=
  laidMetH_of_parts3 (fuel := 8) (laidMet_of_run' 8 (by kernel_rfl) (by kernel_rfl)) (by kernel_rfl) (by kernel_rfl)
theorem laid_eq {H : Type} : (Rows.laid_loop_example_g00228_impl_roundWords : DataW H) = .agg (kL.map fun x => .lit (.int .u32 x)) := rfl
set_option maxRecDepth 100000 in
theorem of_laid {W : World} (h : laidMetH Tryz.prog [("loop.example/g00228/impl.roundWords", Rows.laid_loop_example_g00228_impl_roundWords), ("loop.example/g00228/impl.errRefused", Rows.laid_loop_example_g00228_impl_errRefused)] W) : ∃ a, SF W a := by
  rw [MakeChecks.laidMetH_plain _ _ _ (by kernel_rfl)] at h
  obtain ⟨ps, ⟨g0, t0, cs0, f0, p0, q0, hg0, ht0, hv0, hd0, ⟨g1, t1, cs1, f1, p1, q1, hg1, ht1, hv1, hd1, _, e1⟩, e0⟩, hnd, hrows⟩ := h
  obtain rfl := Option.some.inj (gRW.symm.trans hg0)
  obtain rfl := Option.some.inj (tRW.symm.trans ht0)
  obtain rfl := Option.some.inj (gER.symm.trans hg1)
  obtain rfl := Option.some.inj (tER.symm.trans ht1)
  subst e1
  subst e0
  obtain ⟨l1⟩ := cs1
  have ok1 : ∀ u v, l1 = [.iface u v] → Value.okWide Tryz.prog W .any 0 u v := fun u v e => by
    subst e
    exact (hrows 0 0 (by simp [MemPlace.row])).2 u v (by simpa using World.var?_cell hg1 hv1 0)
  obtain ⟨a1, s1, rfl, hc1, hs1, hz1, rfl⟩ := errorString_of_trod Tryz.underlying38 rowE Tryz.underlying132 Tryz.underlying154 rfl rfl Tryz.underlying9 cellsE cellsS hd1 ok1
  have hE : W.cell? ⟨0, 0, none⟩ = some (refV a1) := by simpa [refV] using World.var?_cell hg1 hv1 0
  rw [laid_eq] at hd0
  obtain ⟨xs, m1, rfl, hx1, hlen, hn3, hel⟩ := DataW.trod_array Tryz.underlying98 hd0
  have c1 : Tryz.prog.cellsOf 67 = 1 := by kernel_rfl
  have hl : (kL.map fun x => (DataW.lit (Lit.int IntKind.u32 x) : DataW Unit)) = xs.map (fun x => x.fst) := by
    injection hx1 with h1 _
    injection h1
  have key : ∀ j, j < 64 → W.cell? ⟨1, j, none⟩ = some (.int .u32 (kF j)) := fun j hj => by
    have h1 := hel j hj
    rw [c1, Nat.mul_one, List.getElem?_eq_getElem (by omega)] at h1
    obtain ⟨n, e1, e2, _⟩ := DataW.trod_int Tryz.underlying67 h1
    have h2 : (xs.map (fun x => x.fst))[j]? = some (DataW.lit (Lit.int IntKind.u32 n)) := by
      rw [List.getElem?_map, List.getElem?_eq_getElem (by omega), e2]; rfl
    have hkl : j < kL.length := hj
    rw [← hl, List.getElem?_map, List.getElem?_eq_getElem hkl] at h2
    have h3 : kL[j] = n := by
      simpa using h2
    have h4 : cs0[j]? = some (.int .u32 n) := by
      have h5 : (cs0.toList.drop j)[0]? = some (Value.int .u32 n) := by
        have : (List.take 1 (cs0.toList.drop j))[0]? = some (Value.int .u32 n) := by rw [e1]; rfl
        rwa [List.getElem?_take, if_pos (by omega)] at this
      simpa using h5
    rw [World.var?_cell hg0 hv0 j, h4, kF, List.getD_eq_getElem?_getD, List.getElem?_eq_getElem hkl, ← h3]; rfl
  exact ⟨a1, key, World.block_lt_of_cell? W ⟨1, 0, none⟩ (key 0 (by omega)), hE, World.block_lt_of_cell? W ⟨0, 0, none⟩ hE⟩
end Go.Proofs.YtnkahdidelhdaacGreatDoor
