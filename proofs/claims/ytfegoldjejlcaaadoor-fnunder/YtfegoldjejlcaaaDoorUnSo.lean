/-
  The sort of nodes by their paths.
-/
import Derived.Test.YtfegoldjejlcaaaDoorUnM
import Derived.Test.YtfegoldjejlcaaaDoorGrD
import Derived.Test.YtfegoldjejlcaaaDoorSrtK
import Derived.Test.YtfegoldjejlcaaaDoorShelfS
import Derived.Test.YtfegoldjejlcaaaDoorShelfP
import Derived.Shelf.SlSortCmp.NoneTotal
namespace Go.Proofs.YtfegoldjejlcaaaDoor
open Go.RowKit
open Go.Sort (HoldsK SWO)
set_option linter.unusedVariables false
set_option linter.unusedSimpArgs false
instance : Inhabited NdI := ⟨nd0⟩
def ndE (p : NdI) : List Value := [.string p.p, .bool p.r, .int .i64 p.m, .string p.d]
theorem ndE_len (p : NdI) : (ndE p).length = 4 := rfl
theorem ndE_one (p : NdI) : ∀ v ∈ ndE p, v.oneCell' = true := by
  intro v hv
  unfold ndE at hv
  simp only [List.mem_cons, List.not_mem_nil, or_false] at hv
  rcases hv with rfl | rfl | rfl | rfl <;> rfl
def cfN (p q : NdI) : Int := Lib.compareBytes p.p.data.toList q.p.data.toList
theorem ltN (p q : NdI) : (ltOf cfN p q = true ↔ pL p.p q.p) := by
  unfold ltOf cfN pL
  rw [decide_eq_true_eq, ← Lib.toList_data, ← Lib.toList_data]
  exact (cmpB_lt _ _).1
theorem ltN_no {p q : NdI} (h : ltOf cfN p q = false) : ¬ pL p.p q.p := fun k => by
  rw [(ltN p q).2 k] at h; cases h
theorem no_ltN {p q : NdI} (h : ¬ pL p.p q.p) : ltOf cfN p q = false := by
  cases hb : ltOf cfN p q with
  | false => rfl
  | true => exact absurd ((ltN p q).1 hb) h
theorem swoN : SWO (ltOf cfN) where
  irrefl x := no_ltN fun h => pL_ne h rfl
  trans x y z h k := (ltN x z).2 (pL_trans ((ltN x y).1 h) ((ltN y z).1 k))
  ntrans x y z h k := no_ltN fun c => by
    rcases blt_tri x.p.toList y.p.toList with a | a | a
    · exact ltN_no h a
    · rw [ba_list a] at c; exact ltN_no k c
    · exact ltN_no k (pL_trans a c)
set_option maxRecDepth 100000 in
set_option maxHeartbeats 2000000 in
theorem cmpN_any (p q : NdI) (w : World) :
    Calls Tryd.prog 47 #[.agg #[.string p.p, .bool p.r, .int .i64 p.m, .string p.d], .agg #[.string q.p, .bool q.r, .int .i64 q.m, .string q.d]] w fun e w' => e = .returned (.int .i64 (cfN p q)) ∧ GrD w w' := by
  have HCM : Hid (∀ (a b : ByteArray) w, Calls Tryd.prog 48 #[.string a, .string b] w fun e w' => e = .returned (.int .i64 (Lib.compareBytes a.data.toList b.data.toList)) ∧ w' = w) := fun a b w => Tryd.strings_Compare a b w
  have HV : Hid (cfN p q = Lib.compareBytes p.p.data.toList q.p.data.toList) := rfl
  generalize cfN p q = R at HV ⊢
  obtain ⟨pa, pr, pm, pd⟩ := p
  obtain ⟨qa, qr, qm, qd⟩ := q
  simp only at HV ⊢
  have x0 : ((w.alloc (.cells #[.string pa, .bool pr, .int .i64 pm, .string pd] 30)).alloc (.cells #[.string qa, .bool qr, .int .i64 qm, .string qd] 30)).cell? ⟨w.heap.size, 0, none⟩ = some (.string pa) := by
    rw [World.cell?_alloc_lt _ _ _ (by show w.heap.size < _; simp)]
    exact cell_of_row _ _ 0 _ _ _ (heap_alloc_new w _)
  have y0 : ((w.alloc (.cells #[.string pa, .bool pr, .int .i64 pm, .string pd] 30)).alloc (.cells #[.string qa, .bool qr, .int .i64 qm, .string qd] 30)).cell? ⟨w.heap.size + 1, 0, none⟩ = some (.string qa) := by
    have h := heap_alloc_new (w.alloc (.cells #[.string pa, .bool pr, .int .i64 pm, .string pd] 30)) (.cells #[.string qa, .bool qr, .int .i64 qm, .string qd] 30)
    rw [World.size_alloc] at h
    exact cell_of_row _ _ 0 _ _ _ h
  have HG : Hid (GrD w ((w.alloc (.cells #[.string pa, .bool pr, .int .i64 pm, .string pd] 30)).alloc (.cells #[.string qa, .bool qr, .int .i64 qm, .string qd] 30))) := ((GrD.refl w).alloc _).alloc _
  go_enter Tryd.func47, Tryd.ntmps47
  go_wp2_with fail
  refine (HCM.out _ _ _).mono ?_
  rintro e w1 ⟨rfl, hw1⟩
  subst w1
  rw [← HV.out]
  go_wp2_with fail
  go_ret
  exact ⟨rfl, HG.out⟩
theorem ndC_flat (L : List NdI) : L.flatMap ndE = ndC L := rfl
set_option maxRecDepth 100000 in
theorem sortN_any (v : Value) (L : List NdI) (B : Nat) (w : World) (hL : L.length ≤ 60) (h : w.ownsRow B 30 4 v L.length (ndC L)) :
    Calls Tryd.prog 46 #[v, .func (.func 47) #[] #[]] w fun e w' => e = .returned (.tuple #[]) ∧ (∃ L', L'.Perm L ∧ L'.Pairwise (fun a b => ¬ pL b.p a.p) ∧ w'.ownsRow B 30 4 v L.length (ndC L')) ∧ (∀ B0 w0, B0 ≤ B → Below B0 w0 w → Below B0 w0 w') ∧ w.grownBy w' v.ownBlock := by
  have hrow := h
  rcases h.2 with ⟨rfl, e0⟩ | ⟨g, cap, cur, rfl, hbase, hb, h1, h2, h3, h4⟩
  · have e : L = [] := List.length_eq_zero_iff.1 e0
    subst e
    have hc := AnyF.slices_SortFunc_none Tryd.sortNd none 0 (.func (.func 47) #[] #[]) w
    change Calls Tryd.prog 46 _ _ _ at hc
    refine hc.mono ?_
    rintro e w' ⟨rfl, rfl⟩
    exact ⟨rfl, ⟨[], List.Perm.refl _, List.Pairwise.nil, hrow⟩, fun B0 w0 _ hb => hb, ⟨rfl, rfl, rfl, Nat.le_refl _, fun _ _ _ => rfl⟩⟩
  · have hg := (Array.getElem?_eq_some_iff.1 hb).1
    have hh : HoldsK ndE 4 w g 0 L.toArray := holdsK_of ndE_len (by decide) hb (by
      have : L.toArray.size = L.length := by simp
      rw [this, h4]
      exact (ndC_flat L).symm)
    have eg : ∀ args w, (callFunc 47 args).run Tryd.prog w = .ok (.enter 47 args) w := enters_of Tryd.func47 (by kernel_rfl) rfl
    have hcmp : CmpLays Tryd.prog 47 #[] ndE 4 cfN g 0 L.toArray.size w := fun m os dk hdk x y =>
      (cmpN_any x y _).mono fun e w' ⟨he, hd⟩ => ⟨he, hd.grow⟩
    have hsz : L.toArray.size = L.length := by simp
    have hc := AnyQ.slices_SortFunc Tryd.sortNd 4 Tryd.isAgg30 Tryd.sizeOf30 ndE ndE_len ndE_one cfN swoN 47 #[] g 0 cap L.toArray w eg hcmp hh hg (by omega)
    rw [hsz] at hc
    change Calls Tryd.prog 46 _ _ _ at hc
    refine hc.mono ?_
    rintro e w' ⟨rfl, d', n, os, hp, hso, rfl⟩
    have hds : d'.size = L.length := by have := hp.1; omega
    have hpl : d'.toList.Perm L := by have := perm_list (d := L.toArray) (by rw [hsz]; exact hp); simpa using this
    refine ⟨rfl, ⟨d'.toList, hpl, (sorted_pair hso hds).imp fun {a b} h => ltN_no h, ?_⟩, fun B0 w0 hB0 hbl => ?_, sorted_grown _⟩
    · rw [← ndC_flat]
      exact sorted_own ndE_len (by decide) d' hds hbase hb (by omega) h2 h3
    · exact hbl.grown (sorted_grown _) (Nat.le_of_lt (Nat.lt_of_le_of_lt (Nat.le_trans hB0 hbase) hg)) (fun k hk => by have := Option.some.inj hk; omega)
end Go.Proofs.YtfegoldjejlcaaaDoor
