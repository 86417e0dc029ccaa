/-
  The code's versions of a chain: a link behind those ahead of it.
-/
import Derived.Test.YtpeddaljgmkomaaVeM
import Derived.Test.YtpeddaljgmkomaaMp
import Derived.Test.YtpeddaljgmkomaaPatC
import Derived.Test.YtpeddaljgmkomaaClone
namespace Go.Proofs.Ytpeddaljgmkomaa
open Go.RowKit
open Go.Maps (Keyed)
set_option linter.unusedVariables false
set_option linter.unusedSimpArgs false
theorem results_c1 {P : Program} {fn : Func} {t p : Tmp} {ty : TypeId} (h : fn.results = #[.cell p ty, .tmp t]) (tmps : Array Value) (w : World) (g : Nat) (t2 : TypeId) (cs : Array Value) (fr : Nat × Nat) (d : TypeDesc)
    (hp : tmps.getD p undef = .pointer (some ⟨g, 0, none⟩)) (hg : w.heap[g]? = some (.cells cs t2 fr))
    (hu : P.underlying ty = some d) (hd : (match d with | .struct _ | .array _ _ => true | _ => false) = true) (hi : (P.info? ty).map (·.size) = some cs.size) :
    (results fn tmps).run P w = .ok (.tuple #[.agg cs, tmps.getD t undef]) w := by
  have hp' : tmps[p]?.getD undef = .pointer (some ⟨g, 0, none⟩) := by simpa using hp
  simp [results, h, hp', asAddr, run_loadVar_row w g t2 ty cs fr d hg hu hd hi]
def verV (v : VerI) : Value := .agg #[.string v.t, .int .i64 v.d]
def vMap (V : List VerI) : Lit → Option Value
  | .int .i64 k => if 0 ≤ k then (V[k.toNat]?).map verV else none
  | _ => none
theorem zeroVer (w : World) : (zeroValue 62).run Try.prog w = .ok (.agg #[.string ⟨#[]⟩, .int .i64 0]) w := by kernel_rfl
theorem keyI : Keyed Try.prog 2 := Maps.int_keyed Try.underlying2
theorem box2_row {W : World} {g : Nat} {x y : Value} {T : TypeId} (h : W.heap[g]? = some (.cells #[x, y] T (0, 0))) (a b : Value) :
    ((W.setCell ⟨g, 0, none⟩ a).setCell ⟨g, 1, none⟩ b).heap[g]? = some (.cells #[a, b] T (0, 0)) :=
  heap_setCell_same _ _ _ #[a, y] _ _ (heap_setCell_same _ _ _ #[x, y] _ _ h)
set_option maxRecDepth 100000 in
set_option maxHeartbeats 4000000 in
theorem madeFrom_any (V : List VerI) (l : LkI) (pv : Value) (bs : List Nat) (mb : Nat) (w : World) (hV : VerB V) (hd : l.d.size ≤ 1048576) (hb : (Lit.int .i64 l.b).wf = true) (hpl : PcLe (pcF l.p) l.p.length) (hp : Hd w (pcsD l.p) pv bs) (hm : MapF w Try.prog 2 mb V.length (vMap V)) :
    Calls Try.prog 71 #[.agg #[.int .i64 l.b, .string l.d, pv], .map (some mb)] w fun e w' => (∃ x ok, e = .returned (.tuple #[verV x, .bool ok]) ∧ (∀ v, mkV V l = some v → x = v ∧ ok = true) ∧ (mkV V l = none → ok = false ∨ (ok = true ∧ 6 < x.d ∧ x.d ≤ 7))) ∧ Below w.heap.size w w' := by
  obtain ⟨b, d, p⟩ := l
  simp only at hd hpl hp hb ⊢
  have HP := dhid (pcs_arg hp)
  obtain ⟨a, c, rfl, _⟩ := pcs_arg hp
  have hdI : (d.size : Int) ≤ 1048576 := by omega
  have hnI : (p.length : Int) ≤ 1048576 := by have := hpl.len; omega
  have HC : Hid (∀ w, Calls Try.prog 50 #[.string d] w fun e w' => e = .returned (.string d) ∧ Below w.heap.size w w') := fun w => clone_any d w (by omega)
  have HB2 : Hid (Below w.heap.size w ((w.alloc (.cells #[.int .i64 b, .string d, .slice a p.length c] 54)).alloc (.cells #[.string ⟨#[]⟩, .int .i64 0] 62))) := allocs_low [_, _] w
  have HR2 : Hid (((w.alloc (.cells #[.int .i64 b, .string d, .slice a p.length c] 54)).alloc (.cells #[.string ⟨#[]⟩, .int .i64 0] 62)).heap[w.heap.size + 1]? = some (.cells #[.string ⟨#[]⟩, .int .i64 0] 62 (0, 0))) := allocs_at [.cells #[.int .i64 b, .string d, .slice a p.length c] 54, .cells #[.string ⟨#[]⟩, .int .i64 0] 62] w 1 (by simp)
  by_cases hb1 : b = -1
  · subst hb1
    by_cases hp0 : p.length = 0
    · by_cases hd4 : d.size ≤ 4000
      · have hM : mkV V ⟨-1, d, p⟩ = some ⟨d, 0⟩ := mkV_base rfl hp0 hd4
        have HM := dhid hM
        rw [hp0] at HB2 HR2 HP ⊢
        have hd4I : ¬ (4000 : Int) < (d.size : Int) := by omega
        clear hp hM hp0
        go_enter Try.func71, Try.ntmps71
        go_wp2_with fail
        refine (HC.out _).mono ?_
        rintro e w3 ⟨rfl, hb3⟩
        have r1 := (hb3.block (w.heap.size + 1) (by simp)).trans HR2.out
        have R1 := dhid r1
        have HB3 := dhid (dblow HB2.out hb3 HB2.out.size)
        have x0 : w3.cell? ⟨w.heap.size + 1, 0, none⟩ = some (.string ⟨#[]⟩) := cell_of_row w3 _ 0 _ _ _ r1
        have x1 : w3.cell? ⟨w.heap.size + 1, 1, none⟩ = some (.int .i64 0) := cell_of_row w3 _ 1 _ _ _ r1
        have z0 := frozen_of_row w3 _ 0 _ _ r1
        have z1 := frozen_of_row w3 _ 1 _ _ r1
        clear r1 hb3
        go_wp2_with fail
        refine bodyPost_ret (results_c1 rfl _ _ (w.heap.size + 1) 62 #[.string d, .int .i64 0] (0, 0) _ rfl (box2_row R1.out _ _) Try.underlying62 rfl (by kernel_rfl)) rfl ⟨⟨⟨d, 0⟩, true, rfl, fun v hv => by rw [HM.out] at hv; injection hv with hv; exact ⟨hv, rfl⟩, fun h => by rw [HM.out] at h; cases h⟩, (HB3.out.setCell (p := ⟨w.heap.size + 1, 0, none⟩) (by show _ ≤ w.heap.size + 1; omega) _).setCell (p := ⟨w.heap.size + 1, 1, none⟩) (by show _ ≤ w.heap.size + 1; omega) _⟩
      · have hM : mkV V ⟨-1, d, p⟩ = none := mkV_base_no rfl fun c => hd4 c.2
        have HM := dhid hM
        rw [hp0] at HB2 HR2 HP ⊢
        have hd4I : (4000 : Int) < (d.size : Int) := by omega
        have HRR := HR2
        have HBB := HB2
        clear hp hM hp0 HC
        go_enter Try.func71, Try.ntmps71
        go_wp2_with fail
        refine bodyPost_ret (results_c1 rfl _ _ (w.heap.size + 1) 62 #[.string ⟨#[]⟩, .int .i64 0] (0, 0) _ rfl HRR.out Try.underlying62 rfl (by kernel_rfl)) rfl ⟨⟨⟨⟨#[]⟩, 0⟩, false, rfl, fun v hv => (by rw [HM.out] at hv; cases hv), fun _ => Or.inl rfl⟩, HBB.out⟩
    · have hM : mkV V ⟨-1, d, p⟩ = none := mkV_base_no rfl fun c => hp0 c.1
      have HM := dhid hM
      obtain ⟨n, hn⟩ : ∃ n, n = p.length := ⟨_, rfl⟩
      rw [← hn] at HR2 HB2 hp0 ⊢
      have hpI : (0 : Int) < (n : Int) := by omega
      have HRR := HR2
      have HBB := HB2
      clear hp hM hp0 HC HP hn hnI hpl
      go_enter Try.func71, Try.ntmps71
      go_wp2_with fail
      refine bodyPost_ret (results_c1 rfl _ _ (w.heap.size + 1) 62 #[.string ⟨#[]⟩, .int .i64 0] (0, 0) _ rfl HRR.out Try.underlying62 rfl (by kernel_rfl)) rfl ⟨⟨⟨⟨#[]⟩, 0⟩, false, rfl, fun v hv => (by rw [HM.out] at hv; cases hv), fun _ => Or.inl rfl⟩, HBB.out⟩
  · have hbe : (b == -1) = false := beq_eq_false_iff_ne.2 hb1
    have hkey := Maps.keyOf_int_mk Try.underlying2 hb
    have hm2 := hm.under HB2.out
    have hs2 : ((w.alloc (.cells #[.int .i64 b, .string d, .slice a p.length c] 54)).alloc (.cells #[.string ⟨#[]⟩, .int .i64 0] 62)).heap.size = w.heap.size + 1 + 1 := by simp
    cases hf : vMap V (.int .i64 b) with
    | none =>
      have hrun := (hm2.look_no keyI Try.underlying56 (zeroVer _) hkey hf).1
      have hM : mkV V ⟨b, d, p⟩ = none := by
        by_cases h0 : 0 ≤ b
        · apply mkV_out hb1
          unfold vMap at hf
          simp only [if_pos h0] at hf
          cases hx : V[b.toNat]? with
          | none => rfl
          | some o => rw [hx] at hf; cases hf
        · exact mkV_low hb1 h0
      have HM := dhid hM
      have HBB : Hid (Below w.heap.size w (((w.alloc (.cells #[.int .i64 b, .string d, .slice a p.length c] 54)).alloc (.cells #[.string ⟨#[]⟩, .int .i64 0] 62)).alloc (.cells #[.string ⟨#[]⟩, .int .i64 0] 62))) := allocs_low [_, _, _] w
      have HRR : Hid ((((w.alloc (.cells #[.int .i64 b, .string d, .slice a p.length c] 54)).alloc (.cells #[.string ⟨#[]⟩, .int .i64 0] 62)).alloc (.cells #[.string ⟨#[]⟩, .int .i64 0] 62)).heap[w.heap.size + 1]? = some (.cells #[.string ⟨#[]⟩, .int .i64 0] 62 (0, 0))) := allocs_at [.cells #[.int .i64 b, .string d, .slice a p.length c] 54, .cells #[.string ⟨#[]⟩, .int .i64 0] 62, .cells #[.string ⟨#[]⟩, .int .i64 0] 62] w 1 (by simp)
      clear hp hM HC hm hm2 HB2 HR2 hf hkey hs2
      go_enter Try.func71, Try.ntmps71
      go_wp2_with fail
      refine bodyPost_ret (results_c1 rfl _ _ (w.heap.size + 1) 62 #[.string ⟨#[]⟩, .int .i64 0] (0, 0) _ rfl HRR.out Try.underlying62 rfl (by kernel_rfl)) rfl ⟨⟨⟨⟨#[]⟩, 0⟩, false, rfl, fun v hv => (by rw [HM.out] at hv; cases hv), fun _ => Or.inl rfl⟩, HBB.out⟩
    | some ov =>
      have hf2 := hf
      obtain ⟨h0, o, ho, rfl⟩ : 0 ≤ b ∧ ∃ o, V[b.toNat]? = some o ∧ ov = verV o := by
        unfold vMap at hf
        by_cases h0 : 0 ≤ b
        · simp only [if_pos h0] at hf
          cases hx : V[b.toNat]? with
          | none => rw [hx] at hf; cases hf
          | some o => rw [hx] at hf; injection hf with hf; exact ⟨h0, o, rfl, hf.symm⟩
        · simp only [if_neg h0] at hf; cases hf
      have hrun := (hm2.look_yes keyI Try.underlying56 (zeroVer _) hkey hf2).1
      have hob := hV o (List.mem_of_getElem? ho)
      obtain ⟨ot, od⟩ := o
      unfold verV at hrun
      simp only at hrun hob
      have HBB : Hid (Below w.heap.size w (((w.alloc (.cells #[.int .i64 b, .string d, .slice a p.length c] 54)).alloc (.cells #[.string ⟨#[]⟩, .int .i64 0] 62)).alloc (.cells #[.string ot, .int .i64 od] 62))) := allocs_low [_, _, _] w
      have HRR : Hid ((((w.alloc (.cells #[.int .i64 b, .string d, .slice a p.length c] 54)).alloc (.cells #[.string ⟨#[]⟩, .int .i64 0] 62)).alloc (.cells #[.string ot, .int .i64 od] 62)).heap[w.heap.size + 1]? = some (.cells #[.string ⟨#[]⟩, .int .i64 0] 62 (0, 0))) := allocs_at [.cells #[.int .i64 b, .string d, .slice a p.length c] 54, .cells #[.string ⟨#[]⟩, .int .i64 0] 62, .cells #[.string ot, .int .i64 od] 62] w 1 (by simp)
      have HRO : Hid ((((w.alloc (.cells #[.int .i64 b, .string d, .slice a p.length c] 54)).alloc (.cells #[.string ⟨#[]⟩, .int .i64 0] 62)).alloc (.cells #[.string ot, .int .i64 od] 62)).heap[w.heap.size + 2]? = some (.cells #[.string ot, .int .i64 od] 62 (0, 0))) := allocs_at [.cells #[.int .i64 b, .string d, .slice a p.length c] 54, .cells #[.string ⟨#[]⟩, .int .i64 0] 62, .cells #[.string ot, .int .i64 od] 62] w 2 (by simp)
      by_cases hde : d = ⟨#[]⟩
      · subst hde
        have HPT : Hid (∀ w', Below w.heap.size w w' → Calls Try.prog 95 #[.string ot, .slice a p.length c] w' fun e w2 => e = .returned (.tuple #[.string (patV ot (pcF p) p.length), .bool (pcB (pcF p) p.length (ot.size : Int))]) ∧ Below w'.heap.size w' w2) := fun w' hb' => pat_any ot _ p.length (pcF p) w' hpl (HP.out.below hb')
        have HMK : Hid ((∀ v, mkV V ⟨b, ⟨#[]⟩, p⟩ = some v → (⟨patV ot (pcF p) p.length, od + 1⟩ : VerI) = v ∧ pcB (pcF p) p.length (ot.size : Int) = true) ∧ (mkV V ⟨b, ⟨#[]⟩, p⟩ = none → pcB (pcF p) p.length (ot.size : Int) = false ∨ (pcB (pcF p) p.length (ot.size : Int) = true ∧ 6 < od + 1 ∧ od + 1 ≤ 7))) := by
          by_cases hr : pcR (pcF p) p.length (ot.size : Int)
          · have e1 : patV ot (pcF p) p.length = patB ot (pcF p) p.length := by unfold patV; rw [pcB_yes hr]; rfl
            by_cases hd6 : od + 1 ≤ 6
            · have hM := mkV_on (V := V) (l := ⟨b, ⟨#[]⟩, p⟩) h0 ho rfl hr hd6
              refine ⟨fun v hv => ?_, fun h => ?_⟩
              · rw [hM] at hv
                injection hv with hv
                subst hv
                exact ⟨by rw [e1], pcB_yes hr⟩
              · rw [hM] at h; cases h
            · have hM := mkV_on_no (V := V) (l := ⟨b, ⟨#[]⟩, p⟩) h0 ho (fun c => hd6 c.2.2)
              refine ⟨fun v hv => ?_, fun h => Or.inr ⟨pcB_yes hr, by omega, by omega⟩⟩
              rw [hM] at hv; cases hv
          · have hM := mkV_on_no (V := V) (l := ⟨b, ⟨#[]⟩, p⟩) h0 ho (fun c => hr c.2.1)
            refine ⟨fun v hv => ?_, fun h => Or.inl (pcB_no hr)⟩
            rw [hM] at hv; cases hv
        generalize patV ot (pcF p) p.length = X at HPT HMK
        generalize pcB (pcF p) p.length (ot.size : Int) = ok at HPT HMK
        have hw1 : IntKind.i64.wrap (od + 1) = od + 1 := by rw [IntKind.wrap_i64]; omega
        clear hp HC hm hm2 HB2 HR2 hf hkey hs2 hf2 ho hdI hpl
        go_enter Try.func71, Try.ntmps71
        go_wp2_with fail
        refine (HPT.out _ HBB.out).mono ?_
        rintro e w3 ⟨rfl, hb3⟩
        have r1 := (hb3.block (w.heap.size + 1) (by simp)).trans HRR.out
        have r2 := (hb3.block (w.heap.size + 2) (by simp)).trans HRO.out
        have R1 := dhid r1
        have HB3 := dhid (dblow HBB.out hb3 HBB.out.size)
        have x0 : w3.cell? ⟨w.heap.size + 1, 0, none⟩ = some (.string ⟨#[]⟩) := cell_of_row w3 _ 0 _ _ _ r1
        have x1 : w3.cell? ⟨w.heap.size + 1, 1, none⟩ = some (.int .i64 0) := cell_of_row w3 _ 1 _ _ _ r1
        have y1 : w3.cell? ⟨w.heap.size + 1 + 1, 1, none⟩ = some (.int .i64 od) := cell_of_row w3 _ 1 _ _ _ r2
        have z0 := frozen_of_row w3 _ 0 _ _ r1
        have z1 := frozen_of_row w3 _ 1 _ _ r1
        clear r1 r2 hb3 HRR HRO HBB hrun
        go_wp2_with fail
        refine bodyPost_ret (results_c1 rfl _ _ (w.heap.size + 1) 62 #[.string X, .int .i64 (od + 1)] (0, 0) _ rfl (box2_row R1.out _ _) Try.underlying62 rfl (by kernel_rfl)) rfl ⟨⟨⟨X, od + 1⟩, ok, rfl, HMK.out.1, HMK.out.2⟩, (HB3.out.setCell (p := ⟨w.heap.size + 1, 0, none⟩) (by show _ ≤ w.heap.size + 1; omega) _).setCell (p := ⟨w.heap.size + 1, 1, none⟩) (by show _ ≤ w.heap.size + 1; omega) _⟩
      · have hM : mkV V ⟨b, d, p⟩ = none := mkV_on_no h0 ho fun c => hde c.1
        have HM := dhid hM
        have hne := d_ne hde
        clear hp hM HC hm hm2 HB2 HR2 hf hkey hs2 hf2 ho hde HRO
        go_enter Try.func71, Try.ntmps71
        go_wp2_with fail
        refine bodyPost_ret (results_c1 rfl _ _ (w.heap.size + 1) 62 #[.string ⟨#[]⟩, .int .i64 0] (0, 0) _ rfl HRR.out Try.underlying62 rfl (by kernel_rfl)) rfl ⟨⟨⟨⟨#[]⟩, 0⟩, false, rfl, fun v hv => (by rw [HM.out] at hv; cases hv), fun _ => Or.inl rfl⟩, HBB.out⟩
end Go.Proofs.Ytpeddaljgmkomaa
