/-
  Several texts of this seat as one: PatC, VeC, VeD.
-/
import Derived.Test.YtpeddaljgmkomaaPk11
import Derived.Test.YtpeddaljgmkomaaPk12
import Derived.Test.YtpeddaljgmkomaaPk04
import Derived.Test.YtpeddaljgmkomaaPk09

/-!   What pieces make: the code's. -/
namespace Go.Proofs.Ytpeddaljgmkomaa
open Go.RowKit
set_option linter.unusedVariables false
set_option linter.unusedSimpArgs false
set_option maxRecDepth 100000 in
set_option maxHeartbeats 2000000 in
theorem pat_yes (old : ByteArray) (a : Option Addr) (c n : Nat) (F : Nat → PcI) (w : World) (hF : PcLe F n) (hok : pcR F n (old.size : Int)) (hr : 0 < n → ∃ g, a = some ⟨g, 0, none⟩ ∧ PcRow w g n F) :
    Calls Try.prog 95 #[.string old, .slice a n c] w fun e w' => e = .returned (.tuple #[.string (patB old F n), .bool true]) ∧ Below w.heap.size w w' := by
  have hnI : (n : Int) ≤ 500 := by have := hok.2.2.1; omega
  have HK : Hid (∀ w, PcArg w (.slice a n c) n F → Calls Try.prog 80 #[.int .i64 (old.size : Int), .slice a n c] w fun e w' => e = .returned (.bool true) ∧ Below w.heap.size w w') := fun w h => by
    have h2 := pcs_any (.slice a n c) n F (old.size : Int) w hF h
    rw [pcB_yes hok] at h2
    exact h2
  have HR : Hid (∀ w', Below w.heap.size w w' → 0 < n → ∃ g, a = some ⟨g, 0, none⟩ ∧ PcRow w' g n F) := fun w' hb h0 => by
    obtain ⟨g, h1, h2⟩ := hr h0
    exact ⟨g, h1, h2.below hb h2.lt⟩
  have HA : Hid (PcArg w (.slice a n c) n F) := ⟨a, c, rfl, hr⟩
  have HO : Hid (pcR F n (old.size : Int)) := hok
  clear hr hok hF
  go_enter Try.func95, Try.ntmps95
  go_wp2_with fail
  refine (HK.out _ HA.out).mono ?_
  rintro e w1 ⟨rfl, hb1⟩
  have HB1 : Hid (Below w.heap.size w w1) := hb1
  have HBL : Hid (BldIs w1.heap.size w1.heap.size ⟨#[]⟩ (w1.alloc (.cells #[.pointer none, .slice none 0 0] 99))) := bld_new w1
  have HB2 : Hid (Below w.heap.size w (w1.alloc (.cells #[.pointer none, .slice none 0 0] 99))) := hb1.alloc hb1.size _
  clear hb1
  go_wp2_with fail
  go_loopw [16] (fun v wr => ∃ (i : Nat), i ≤ n ∧ v = .int .i64 (i : Int) ∧ w1.heap.size ≤ wr.heap.size ∧ Hid (BldIs w1.heap.size w1.heap.size (patB old F i) wr) ∧ Hid (Below w.heap.size w wr)) (fun v _ => n - (intN v).toNat)
  case atStart => exact ⟨0, by omega, rfl, by simp, HBL, HB2⟩
  case round =>
    clear HBL HB2
    obtain ⟨i, hi, rfl, hws, HBL, HB⟩ := hrel
    by_cases hlt : i < n
    · have hltI : (i : Int) < (n : Int) := by omega
      obtain ⟨g, rfl, hrow⟩ := HR.out _ HB.out (by omega)
      obtain ⟨q, hq⟩ : ∃ q, q = 3 * i := ⟨_, rfl⟩
      have x0 := hrow.c0 i hlt
      have x1 := hrow.c1 i hlt
      have x2 := hrow.c2 i hlt
      rw [← hq] at x0 x1 x2
      have hiq : i * 3 = q := by omega
      have hp := HO.out.2.2.2.1 i hlt
      have hle := patB_le HO.out (i := i) (by omega)
      have hle2 := patB_le HO.out (i := i + 1) (by omega)
      have HST : Hid (patB old F (i + 1) = patB old F i ++ pcTx old (F i)) := rfl
      have hb0 : ∀ X, Below w.heap.size w (wr.alloc X) := fun X => HB.out.alloc HB.out.size _
      have HB0 : Hid _ := hb0
      have HBL1 : Hid (∀ X, BldIs w1.heap.size w1.heap.size (patB old F i) (wr.alloc X)) := fun X => HBL.out.alloc X
      have hold := HO.out.2.1
      clear hrow hq hb0 HBL HB
      generalize F i = p at x0 x1 x2 hp HST
      rw [HST.out] at hle2
      generalize patB old F i = acc at hle hle2 HST HBL1
      obtain ⟨f, l, d⟩ := p
      simp only at x0 x1 x2
      rcases hp with ⟨h, h1, h2, h3, h4⟩ | ⟨h, h1, h2⟩
      · simp only at h h1 h2 h3 h4
        subst h
        rw [pcTx_no rfl] at hle2 HST
        have hwo : IntKind.i64.wrap (f + l) = f + l := by rw [IntKind.wrap_i64]; omega
        obtain ⟨f2, rfl⟩ : ∃ f2 : Nat, f = (f2 : Int) := ⟨f.toNat, by omega⟩
        obtain ⟨l2, rfl⟩ : ∃ l2 : Nat, l = (l2 : Int) := ⟨l.toNat, by omega⟩
        have e1 : (f2 : Int) + (l2 : Int) = ((f2 + l2 : Nat) : Int) := by omega
        simp only [e1, Int.toNat_natCast] at hle2 HST hwo
        have hs1 : f2 ≤ f2 + l2 := by omega
        have hs2 : f2 + l2 ≤ old.size := by omega
        obtain ⟨z, hz⟩ : ∃ z, z = f2 + l2 := ⟨_, rfl⟩
        rw [← hz] at e1 hle2 HST hwo hs1 hs2
        have hs1I : (f2 : Int) ≤ (z : Int) := by omega
        have hs2I : (z : Int) ≤ (old.size : Int) := by omega
        clear hz h1 h2 h3 h4
        go_wp2_with fail
        refine (bld_add w1.heap.size w1.heap.size acc _ _ (HBL1.out _) (by rw [← ByteArray.size_append]; omega) (by simp; omega)).mono ?_
        rintro e w3 ⟨rfl, hbl3, hb3⟩
        have HB3 : Hid (Below w.heap.size w w3) := (HB0.out _).trans (hb3.mono HB1.out.size)
        have HBL3 : Hid (BldIs w1.heap.size w1.heap.size (patB old F (i + 1)) w3) := by rw [HST.out]; exact hbl3
        have hws3 : w1.heap.size ≤ w3.heap.size := by have := hb3.size; simp at this; omega
        clear hb3 hbl3 HST hle hle2 x0 x1 x2 HB0 HBL1
        go_wp2_with fail
        go_roundw
        case rel => exact ⟨i + 1, by omega, by go_num, hws3, HBL3, HB3⟩
        case measure => simp [intN]; omega
      · simp only at h h1 h2
        subst h1 h2
        rw [pcTx_yes h] at hle2 HST
        have he := d_ne h
        simp only at he hle2 HST
        clear h
        go_wp2_with fail
        refine (bld_add w1.heap.size w1.heap.size acc _ _ (HBL1.out _) (by rw [← ByteArray.size_append]; omega) (by simp; omega)).mono ?_
        rintro e w3 ⟨rfl, hbl3, hb3⟩
        have HB3 : Hid (Below w.heap.size w w3) := (HB0.out _).trans (hb3.mono HB1.out.size)
        have HBL3 : Hid (BldIs w1.heap.size w1.heap.size (patB old F (i + 1)) w3) := by rw [HST.out]; exact hbl3
        have hws3 : w1.heap.size ≤ w3.heap.size := by have := hb3.size; simp at this; omega
        clear hb3 hbl3 HST hle hle2 x0 x1 x2 HB0 HBL1
        go_wp2_with fail
        go_roundw
        case rel => exact ⟨i + 1, by omega, by go_num, hws3, HBL3, HB3⟩
        case measure => simp [intN]; omega
    · obtain rfl : i = n := by omega
      go_wp2_with fail
      refine (bld_tell w1.heap.size w1.heap.size (patB old F i) _ HBL.out hws).mono ?_
      rintro e w3 ⟨rfl, hb3⟩
      have HB3 : Hid (Below w.heap.size w w3) := HB.out.trans (hb3.mono HB1.out.size)
      clear hb3
      go_wp2_with fail
      go_ret2
      exact ⟨rfl, HB3.out⟩
set_option maxRecDepth 100000 in
set_option maxHeartbeats 1000000 in
theorem pat_no (old : ByteArray) (v : Value) (n : Nat) (F : Nat → PcI) (w : World) (hF : PcLe F n) (hok : ¬ pcR F n (old.size : Int)) (hr : PcArg w v n F) :
    Calls Try.prog 95 #[.string old, v] w fun e w' => e = .returned (.tuple #[.string ⟨#[]⟩, .bool false]) ∧ Below w.heap.size w w' := by
  have HK : Hid (Calls Try.prog 80 #[.int .i64 (old.size : Int), v] w fun e w' => e = .returned (.bool false) ∧ Below w.heap.size w w') := by
    have h2 := pcs_any v n F (old.size : Int) w hF hr
    rw [pcB_no hok] at h2
    exact h2
  obtain ⟨a, c, rfl, _⟩ := hr
  clear hok hF
  go_enter Try.func95, Try.ntmps95
  go_wp2_with fail
  refine HK.out.mono ?_
  rintro e w1 ⟨rfl, hb1⟩
  go_wp2_with fail
  go_ret2
  exact ⟨rfl, hb1⟩
theorem patB_zero (old : ByteArray) (F : Nat → PcI) (n : Nat) (h : ¬ pcR F n (old.size : Int)) : patV old F n = ⟨#[]⟩ := by unfold patV; rw [pcB_no h]; rfl
theorem patB_some (old : ByteArray) (F : Nat → PcI) (n : Nat) (h : pcR F n (old.size : Int)) : patV old F n = patB old F n := by unfold patV; rw [pcB_yes h]; rfl
theorem pat_any (old : ByteArray) (v : Value) (n : Nat) (F : Nat → PcI) (w : World) (hF : PcLe F n) (hr : PcArg w v n F) :
    Calls Try.prog 95 #[.string old, v] w fun e w' => e = .returned (.tuple #[.string (patV old F n), .bool (pcB F n (old.size : Int))]) ∧ Below w.heap.size w w' := by
  by_cases h : pcR F n (old.size : Int)
  · rw [patB_some old F n h, pcB_yes h]
    obtain ⟨a, c, rfl, hr⟩ := hr
    exact pat_yes old a c n F w hF h hr
  · rw [patB_zero old F n h, pcB_no h]
    exact pat_no old v n F w hF h hr
end Go.Proofs.Ytpeddaljgmkomaa

/-!   The code's versions of a chain: a link behind those ahead of it. -/
namespace Go.Proofs.Ytpeddaljgmkomaa
open Go.RowKit
open Go.Maps (Keyed)
set_option linter.unusedVariables false
set_option linter.unusedSimpArgs false
theorem results_c1 {P : Program} {fn : Func} {t p : Tmp} {ty : TypeId} (h : fn.results = #[.cell p ty, .tmp t]) (tmps : Array Value) (w : World) (g : Nat) (t2 : TypeId) (cs : Array Value) (fr : Nat × Nat) (d : TypeDesc)
    (hp : tmps.getD p undef = .pointer (some ⟨g, 0, none⟩)) (hg : w.heap[g]? = some (.cells cs t2 fr))
    (hu : P.underlying ty = some d) (hd : (match d with | .struct _ | .array _ _ => true | _ => false) = true) (hi : (P.info? ty).map (·.size) = some cs.size) :
    (results fn tmps).run P w = .ok (.tuple #[.agg cs, tmps.getD t undef]) w := by
  have hp' : tmps[p]?.getD undef = .pointer (some ⟨g, 0, none⟩) := by simpa using hp
  simp [results, h, hp', asAddr, run_loadVar_row w g t2 ty cs fr d hg hu hd hi]
def verV (v : VerI) : Value := .agg #[.string v.t, .int .i64 v.d]
def vMap (V : List VerI) : Lit → Option Value
  | .int .i64 k => if 0 ≤ k then (V[k.toNat]?).map verV else none
  | _ => none
theorem zeroVer (w : World) : (zeroValue 62).run Try.prog w = .ok (.agg #[.string ⟨#[]⟩, .int .i64 0]) w := by kernel_rfl
theorem keyI : Keyed Try.prog 2 := Maps.int_keyed Try.underlying2
theorem box2_row {W : World} {g : Nat} {x y : Value} {T : TypeId} (h : W.heap[g]? = some (.cells #[x, y] T (0, 0))) (a b : Value) :
    ((W.setCell ⟨g, 0, none⟩ a).setCell ⟨g, 1, none⟩ b).heap[g]? = some (.cells #[a, b] T (0, 0)) :=
  heap_setCell_same _ _ _ #[a, y] _ _ (heap_setCell_same _ _ _ #[x, y] _ _ h)
set_option maxRecDepth 100000 in
set_option maxHeartbeats 4000000 in
theorem madeFrom_any (V : List VerI) (l : LkI) (pv : Value) (bs : List Nat) (mb : Nat) (w : World) (hV : VerB V) (hd : l.d.size ≤ 1048576) (hb : (Lit.int .i64 l.b).wf = true) (hpl : PcLe (pcF l.p) l.p.length) (hp : Hd w (pcsD l.p) pv bs) (hm : MapF w Try.prog 2 mb V.length (vMap V)) :
    Calls Try.prog 71 #[.agg #[.int .i64 l.b, .string l.d, pv], .map (some mb)] w fun e w' => (∃ x ok, e = .returned (.tuple #[verV x, .bool ok]) ∧ (∀ v, mkV V l = some v → x = v ∧ ok = true) ∧ (mkV V l = none → ok = false ∨ (ok = true ∧ 6 < x.d ∧ x.d ≤ 7))) ∧ Below w.heap.size w w' := by
  obtain ⟨b, d, p⟩ := l
  simp only at hd hpl hp hb ⊢
  have HP := dhid (pcs_arg hp)
  obtain ⟨a, c, rfl, _⟩ := pcs_arg hp
  have hdI : (d.size : Int) ≤ 1048576 := by omega
  have hnI : (p.length : Int) ≤ 1048576 := by have := hpl.len; omega
  have HC : Hid (∀ w, Calls Try.prog 50 #[.string d] w fun e w' => e = .returned (.string d) ∧ Below w.heap.size w w') := fun w => clone_any d w (by omega)
  have HB2 : Hid (Below w.heap.size w ((w.alloc (.cells #[.int .i64 b, .string d, .slice a p.length c] 54)).alloc (.cells #[.string ⟨#[]⟩, .int .i64 0] 62))) := allocs_low [_, _] w
  have HR2 : Hid (((w.alloc (.cells #[.int .i64 b, .string d, .slice a p.length c] 54)).alloc (.cells #[.string ⟨#[]⟩, .int .i64 0] 62)).heap[w.heap.size + 1]? = some (.cells #[.string ⟨#[]⟩, .int .i64 0] 62 (0, 0))) := allocs_at [.cells #[.int .i64 b, .string d, .slice a p.length c] 54, .cells #[.string ⟨#[]⟩, .int .i64 0] 62] w 1 (by simp)
  by_cases hb1 : b = -1
  · subst hb1
    by_cases hp0 : p.length = 0
    · by_cases hd4 : d.size ≤ 4000
      · have hM : mkV V ⟨-1, d, p⟩ = some ⟨d, 0⟩ := mkV_base rfl hp0 hd4
        have HM := dhid hM
        rw [hp0] at HB2 HR2 HP ⊢
        have hd4I : ¬ (4000 : Int) < (d.size : Int) := by omega
        clear hp hM hp0
        go_enter Try.func71, Try.ntmps71
        go_wp2_with fail
        refine (HC.out _).mono ?_
        rintro e w3 ⟨rfl, hb3⟩
        have r1 := (hb3.block (w.heap.size + 1) (by simp)).trans HR2.out
        have R1 := dhid r1
        have HB3 := dhid (dblow HB2.out hb3 HB2.out.size)
        have x0 : w3.cell? ⟨w.heap.size + 1, 0, none⟩ = some (.string ⟨#[]⟩) := cell_of_row w3 _ 0 _ _ _ r1
        have x1 : w3.cell? ⟨w.heap.size + 1, 1, none⟩ = some (.int .i64 0) := cell_of_row w3 _ 1 _ _ _ r1
        have z0 := frozen_of_row w3 _ 0 _ _ r1
        have z1 := frozen_of_row w3 _ 1 _ _ r1
        clear r1 hb3
        go_wp2_with fail
        refine bodyPost_ret (results_c1 rfl _ _ (w.heap.size + 1) 62 #[.string d, .int .i64 0] (0, 0) _ rfl (box2_row R1.out _ _) Try.underlying62 rfl (by kernel_rfl)) rfl ⟨⟨⟨d, 0⟩, true, rfl, fun v hv => by rw [HM.out] at hv; injection hv with hv; exact ⟨hv, rfl⟩, fun h => by rw [HM.out] at h; cases h⟩, (HB3.out.setCell (p := ⟨w.heap.size + 1, 0, none⟩) (by show _ ≤ w.heap.size + 1; omega) _).setCell (p := ⟨w.heap.size + 1, 1, none⟩) (by show _ ≤ w.heap.size + 1; omega) _⟩
      · have hM : mkV V ⟨-1, d, p⟩ = none := mkV_base_no rfl fun c => hd4 c.2
        have HM := dhid hM
        rw [hp0] at HB2 HR2 HP ⊢
        have hd4I : (4000 : Int) < (d.size : Int) := by omega
        have HRR := HR2
        have HBB := HB2
        clear hp hM hp0 HC
        go_enter Try.func71, Try.ntmps71
        go_wp2_with fail
        refine bodyPost_ret (results_c1 rfl _ _ (w.heap.size + 1) 62 #[.string ⟨#[]⟩, .int .i64 0] (0, 0) _ rfl HRR.out Try.underlying62 rfl (by kernel_rfl)) rfl ⟨⟨⟨⟨#[]⟩, 0⟩, false, rfl, fun v hv => (by rw [HM.out] at hv; cases hv), fun _ => Or.inl rfl⟩, HBB.out⟩
    · have hM : mkV V ⟨-1, d, p⟩ = none := mkV_base_no rfl fun c => hp0 c.1
      have HM := dhid hM
      obtain ⟨n, hn⟩ : ∃ n, n = p.length := ⟨_, rfl⟩
      rw [← hn] at HR2 HB2 hp0 ⊢
      have hpI : (0 : Int) < (n : Int) := by omega
      have HRR := HR2
      have HBB := HB2
      clear hp hM hp0 HC HP hn hnI hpl
      go_enter Try.func71, Try.ntmps71
      go_wp2_with fail
      refine bodyPost_ret (results_c1 rfl _ _ (w.heap.size + 1) 62 #[.string ⟨#[]⟩, .int .i64 0] (0, 0) _ rfl HRR.out Try.underlying62 rfl (by kernel_rfl)) rfl ⟨⟨⟨⟨#[]⟩, 0⟩, false, rfl, fun v hv => (by rw [HM.out] at hv; cases hv), fun _ => Or.inl rfl⟩, HBB.out⟩
  · have hbe : (b == -1) = false := beq_eq_false_iff_ne.2 hb1
    have hkey := Maps.keyOf_int_mk Try.underlying2 hb
    have hm2 := hm.under HB2.out
    have hs2 : ((w.alloc (.cells #[.int .i64 b, .string d, .slice a p.length c] 54)).alloc (.cells #[.string ⟨#[]⟩, .int .i64 0] 62)).heap.size = w.heap.size + 1 + 1 := by simp
    cases hf : vMap V (.int .i64 b) with
    | none =>
      have hrun := (hm2.look_no keyI Try.underlying56 (zeroVer _) hkey hf).1
      have hM : mkV V ⟨b, d, p⟩ = none := by
        by_cases h0 : 0 ≤ b
        · apply mkV_out hb1
          unfold vMap at hf
          simp only [if_pos h0] at hf
          cases hx : V[b.toNat]? with
          | none => rfl
          | some o => rw [hx] at hf; cases hf
        · exact mkV_low hb1 h0
      have HM := dhid hM
      have HBB : Hid (Below w.heap.size w (((w.alloc (.cells #[.int .i64 b, .string d, .slice a p.length c] 54)).alloc (.cells #[.string ⟨#[]⟩, .int .i64 0] 62)).alloc (.cells #[.string ⟨#[]⟩, .int .i64 0] 62))) := allocs_low [_, _, _] w
      have HRR : Hid ((((w.alloc (.cells #[.int .i64 b, .string d, .slice a p.length c] 54)).alloc (.cells #[.string ⟨#[]⟩, .int .i64 0] 62)).alloc (.cells #[.string ⟨#[]⟩, .int .i64 0] 62)).heap[w.heap.size + 1]? = some (.cells #[.string ⟨#[]⟩, .int .i64 0] 62 (0, 0))) := allocs_at [.cells #[.int .i64 b, .string d, .slice a p.length c] 54, .cells #[.string ⟨#[]⟩, .int .i64 0] 62, .cells #[.string ⟨#[]⟩, .int .i64 0] 62] w 1 (by simp)
      clear hp hM HC hm hm2 HB2 HR2 hf hkey hs2
      go_enter Try.func71, Try.ntmps71
      go_wp2_with fail
      refine bodyPost_ret (results_c1 rfl _ _ (w.heap.size + 1) 62 #[.string ⟨#[]⟩, .int .i64 0] (0, 0) _ rfl HRR.out Try.underlying62 rfl (by kernel_rfl)) rfl ⟨⟨⟨⟨#[]⟩, 0⟩, false, rfl, fun v hv => (by rw [HM.out] at hv; cases hv), fun _ => Or.inl rfl⟩, HBB.out⟩
    | some ov =>
      have hf2 := hf
      obtain ⟨h0, o, ho, rfl⟩ : 0 ≤ b ∧ ∃ o, V[b.toNat]? = some o ∧ ov = verV o := by
        unfold vMap at hf
        by_cases h0 : 0 ≤ b
        · simp only [if_pos h0] at hf
          cases hx : V[b.toNat]? with
          | none => rw [hx] at hf; cases hf
          | some o => rw [hx] at hf; injection hf with hf; exact ⟨h0, o, rfl, hf.symm⟩
        · simp only [if_neg h0] at hf; cases hf
      have hrun := (hm2.look_yes keyI Try.underlying56 (zeroVer _) hkey hf2).1
      have hob := hV o (List.mem_of_getElem? ho)
      obtain ⟨ot, od⟩ := o
      unfold verV at hrun
      simp only at hrun hob
      have HBB : Hid (Below w.heap.size w (((w.alloc (.cells #[.int .i64 b, .string d, .slice a p.length c] 54)).alloc (.cells #[.string ⟨#[]⟩, .int .i64 0] 62)).alloc (.cells #[.string ot, .int .i64 od] 62))) := allocs_low [_, _, _] w
      have HRR : Hid ((((w.alloc (.cells #[.int .i64 b, .string d, .slice a p.length c] 54)).alloc (.cells #[.string ⟨#[]⟩, .int .i64 0] 62)).alloc (.cells #[.string ot, .int .i64 od] 62)).heap[w.heap.size + 1]? = some (.cells #[.string ⟨#[]⟩, .int .i64 0] 62 (0, 0))) := allocs_at [.cells #[.int .i64 b, .string d, .slice a p.length c] 54, .cells #[.string ⟨#[]⟩, .int .i64 0] 62, .cells #[.string ot, .int .i64 od] 62] w 1 (by simp)
      have HRO : Hid ((((w.alloc (.cells #[.int .i64 b, .string d, .slice a p.length c] 54)).alloc (.cells #[.string ⟨#[]⟩, .int .i64 0] 62)).alloc (.cells #[.string ot, .int .i64 od] 62)).heap[w.heap.size + 2]? = some (.cells #[.string ot, .int .i64 od] 62 (0, 0))) := allocs_at [.cells #[.int .i64 b, .string d, .slice a p.length c] 54, .cells #[.string ⟨#[]⟩, .int .i64 0] 62, .cells #[.string ot, .int .i64 od] 62] w 2 (by simp)
      by_cases hde : d = ⟨#[]⟩
      · subst hde
        have HPT : Hid (∀ w', Below w.heap.size w w' → Calls Try.prog 95 #[.string ot, .slice a p.length c] w' fun e w2 => e = .returned (.tuple #[.string (patV ot (pcF p) p.length), .bool (pcB (pcF p) p.length (ot.size : Int))]) ∧ Below w'.heap.size w' w2) := fun w' hb' => pat_any ot _ p.length (pcF p) w' hpl (HP.out.below hb')
        have HMK : Hid ((∀ v, mkV V ⟨b, ⟨#[]⟩, p⟩ = some v → (⟨patV ot (pcF p) p.length, od + 1⟩ : VerI) = v ∧ pcB (pcF p) p.length (ot.size : Int) = true) ∧ (mkV V ⟨b, ⟨#[]⟩, p⟩ = none → pcB (pcF p) p.length (ot.size : Int) = false ∨ (pcB (pcF p) p.length (ot.size : Int) = true ∧ 6 < od + 1 ∧ od + 1 ≤ 7))) := by
          by_cases hr : pcR (pcF p) p.length (ot.size : Int)
          · have e1 : patV ot (pcF p) p.length = patB ot (pcF p) p.length := by unfold patV; rw [pcB_yes hr]; rfl
            by_cases hd6 : od + 1 ≤ 6
            · have hM := mkV_on (V := V) (l := ⟨b, ⟨#[]⟩, p⟩) h0 ho rfl hr hd6
              refine ⟨fun v hv => ?_, fun h => ?_⟩
              · rw [hM] at hv
                injection hv with hv
                subst hv
                exact ⟨by rw [e1], pcB_yes hr⟩
              · rw [hM] at h; cases h
            · have hM := mkV_on_no (V := V) (l := ⟨b, ⟨#[]⟩, p⟩) h0 ho (fun c => hd6 c.2.2)
              refine ⟨fun v hv => ?_, fun h => Or.inr ⟨pcB_yes hr, by omega, by omega⟩⟩
              rw [hM] at hv; cases hv
          · have hM := mkV_on_no (V := V) (l := ⟨b, ⟨#[]⟩, p⟩) h0 ho (fun c => hr c.2.1)
            refine ⟨fun v hv => ?_, fun h => Or.inl (pcB_no hr)⟩
            rw [hM] at hv; cases hv
        generalize patV ot (pcF p) p.length = X at HPT HMK
        generalize pcB (pcF p) p.length (ot.size : Int) = ok at HPT HMK
        have hw1 : IntKind.i64.wrap (od + 1) = od + 1 := by rw [IntKind.wrap_i64]; omega
        clear hp HC hm hm2 HB2 HR2 hf hkey hs2 hf2 ho hdI hpl
        go_enter Try.func71, Try.ntmps71
        go_wp2_with fail
        refine (HPT.out _ HBB.out).mono ?_
        rintro e w3 ⟨rfl, hb3⟩
        have r1 := (hb3.block (w.heap.size + 1) (by simp)).trans HRR.out
        have r2 := (hb3.block (w.heap.size + 2) (by simp)).trans HRO.out
        have R1 := dhid r1
        have HB3 := dhid (dblow HBB.out hb3 HBB.out.size)
        have x0 : w3.cell? ⟨w.heap.size + 1, 0, none⟩ = some (.string ⟨#[]⟩) := cell_of_row w3 _ 0 _ _ _ r1
        have x1 : w3.cell? ⟨w.heap.size + 1, 1, none⟩ = some (.int .i64 0) := cell_of_row w3 _ 1 _ _ _ r1
        have y1 : w3.cell? ⟨w.heap.size + 1 + 1, 1, none⟩ = some (.int .i64 od) := cell_of_row w3 _ 1 _ _ _ r2
        have z0 := frozen_of_row w3 _ 0 _ _ r1
        have z1 := frozen_of_row w3 _ 1 _ _ r1
        clear r1 r2 hb3 HRR HRO HBB hrun
        go_wp2_with fail
        refine bodyPost_ret (results_c1 rfl _ _ (w.heap.size + 1) 62 #[.string X, .int .i64 (od + 1)] (0, 0) _ rfl (box2_row R1.out _ _) Try.underlying62 rfl (by kernel_rfl)) rfl ⟨⟨⟨X, od + 1⟩, ok, rfl, HMK.out.1, HMK.out.2⟩, (HB3.out.setCell (p := ⟨w.heap.size + 1, 0, none⟩) (by show _ ≤ w.heap.size + 1; omega) _).setCell (p := ⟨w.heap.size + 1, 1, none⟩) (by show _ ≤ w.heap.size + 1; omega) _⟩
      · have hM : mkV V ⟨b, d, p⟩ = none := mkV_on_no h0 ho fun c => hde c.1
        have HM := dhid hM
        have hne := d_ne hde
        clear hp hM HC hm hm2 HB2 HR2 hf hkey hs2 hf2 ho hde HRO
        go_enter Try.func71, Try.ntmps71
        go_wp2_with fail
        refine bodyPost_ret (results_c1 rfl _ _ (w.heap.size + 1) 62 #[.string ⟨#[]⟩, .int .i64 0] (0, 0) _ rfl HRR.out Try.underlying62 rfl (by kernel_rfl)) rfl ⟨⟨⟨⟨#[]⟩, 0⟩, false, rfl, fun v hv => (by rw [HM.out] at hv; cases hv), fun _ => Or.inl rfl⟩, HBB.out⟩
end Go.Proofs.Ytpeddaljgmkomaa

/-!   The code's versions of a chain: all of them, in a map; one of them. -/
namespace Go.Proofs.Ytpeddaljgmkomaa
open Go.RowKit
open Go.Maps (Keyed)
set_option linter.unusedVariables false
set_option linter.unusedSimpArgs false
/-- what the law's measure lets in -/
structure LkLe (L : List LkI) : Prop where
  len : L.length ≤ 1048576
  one : ∀ x ∈ L, x.d.size ≤ 1048576 ∧ (Lit.int .i64 x.b).wf = true ∧ PcLe (pcF x.p) x.p.length
theorem vMap_end {V : List VerI} {i : Nat} (h : V.length = i) : vMap V (.int .i64 (i : Int)) = none := by
  unfold vMap
  simp only [if_pos (show (0 : Int) ≤ (i : Int) by omega), Int.toNat_natCast]
  rw [List.getElem?_eq_none (by omega)]; rfl
theorem vMap_put {V : List VerI} {i : Nat} (h : V.length = i) (x : VerI) (kl : Lit) : vMap (V ++ [x]) kl = putF (vMap V) (.int .i64 (i : Int)) (verV x) kl := by
  by_cases e : kl = .int .i64 (i : Int)
  · subst e
    rw [putF_same]
    unfold vMap
    simp only [if_pos (show (0 : Int) ≤ (i : Int) by omega), Int.toNat_natCast]
    rw [List.getElem?_append_right (by omega), h]
    simp
  · rw [putF_other e]
    unfold vMap
    split
    · rename_i k
      split
      · rename_i h0
        by_cases hk : k.toNat < i
        · rw [List.getElem?_append_left (by omega)]
        · rw [List.getElem?_eq_none (by simp; exact (by have : k ≠ (i : Int) := fun c => e (by rw [c]); omega)), List.getElem?_eq_none (by omega)]
      · rfl
    · rfl
/-- what versionsOf tells -/
def VsPost (w : World) (R : Option (List VerI)) (e : Ending) (w' : World) : Prop :=
  (match R with | some V => e = .returned (.tuple #[.map (some w.heap.size), .bool true]) ∧ MapF w' Try.prog 2 w.heap.size V.length (vMap V) | none => e = .returned (.tuple #[.map none, .bool false])) ∧ Below w.heap.size w w'
set_option maxRecDepth 100000 in
set_option maxHeartbeats 4000000 in
theorem vs_some (g c n : Nat) (L : List LkI) (hLn : n = L.length) (w : World) (hl : LkLe L) (hn : n ≤ 30) (hg : LkCells w g L) :
    Calls Try.prog 40 #[.slice (some ⟨g, 0, none⟩) n c] w fun e w' => VsPost w (vAll L) e w' := by
  have hnI : (n : Int) ≤ 30 := by omega
  have hnI2 : ¬ (30 : Int) < (n : Int) := by omega
  have hmm := @run_makeMap Try.prog
  have HX : Hid (n = L.length ∧ LkLe L ∧ LkCells w g L) := ⟨hLn, hl, hg⟩
  have HM : Hid (∀ (V : List VerI) (l : LkI) (pv : Value) (bs : List Nat) (mb : Nat) (w : World), VerB V → l.d.size ≤ 1048576 → (Lit.int .i64 l.b).wf = true → PcLe (pcF l.p) l.p.length → Hd w (pcsD l.p) pv bs → MapF w Try.prog 2 mb V.length (vMap V) →
    Calls Try.prog 71 #[.agg #[.int .i64 l.b, .string l.d, pv], .map (some mb)] w fun e w' => (∃ x ok, e = .returned (.tuple #[verV x, .bool ok]) ∧ (∀ v, mkV V l = some v → x = v ∧ ok = true) ∧ (mkV V l = none → ok = false ∨ (ok = true ∧ 6 < x.d ∧ x.d ≤ 7))) ∧ Below w.heap.size w w') := fun V l pv bs mb w h1 h2 h3 h4 h5 h6 => madeFrom_any V l pv bs mb w h1 h2 h3 h4 h5 h6
  have HST : Hid (Below w.heap.size w (w.alloc (.map #[] 0)) ∧ MapF (w.alloc (.map #[] 0)) Try.prog 2 w.heap.size 0 (vMap [])) := ⟨(Below.refl _ _).alloc (Nat.le_refl _) _, (MapF.made w Try.prog 2).congr fun kl _ => by unfold vMap; split <;> simp⟩
  clear hg hl hLn
  go_enter Try.func40, Try.ntmps40
  go_wp2_with fail
  clear hmm
  go_loopw [15] (fun v wr => ∃ (i : Nat) (V : List VerI), i ≤ n ∧ v = .int .i64 (i : Int) ∧ Hid (vF L i = some V) ∧ Hid (Below w.heap.size w wr ∧ MapF wr Try.prog 2 w.heap.size i (vMap V))) (fun v _ => n - (intN v).toNat)
  case atStart => exact ⟨0, [], by omega, rfl, rfl, HST⟩
  case round =>
    clear HST
    obtain ⟨i, V, hi, rfl, HV, HB⟩ := hrel
    have hVl := vF_len HV.out
    by_cases hlt : i < n
    · have hltI : (i : Int) < (n : Int) := by omega
      have hx := List.getElem?_eq_getElem (l := L) (i := i) (by have := HX.out.1; omega)
      have hlx := HX.out.2.1.one _ (List.mem_of_getElem? hx)
      obtain ⟨pv, bs, x0, x1, x2, hd⟩ := HX.out.2.2.2 i _ hx
      have hgl := HX.out.2.2.1
      generalize L[i]'_ = x at hx hlx x0 x1 x2 hd
      obtain ⟨a1, n1, c1, rfl, _⟩ := hd.rd.slice
      have HXI : Hid (L[i]? = some x) := hx
      obtain ⟨q, hq⟩ : ∃ q, q = 3 * i := ⟨_, rfl⟩
      have hiq : i * 3 = q := by omega
      rw [← hq] at x0 x1 x2
      rw [← HB.out.1.cell (p := ⟨g, q, none⟩) hgl] at x0
      rw [← HB.out.1.cell (p := ⟨g, q + 1, none⟩) hgl] at x1
      rw [← HB.out.1.cell (p := ⟨g, q + 2, none⟩) hgl] at x2
      have hm := HB.out.2
      rw [← hVl] at hm
      have HCALL : Hid (∀ w', Below wr.heap.size wr w' → Calls Try.prog 71 #[.agg #[.int .i64 x.b, .string x.d, .slice a1 n1 c1], .map (some w.heap.size)] w' fun e w2 => (∃ y ok, e = .returned (.tuple #[verV y, .bool ok]) ∧ (∀ v, mkV V x = some v → y = v ∧ ok = true) ∧ (mkV V x = none → ok = false ∨ (ok = true ∧ 6 < y.d ∧ y.d ≤ 7))) ∧ Below w'.heap.size w' w2) := fun w' hb' =>
        HM.out V x _ bs w.heap.size w' (vF_bd HV.out) hlx.1 hlx.2.1 hlx.2.2 ((hd.under HB.out.1).under hb') (hm.under hb')
      have HBX : Hid (Below wr.heap.size wr (wr.alloc (.cells #[.int .i64 x.b, .string x.d, .slice a1 n1 c1] 54))) := (Below.refl _ _).alloc (Nat.le_refl _) _
      have HVL := dhid hVl
      clear hx hlx hd hq hgl hm hVl
      go_wp2_with fail
      refine (HCALL.out _ HBX.out).mono ?_
      rintro e w3 ⟨⟨y, ok, rfl, hy1, hy2⟩, hb3⟩
      have HBr : Hid (Below wr.heap.size wr w3) := dhid (dblow HBX.out hb3 HBX.out.size)
      have HY : Hid ((∀ v, mkV V x = some v → y = v ∧ ok = true) ∧ (mkV V x = none → ok = false ∨ (ok = true ∧ 6 < y.d ∧ y.d ≤ 7))) := ⟨hy1, hy2⟩
      clear hb3 x0 x1 x2 HCALL HBX hy1 hy2
      obtain ⟨yt, yd⟩ := y
      unfold verV
      have HBV : Hid (Below wr.heap.size wr (w3.alloc (.cells #[.string yt, .int .i64 yd] 62))) := dhid (HBr.out.alloc HBr.out.size _)
      have HBW : Hid (Below w.heap.size w (w3.alloc (.cells #[.string yt, .int .i64 yd] 62))) := dhid (dblow HB.out.1 HBV.out HB.out.1.size)
      cases hmk : mkV V x with
      | none =>
        have HBAD : Hid (vAll L = none) := vAll_bad HV.out HXI.out hmk
        rcases HY.out.2 hmk with rfl | ⟨rfl, h6, h7⟩
        · clear HY hmk
          go_wp2_with fail
          go_ret2
          exact ⟨by rw [HBAD.out]; exact rfl, HBW.out⟩
        · simp only at h6
          clear HY hmk h7
          go_wp2_with fail
          go_ret2
          exact ⟨by rw [HBAD.out]; exact rfl, HBW.out⟩
      | some z =>
        obtain ⟨rfl, rfl⟩ := HY.out.1 z hmk
        have hbd := mkV_bd (vF_bd HV.out) hmk
        simp only at hbd
        have h6 : ¬ 6 < yd := by omega
        have HNX : Hid (vF L (i + 1) = some (V ++ [⟨yt, yd⟩])) := by
          show vF L (i + 1) = _
          rw [vF_succ HV.out HXI.out, hmk]; rfl
        have HMV : Hid (MapF (w3.alloc (.cells #[.string yt, .int .i64 yd] 62)) Try.prog 2 w.heap.size i (vMap V)) := HB.out.2.under HBV.out
        have HKEY : Hid (keyOf Try.prog 2 (.int .i64 (i : Int)) = some (.int .i64 (i : Int))) := Maps.keyOf_int_mk Try.underlying2 (WalkArith.wf_i64 (by omega))
        clear HY hmk hbd HB HBr HBV
        go_wp2_with (at_mapUpdate; refine wpList_storeF _ rfl _ _ _ 56 rfl 2 62 keyI Try.underlying56 w.heap.size i (vMap V) rfl HMV.out (by unfold maxLen; omega) _ _ _ rfl rfl HKEY.out ?_; intro w4 hm4 hgr; refine hold_goalF ?_)
        have HN4 : Hid (Below w.heap.size w w4 ∧ MapF w4 Try.prog 2 w.heap.size (i + 1) (vMap (V ++ [⟨yt, yd⟩]))) := by
          refine ⟨HBW.out.grown hgr HBW.out.size (fun j hj => by cases hj; exact Nat.le_refl _), ?_⟩
          rw [vMap_end HVL.out] at hm4
          exact hm4.congr fun kl _ => vMap_put HVL.out _ kl
        clear hm4 hgr HMV HBW
        unfold Hid
        go_wp2_with fail
        go_roundw
        case rel => exact ⟨i + 1, _, by omega, by go_num, HNX, HN4⟩
        case measure => simp [intN]; omega
    · obtain rfl : i = n := by omega
      have hA : vAll L = some V := vAll_good (by rw [← HX.out.1]; exact HV.out) (by rw [← HX.out.1]; exact hn)
      have HA := dhid hA
      have HVL := dhid hVl
      clear hA hVl
      go_wp2_with fail
      go_ret2
      refine ⟨?_, HB.out.1⟩
      rw [HA.out]
      have h2 := HB.out.2
      rw [← HVL.out] at h2
      exact ⟨rfl, h2⟩
end Go.Proofs.Ytpeddaljgmkomaa
