/-
  Untoken of the code answers as the model does: at every list of tokens.
-/
import Derived.Test.YtnkahdidelhdaanRows
import Derived.Test.YtnkahdidelhdaanUnEq
import Derived.WalkKit
import Derived.ProofKit
import Derived.OpenShut
import Derived.ShutString
import Derived.ChangeOld
import Derived.Below
import Derived.Lib.SmallJoins
import Derived.Deep.Slices
namespace Go.Proofs.Ytnkahdidelhdaan.fnExactUntoken
open Go.ChangeShapes Go.WideShapes Go.ChangeAt Go.RowKit
open Go.ChangeMaps (open_string shut_string)
open Go.Deep
set_option linter.unusedVariables false

theorem own : ownKnob Try.prog.godebug = none := by kernel_rfl
theorem laidOut : laidOutB Try.prog = true := by kernel_rfl
theorem neq_same (o : Option (List Nat)) : ∃ s b, unAns o = .tuple #[.string s, .bool b] := by
  cases o with
  | none => exact ⟨_, _, rfl⟩
  | some o => exact ⟨_, _, rfl⟩
set_option maxRecDepth 100000 in
set_option maxHeartbeats 2000000 in
theorem walk (v : Value) (n : Nat) (F : Nat → TkI) (w : World) (hm : n ≤ maxLen) (hv : TkIn w v n F) :
    Calls Try.prog 4 #[v] w fun e w' => e = .returned (.bool true) ∧ Below w.heap.size w w' := by
  obtain ⟨a, c, rfl, _⟩ := hv.form
  by_cases hn : n ≤ 1048576
  · have HZ : Hid (∀ w, Calls Try.prog 11 #[.slice a n c, .int .i64 1048576] w fun e w' => e = .returned (.int .i64 ((1048576 - n : Nat) : Int)) ∧ w' = w) := fun w => szTk_yes a n c w hn
    have hl : ¬ ((1048576 - n : Nat) : Int) < 0 := by omega
    have HT : Hid (∀ w, TkIn w (.slice a n c) n F → Calls Try.prog 13 #[.slice a n c] w fun e w' => (∃ v', e = .returned v' ∧ TkArg w' v' n F) ∧ Below w.heap.size w w') := fun w h => toTk_any _ n F w hn h
    obtain ⟨s, b, hs⟩ := neq_same (unOf F n)
    have HU : Hid (∀ v w, TkArg w v n F → Calls Try.prog 14 #[v] w fun e w' => e = .returned (.tuple #[.string s, .bool b]) ∧ Below w.heap.size w w') := fun v w h => by rw [← hs]; exact un_any v n F w h
    have HS : Hid (∀ v w, TkArg w v n F → Calls Try.prog 12 #[v] w fun e w' => e = .returned (.tuple #[.string s, .bool b]) ∧ Below w.heap.size w w') := fun v w h => by rw [← hs]; exact sun_any v n F w h
    have HE : Hid (∀ v1 v2 w, TkArg w v1 n F → TkArg w v2 n F → Calls Try.prog 8 #[v1, v2] w fun e w' => e = .returned (.bool true) ∧ Below w.heap.size w w') := fun v1 v2 w h1 h2 => eqTk_any v1 v2 n F w hn h1 h2
    have HV : Hid (TkIn w (.slice a n c) n F) := hv
    clear hv hs hn hm
    go_enter Try.func4, Try.ntmps4
    go_wp2_with fail
    refine (HZ.out _).mono ?_
    rintro e w1 ⟨rfl, rfl⟩
    go_wp2_with fail
    refine (HT.out _ HV.out).mono ?_
    rintro e w2 ⟨⟨v1, rfl, h1⟩, hb2⟩
    have HV2 : Hid (TkIn w2 (.slice a n c) n F) := HV.out.below hb2
    go_wp2_with fail
    refine (HS.out _ _ h1).mono ?_
    rintro e w3 ⟨rfl, hb3⟩
    have HV3 : Hid (TkIn w3 (.slice a n c) n F) := HV2.out.below hb3
    replace hb3 := bl_trans3 hb2 hb3 hb2.size
    clear hb2 HV2 h1
    go_wp2_with fail
    refine (HT.out _ HV3.out).mono ?_
    rintro e w4 ⟨⟨v2, rfl, h2⟩, hb4⟩
    have HV4 : Hid (TkIn w4 (.slice a n c) n F) := HV3.out.below hb4
    replace hb4 := bl_trans3 hb3 hb4 hb3.size
    clear hb3 HV3
    go_wp2_with fail
    refine (HU.out _ _ h2).mono ?_
    rintro e w5 ⟨rfl, hb5⟩
    have HV5 : Hid (TkIn w5 (.slice a n c) n F) := HV4.out.below hb5
    replace h2 := h2.below hb5
    replace hb5 := bl_trans3 hb4 hb5 hb4.size
    clear hb4 HV4
    cases b with
    | true =>
      go_wp2_with fail
      refine (HT.out _ HV5.out).mono ?_
      rintro e w6 ⟨⟨v3, rfl, h3⟩, hb6⟩
      replace h2 := h2.below hb6
      replace hb6 := bl_trans3 hb5 hb6 hb5.size
      clear hb5
      go_wp2_with fail
      refine (HE.out _ _ _ h2 h3).mono ?_
      rintro e w7 ⟨rfl, hb7⟩
      replace hb7 := bl_trans3 hb6 hb7 hb6.size
      go_wp2_with fail
      go_ret
      exact ⟨rfl, hb7⟩
    | false =>
      go_wp2_with fail
      refine (HT.out _ HV5.out).mono ?_
      rintro e w6 ⟨⟨v3, rfl, h3⟩, hb6⟩
      replace h2 := h2.below hb6
      replace hb6 := bl_trans3 hb5 hb6 hb5.size
      clear hb5
      go_wp2_with fail
      refine (HE.out _ _ _ h2 h3).mono ?_
      rintro e w7 ⟨rfl, hb7⟩
      replace hb7 := bl_trans3 hb6 hb7 hb6.size
      go_wp2_with fail
      go_ret
      exact ⟨rfl, hb7⟩
  · have HZ : Hid (∀ w, Calls Try.prog 11 #[.slice a n c, .int .i64 1048576] w fun e w' => e = .returned (.int .i64 (-1)) ∧ w' = w) := fun w => szTk_no a n c w (by omega) hm
    clear hv
    go_enter Try.func4, Try.ntmps4
    go_wp2_with fail
    refine (HZ.out _).mono ?_
    rintro e w1 ⟨rfl, rfl⟩
    go_wp2_with fail
    go_ret
    exact ⟨rfl, Below.refl _ _⟩
theorem list4x {α : Type} {cs : List α} (h : cs.length = 4) : ∃ c0 c1 c2 c3, cs = [c0, c1, c2, c3] := by
  match cs, h with
  | [c0, c1, c2, c3], _ => exact ⟨c0, c1, c2, c3, rfl⟩
theorem cell_lt {w : World} {a : Addr} {v : Value} (h : w.cell? a = some v) : a.block < w.heap.size ∧ a.spot = none := by
  unfold World.cell? at h
  split at h
  · rename_i c _ _ he
    refine ⟨(Array.getElem?_eq_some_iff.1 he).1, ?_⟩
    cases hs : a.spot with
    | none => rfl
    | some x => rw [hs] at h; simp at h
  · cases h
theorem read_one {H : Type} {enc : TypeId × Value → H} {W : World} {fuel : Nat} {cs : List Value} {x : DataW H × List MemPlace} (hl : cs.length = 4) (h : DataW.trod enc Try.prog W 0 (fun _ => true) true fuel 47 cs = some x) :
    ∃ t : TkI, cs = [.int .i64 t.k, .int .i64 t.b, .int .i64 t.d, .int .i64 t.l] := by
  obtain ⟨c0, c1, c2, c3, rfl⟩ := list4x hl
  obtain ⟨y0, y1, y2, y3, n, _, _, t0, t1, t2, t3⟩ := Go.Joins.trod_struct4 Try.underlying47 h
  have cI : Try.prog.cellsOf 2 = 1 := by kernel_rfl
  obtain ⟨k, e0, _⟩ := DataW.trod_int Try.underlying2 t0
  obtain ⟨b, e1, _⟩ := DataW.trod_int Try.underlying2 t1
  obtain ⟨dd, e2, _⟩ := DataW.trod_int Try.underlying2 t2
  obtain ⟨l, e3, _⟩ := DataW.trod_int Try.underlying2 t3
  rw [cI] at e0 e1 e2 e3
  simp at e0 e1 e2 e3
  exact ⟨⟨k, b, dd, l⟩, by rw [e0, e1, e2, e3]⟩
theorem read_in {H : Type} {enc : TypeId × Value → H} {W : World} {v : Value} {d : DataW H} {ps : List MemPlace} (h0 : DataW.Trod enc Try.prog W 0 (fun _ => true) true 28 v d ps) (ho : Value.okWide Try.prog W .any 0 28 v) :
    ∃ n F, n ≤ maxLen ∧ TkIn W v n F := by
  obtain ⟨a, n, c, rfl⟩ := okWide_slice Try.underlying28 ho
  obtain ⟨fuel, hf⟩ := h0
  have hf' : DataW.trod enc Try.prog W 0 (fun _ => true) true fuel 28 [.slice a n c] = some (d, ps) := by simpa [Value.cells] using hf
  rcases open_slice Try.underlying28 hf' with ⟨h, _⟩ | ⟨a', len, cap, m, nn, D, Pl, hcs, _, hlc, hcm, hmm, _, hx⟩
  · injection h with h _
    injection h with h1 h2 h3
    subst h1 h2 h3
    exact ⟨0, fun _ => ⟨0, 0, 0, 0⟩, Nat.zero_le _, ⟨_, _, rfl, fun h => absurd h (by omega)⟩⟩
  · injection hcs with hcs _
    injection hcs with h1 h2 h3
    subst h1 h2 h3
    have c4 : Try.prog.cellsOf 47 = 4 := by kernel_rfl
    have hnm : n ≤ m := by rw [hmm]; split <;> omega
    have each : ∀ i, i < n → ∃ t : TkI, W.cell? (a'.add (i * 4)) = some (.int .i64 t.k) ∧ W.cell? (a'.add (i * 4 + 1)) = some (.int .i64 t.b) ∧ W.cell? (a'.add (i * 4 + 2)) = some (.int .i64 t.d) ∧ W.cell? (a'.add (i * 4 + 3)) = some (.int .i64 t.l) := by
      intro i hi
      obtain ⟨cs', h1, h2⟩ := hx i (by omega)
      rw [c4] at h1
      obtain ⟨_, hlen, hcell⟩ := World.cells?_some h1
      obtain ⟨t, rfl⟩ := read_one hlen h2
      have e0 := hcell 0 (by omega)
      have e1 := hcell 1 (by omega)
      have e2 := hcell 2 (by omega)
      have e3 := hcell 3 (by omega)
      rw [add_add] at e0 e1 e2 e3
      exact ⟨t, e0, e1, e2, e3⟩
    obtain ⟨F, hF⟩ : ∃ F : Nat → TkI, ∀ i, i < n → W.cell? (a'.add (i * 4)) = some (.int .i64 (F i).k) ∧ W.cell? (a'.add (i * 4 + 1)) = some (.int .i64 (F i).b) ∧ W.cell? (a'.add (i * 4 + 2)) = some (.int .i64 (F i).d) ∧ W.cell? (a'.add (i * 4 + 3)) = some (.int .i64 (F i).l) :=
      ⟨fun i => if h : i < n then Classical.choose (each i h) else ⟨0, 0, 0, 0⟩, fun i hi => by
        have := Classical.choose_spec (each i hi)
        simp only [dif_pos hi]
        exact this⟩
    refine ⟨n, F, Nat.le_trans hlc hcm, ⟨_, _, rfl, fun h0 => ?_⟩⟩
    obtain ⟨t0, hc0, _⟩ := each 0 h0
    have ha0 : a'.add (0 * 4) = a' := by simp [Addr.add]
    rw [ha0] at hc0
    obtain ⟨g, off, spot⟩ := a'
    obtain ⟨hlt, hsp⟩ := cell_lt hc0
    have hsp : spot = none := hsp
    subst hsp
    refine ⟨g, off, rfl, hlt, fun i hi => ?_⟩
    have := hF i hi
    simp only [add_plain, ← Nat.add_assoc] at this
    exact this
set_option maxRecDepth 100000 in
theorem lifted (os : Os) (started : os.Started) (H : Type) (enc : TypeId × Value → H) :
    ReturnsInHanded {} Try.checked os 4 .any (Rows.fnExactUntokenSpec.pre6 enc Try.prog Try.f4 Rows.fnExactUntokenRow.domain false) (Rows.fnExactUntokenSpec.post enc Try.prog Try.f4 false true false false) := by
  refine returnsInHanded_of_change (C := Try.checked) own started (by kernel_rfl) Try.func4
    (ChangeSpec.witness6 (enc := enc) (C := Try.checked) false ⟨#[], #[.slice none 0 0], []⟩ 8 (by kernel_rfl) (by kernel_rfl) (by kernel_rfl) (by kernel_rfl)) ?_
  intro W base args ds gs before hval0 hW hcnd _
  have hval : ∀ (j : Nat) t v, Try.f4.params[j]? = some t → args[j]? = some v → Value.okWide Try.prog W .any base t v := hval0
  have hW' := hW
  obtain ⟨p, q, hA0, hV, rfl, hfz, hnd⟩ := hW
  have hA : DataW.TrodAll enc Try.prog W 0 (fun _ => true) true Try.f4.params.toList args.toList ds p := hA0
  rw [Try.params4] at hA hval
  obtain ⟨v0, vs0, d0, ds0, p0, q0, hargs, rfl, rfl, h0, r0⟩ := trodAll_cons hA
  obtain ⟨rfl, rfl, rfl⟩ := trodAll_nil r0
  obtain rfl : args = #[v0] := by cases args; simp_all
  obtain ⟨rfl, rfl⟩ := trodVars_none hV
  obtain ⟨n, F, hm, hin⟩ := read_in h0 (Value.okWide_any_base (hval 0 _ v0 rfl rfl))
  have k0 := h0
  have lt0 : ∀ x ∈ p0, x.block < W.heap.size := by obtain ⟨m, hm⟩ := k0; exact DataW.trod_lt m _ _ _ hm
  clear hA0 hval0
  refine (walk v0 n F W hm hin).mono fun e W' ⟨he, bel⟩ => ?_
  subst he
  exact ⟨_, rfl, _, _, _, [], _, [], hW', trodAll_mk1 (shut_bool Try.underlying4 _), (trodAll_cons_mk (Below.trod laidOut (by kernel_rfl) (of_decide_eq_true (by kernel_rfl)) k0 bel lt0) trodAll_mk0), rfl, bel.frame _, fun h => by cases h⟩

theorem over : Rows.fnExactUntokenRow.holds Try.pinned (OpenSpec.ofChange Rows.fnExactUntokenSpec) :=
  OpenClaim.holds_of_wide 4 Try.f4 rfl rfl rfl rfl rfl rfl rfl ⟨rfl, rfl, rfl, rfl, rfl⟩ rfl rfl rfl rfl rfl (by kernel_rfl) Try.func4 (by kernel_rfl)
    (of_decide_eq_true (by kernel_rfl)) (by unfold Func.isWrapper; first | (rw [if_pos (by decide +kernel)]; kernel_rfl) | (rw [if_neg (by decide +kernel)]; exact ⟨rfl, rfl⟩))
    (fun os started H enc _ => lifted os started H enc)
theorem proved : Rows.FnExactUntokenSaid :=
  over
#print axioms proved
end Go.Proofs.Ytnkahdidelhdaan.fnExactUntoken
