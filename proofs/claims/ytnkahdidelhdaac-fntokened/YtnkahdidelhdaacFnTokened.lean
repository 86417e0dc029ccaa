/-
  Tokens of a drawn text
-/
import Derived.Test.YtnkahdidelhdaacRows
import Derived.Test.YtnkahdidelhdaacUnTk
import Derived.Test.YtnkahdidelhdaacLonL
import Derived.Test.YtnkahdidelhdaacTkC
import Derived.Test.YtnkahdidelhdaacTkS
import Derived.Test.YtnkahdidelhdaacOff
import Derived.Test.YtnkahdidelhdaacBig
import Derived.BigQuiet
import Derived.WalkKit
import Derived.ProofKit
import Derived.OpenShut
import Derived.ShutString
import Derived.ChangeOld
import Derived.Below
namespace Go.Proofs.Ytnkahdidelhdaac.fnTokened
open Go.ChangeShapes Go.WideShapes Go.ChangeAt Go.RowKit
open Go.ChangeMaps (open_string shut_string)
set_option linter.unusedVariables false

theorem own : ownKnob Try.prog.godebug = none := by kernel_rfl
theorem laidOut : laidOutB Try.prog = true := by kernel_rfl

/-- WHAT THE WALK IS TOLD OF A SLICE OF INTEGERS THAT CAME IN: it is nil; or it leads to a row of 'cap' cells, the numbers 'zs' (the first 'len' are its elements, the rest its spare room), each fitting its kind. -/
def IsRow (k : IntKind) (w : World) (a : Option Addr) (len cap : Nat) (zs : List Int) : Prop :=
  (a = none ∧ len = 0 ∧ cap = 0 ∧ zs = []) ∨
  ∃ x, a = some x ∧ len ≤ cap ∧ cap ≤ maxLen ∧ zs.length = cap ∧ (∀ i, i < zs.length → w.cell? (x.add i) = some (.int k (zs.getD i 0))) ∧ ∀ n ∈ zs, (Lit.int k n).wf = true

set_option linter.unusedSimpArgs false
set_option maxRecDepth 100000 in
theorem drawTokens {w0 : World} {a : Option Addr} {len cap : Nat} {W : World} (hS : Src w0 a len) (hb : Below w0.heap.size w0 W) :
    Calls Try.prog 18 #[.slice a len cap] W fun e w' => (∃ (s : ByteArray), s.size ≤ 600 ∧ e = .returned (.string s)) ∧ Below w0.heap.size w0 w' := by
  go_enter Try.func18, Try.ntmps18
  go_wp2_with fail
  refine (open_any hb).mono ?_
  rintro e w1 ⟨rfl, hr, _⟩
  go_wp2_with fail
  refine (data_any hS hr 10 (by omega) (by omega)).mono ?_
  rintro e w2 ⟨⟨s, hs, rfl⟩, hr2⟩
  go_wp2_with fail
  go_ret
  exact ⟨⟨s, hs, rfl⟩, hr2.rd.below⟩

set_option maxRecDepth 100000 in
set_option maxHeartbeats 1000000 in
theorem walk (a0 : Option Addr) (len0 cap0 : Nat) (z0 : List Int) (w : World) (w0 : IsRow .u8 w a0 len0 cap0 z0) :
    Calls Try.prog 5 #[.slice a0 len0 cap0] w fun e w' => e = .returned (.bool true) ∧ Below w.heap.size w w' := by
  by_cases hbig : 1048576 < len0
  · go_enter Try.func5, Try.ntmps5
    go_wp2_with fail
    refine (big_yes a0 len0 cap0 _ hbig).mono ?_
    rintro e w1 ⟨rfl, rfl⟩
    go_wp2_with fail
    go_ret
    exact ⟨rfl, Below.refl _ _⟩
  · have hS := src_of w0 (by omega)
    clear w0
    go_enter Try.func5, Try.ntmps5
    go_wp2_with fail
    refine (big_no a0 len0 cap0 _ hbig).mono ?_
    rintro e w1 ⟨rfl, hw1⟩
    subst w1
    go_wp2_with fail
    refine (drawTokens hS (Below.refl _ _)).mono ?_
    rintro e w2 ⟨⟨s, hs, rfl⟩, hb2⟩
    clear hS
    go_wp2_with fail
    refine (tokens_any s _ (by omega)).mono ?_
    rintro e w3 ⟨⟨v1, rfl, ho1⟩, hb3⟩
    have HA3 : Hid (TkArg w3 v1 (tkL s).length (tkF s)) := own_arg ho1
    have HB3 : Hid (Below w.heap.size w w3) := bl_trans3 hb2 hb3 hb2.size
    obtain ⟨a1, c1, rfl, _⟩ := own_arg ho1
    clear ho1 hb3 hb2
    go_wp2_with fail
    refine (stokens_any s _ (by omega)).mono ?_
    rintro e w4 ⟨⟨v2, rfl, ho2⟩, hb4⟩
    have HA4 : Hid (TkArg w4 (.slice a1 (tkL s).length c1) (tkL s).length (tkF s)) := HA3.out.below hb4
    have HB4 : Hid (Below w.heap.size w w4) := bl_trans3 HB3.out hb4 HB3.out.size
    obtain ⟨a2, c2, rfl, _⟩ := own_arg ho2
    clear ho2 hb4 HA3 HB3
    have HSH : Hid _ := tkL_shape s
    have HUN : Hid (∀ w, TkArg w (.slice a1 (tkL s).length c1) (tkL s).length (tkF s) → Calls Try.prog 21 #[.slice a1 (tkL s).length c1] w fun e w' => e = .returned (.tuple #[.string s, .bool true]) ∧ Below w.heap.size w w') := fun w h => by
      have := un_any _ _ _ w h
      rwa [un_text s (by omega)] at this
    have HF : Hid (∀ j, j < (tkL s).length → tkF s j = tkI (tokAt s (atS s j))) := fun j hj => tkF_at hj
    have HL : Hid (∀ (a : Nat) (w : World), a < s.size → Calls Try.prog 23 #[.string s, .int .i64 (a : Int)] w fun e w' => e = .returned (lonV s a) ∧ Below w.heap.size w w') := fun a w ha => long_in s a w (by omega) ha
    generalize hn : (tkL s).length = n at *
    have hn6 : n ≤ 600 := by have := HSH.out.2.2; omega
    clear hn
    go_wp2_with fail
    refine (HUN.out _ HA4.out).mono ?_
    rintro e w5 ⟨rfl, hb5⟩
    have HA5 : Hid (TkArg w5 (.slice a1 n c1) n (tkF s)) := HA4.out.below hb5
    have HB5 : Hid (Below w.heap.size w w5) := bl_trans3 HB4.out hb5 HB4.out.size
    clear hb5 HA4 HB4 HUN
    have hn6I : (n : Int) ≤ 600 := by omega
    go_wp2_with fail
    go_loopw [10, 11] (fun v c wr => ∃ i : Nat, i ≤ n ∧ c = .int .i64 (i : Int) ∧ v = .int .i64 ((atS s i : Nat) : Int) ∧ Hid (Below w5.heap.size w5 wr)) (fun _ c _ => n - (lonIntOf c).toNat)
    case atStart => exact ⟨0, by omega, rfl, rfl, Below.refl _ _⟩
    case round =>
      obtain ⟨i, hi, rfl, rfl, HB⟩ := hrel
      by_cases hin : i < n
      · have hinI : (i : Int) < (n : Int) := by omega
        obtain ⟨q1, q2, q3⟩ := HSH.out.1 i hin
        obtain ⟨t1, _⟩ := tok_ok (by omega) q1
        obtain ⟨d, l, hL, hl66, hcase⟩ := tok_says q1
        obtain ⟨aa, cc, he, hr⟩ := HA5.out
        injection he with e1 e2 e3
        subst e1 e3
        obtain ⟨g, rfl, hrow⟩ := hr (by omega)
        have hr := hrow.below HB.out hrow.lt
        obtain ⟨q, hq⟩ : ∃ q, q = 4 * i := ⟨_, rfl⟩
        have x0 := hr.c0 i hin
        have x1 := hr.c1 i hin
        have x2 := hr.c2 i hin
        have x3 := hr.c3 i hin
        rw [← hq] at x0 x1 x2 x3
        have hiq : i * 4 = q := by omega
        rw [HF.out i hin] at x0 x1 x2 x3
        have HGL : Hid (g < wr.heap.size) := hr.lt
        have HLL : Hid (∀ w, Calls Try.prog 23 #[.string s, .int .i64 ((atS s i : Nat) : Int)] w fun e w' => e = .returned (.tuple #[.int .i64 (d : Int), .int .i64 (l : Int)]) ∧ Below w.heap.size w w') := fun w => by
          have h := HL.out (atS s i) w q1
          rwa [hL] at h
        have hp : atS s i < 600 := by omega
        have hwn0 := hp
        generalize tkI (tokAt s (atS s i)) = t at *
        generalize atS s i = p at *
        clear HF HSH HL
        rcases hcase with ⟨h3, ht, hst⟩ | ⟨h3, ⟨b, ht⟩, hst⟩
        · have HTY : Hid (∀ w, Calls Try.prog 22 #[.agg #[.int .i64 1, .int .i64 0, .int .i64 (d : Int), .int .i64 (l : Int)], .int .i64 (p : Int)] w fun e w' => e = .returned (.bool true) ∧ Below w.heap.size w w') := fun w => by
            rw [ht] at t1
            have h := tok_yes _ _ _ _ _ w t1
            unfold tokV at h
            exact h
          rw [ht] at x0 x1 x2 x3
          simp only at x0 x1 x2 x3
          have hwn : IntKind.i64.wrap ((p : Int) + (l : Int)) = ((p + l : Nat) : Int) := by rw [IntKind.wrap_i64]; omega
          rw [hst] at q3
          have Q3 : Hid (atS s (i + 1) = p + l) := q3
          have h3I : ¬ (l : Int) < 3 := by omega
          clear ht t1 q3 hst hL hrow hr hq q1 hwn0
          go_wp2_with fail
          refine (HTY.out _).mono ?_
          rintro e w6 ⟨rfl, hb6⟩
          have gl := HGL.out
          rw [← hb6.cell (p := ⟨g, q, none⟩) gl] at x0
          rw [← hb6.cell (p := ⟨g, q + 2, none⟩) gl] at x2
          rw [← hb6.cell (p := ⟨g, q + 3, none⟩) gl] at x3
          have HB6 : Hid (Below w5.heap.size w5 w6) := bl_trans3 HB.out hb6 HB.out.size
          have HGL6 : Hid (g < w6.heap.size) := Nat.lt_of_lt_of_le gl hb6.size
          clear x1 hb6 gl HGL HTY
          go_wp2_with fail
          refine (HLL.out _).mono ?_
          rintro e w7 ⟨rfl, hb7⟩
          have gl := HGL6.out
          rw [← hb7.cell (p := ⟨g, q, none⟩) gl] at x0
          rw [← hb7.cell (p := ⟨g, q + 2, none⟩) gl] at x2
          rw [← hb7.cell (p := ⟨g, q + 3, none⟩) gl] at x3
          have HB7 : Hid (Below w5.heap.size w5 w7) := bl_trans3 HB6.out hb7 HB6.out.size
          clear hb7 gl HGL6 HLL HB6
          go_wp2_with fail
          go_roundw
          case rel => exact ⟨i + 1, by omega, by go_num, by rw [Q3.out]; go_num, HB7.out⟩
          case measure => simp [lonIntOf]; omega
        · have HTY : Hid (∀ w, Calls Try.prog 22 #[.agg #[.int .i64 0, .int .i64 b, .int .i64 0, .int .i64 0], .int .i64 (p : Int)] w fun e w' => e = .returned (.bool true) ∧ Below w.heap.size w w') := fun w => by
            rw [ht] at t1
            have h := tok_yes _ _ _ _ _ w t1
            unfold tokV at h
            exact h
          rw [ht] at x0 x1 x2 x3
          simp only at x0 x1 x2 x3
          have hwn : IntKind.i64.wrap ((p : Int) + 1) = ((p + 1 : Nat) : Int) := by rw [IntKind.wrap_i64]; omega
          rw [hst] at q3
          have Q3 : Hid (atS s (i + 1) = p + 1) := q3
          have h3I : ¬ (3 : Int) ≤ (l : Int) := by omega
          clear ht t1 q3 hst hL hrow hr hq q1 hwn0
          go_wp2_with fail
          refine (HTY.out _).mono ?_
          rintro e w6 ⟨rfl, hb6⟩
          have gl := HGL.out
          rw [← hb6.cell (p := ⟨g, q, none⟩) gl] at x0
          rw [← hb6.cell (p := ⟨g, q + 2, none⟩) gl] at x2
          rw [← hb6.cell (p := ⟨g, q + 3, none⟩) gl] at x3
          have HB6 : Hid (Below w5.heap.size w5 w6) := bl_trans3 HB.out hb6 HB.out.size
          have HGL6 : Hid (g < w6.heap.size) := Nat.lt_of_lt_of_le gl hb6.size
          clear x1 hb6 gl HGL HTY
          go_wp2_with fail
          refine (HLL.out _).mono ?_
          rintro e w7 ⟨rfl, hb7⟩
          have gl := HGL6.out
          rw [← hb7.cell (p := ⟨g, q, none⟩) gl] at x0
          rw [← hb7.cell (p := ⟨g, q + 2, none⟩) gl] at x2
          rw [← hb7.cell (p := ⟨g, q + 3, none⟩) gl] at x3
          have HB7 : Hid (Below w5.heap.size w5 w7) := bl_trans3 HB6.out hb7 HB6.out.size
          clear hb7 gl HGL6 HLL HB6
          go_wp2_with fail
          go_roundw
          case rel => exact ⟨i + 1, by omega, by go_num, by rw [Q3.out]; go_num, HB7.out⟩
          case measure => simp [lonIntOf]; omega
      · obtain rfl : i = n := by omega
        have hfin : ((atS s i : Nat) : Int) = (s.size : Int) := by have := HSH.out.2.1; omega
        rw [hfin]
        have HBE : Hid (Below w.heap.size w wr) := bl_trans3 HB5.out HB.out HB5.out.size
        clear HB HB5 hfin HSH HF
        go_wp2_with fail
        go_ret
        exact ⟨rfl, HBE.out⟩

set_option maxRecDepth 100000 in
theorem lifted (os : Os) (started : os.Started) (H : Type) (enc : TypeId × Value → H) :
    ReturnsInHanded {} Try.checked os 5 .any (Rows.fnTokenedSpec.pre6 enc Try.prog Try.f5 Rows.fnTokenedRow.domain false) (Rows.fnTokenedSpec.post enc Try.prog Try.f5 false true false false) := by
  refine returnsInHanded_of_change (C := Try.checked) own started (by kernel_rfl) Try.func5
    (ChangeSpec.witness6 (enc := enc) (C := Try.checked) false ⟨#[], #[.slice none 0 0], []⟩ 8 (by kernel_rfl) (by kernel_rfl) (by kernel_rfl) (by kernel_rfl)) ?_
  intro W base args ds gs before hval0 hW hcnd _
  have hval : ∀ (j : Nat) t v, Try.f5.params[j]? = some t → args[j]? = some v → Value.okWide Try.prog W .any base t v := hval0
  have hW' := hW
  obtain ⟨p, q, hA0, hV, rfl, hfz, hnd⟩ := hW
  have hA : DataW.TrodAll enc Try.prog W 0 (fun _ => true) true Try.f5.params.toList args.toList ds p := hA0
  rw [Try.params5] at hA hval
  obtain ⟨v0, vs0, d0, ds0, p0, q0, hargs, rfl, rfl, h0, r0⟩ := trodAll_cons hA
  obtain ⟨rfl, rfl, rfl⟩ := trodAll_nil r0
  obtain rfl : args = #[v0] := by cases args; simp_all
  obtain ⟨rfl, rfl⟩ := trodVars_none hV
  obtain ⟨a0, len0, cap0, rfl⟩ := okWide_slice Try.underlying22 (hval 0 22 v0 rfl rfl)
  have k0 := h0
  have lt0 : ∀ x ∈ p0, x.block < W.heap.size := by obtain ⟨m, hm⟩ := k0; exact DataW.trod_lt m _ _ _ hm
  obtain ⟨z0, w0⟩ : ∃ zs, IsRow .u8 W a0 len0 cap0 zs := by
    obtain ⟨fuel, hf⟩ := h0
    rcases open_ints Try.underlying22 Try.underlying5 (by kernel_rfl) hf with ⟨hcs, _⟩ | ⟨x, l, c, zs, hcs, _, hl, hm, hz, _, hcell, hwz⟩
    · simp [Value.cells] at hcs
      obtain ⟨rfl, rfl, rfl⟩ := hcs
      exact ⟨[], .inl ⟨rfl, rfl, rfl, rfl⟩⟩
    · simp [Value.cells] at hcs
      obtain ⟨rfl, rfl, rfl⟩ := hcs
      exact ⟨zs, .inr ⟨_, rfl, hl, hm, by simpa using hz, hcell, hwz⟩⟩
  clear hA0 hval0
  refine (walk a0 len0 cap0 z0 W w0).mono fun e W' ⟨he, bel⟩ => ?_
  subst he
  exact ⟨_, rfl, _, _, _, [], _, [], hW', trodAll_mk1 (shut_bool Try.underlying4 _), (trodAll_cons_mk (Below.trod laidOut (by kernel_rfl) (of_decide_eq_true (by kernel_rfl)) k0 bel lt0) trodAll_mk0), rfl, bel.frame _, fun h => by cases h⟩

theorem over : Rows.fnTokenedRow.holds Try.pinned (OpenSpec.ofChange Rows.fnTokenedSpec) :=
  OpenClaim.holds_of_wide 5 Try.f5 rfl rfl rfl rfl rfl rfl rfl ⟨rfl, rfl, rfl, rfl, rfl⟩ rfl rfl rfl rfl rfl (by kernel_rfl) Try.func5 (by kernel_rfl)
    (of_decide_eq_true (by kernel_rfl)) (by unfold Func.isWrapper; first | (rw [if_pos (by decide +kernel)]; kernel_rfl) | (rw [if_neg (by decide +kernel)]; exact ⟨rfl, rfl⟩))
    (fun os started H enc _ => lifted os started H enc)

theorem proved : Rows.FnTokenedSaid := over
#print axioms proved
end Go.Proofs.Ytnkahdidelhdaac.fnTokened
