/-
  Untoken of drawn tokens
-/
import Derived.Test.YtnkahdidelhdaacRows
import Derived.Test.YtnkahdidelhdaacUnApp
import Derived.Test.YtnkahdidelhdaacUnD2
import Derived.Test.YtnkahdidelhdaacUnS
import Derived.Test.YtnkahdidelhdaacTkC
import Derived.Test.YtnkahdidelhdaacOff
import Derived.Test.YtnkahdidelhdaacBig
import Derived.BigQuiet
import Derived.WalkKit
import Derived.ProofKit
import Derived.OpenShut
import Derived.ShutString
import Derived.ChangeOld
import Derived.Below
namespace Go.Proofs.Ytnkahdidelhdaac.fnUntokened
open Go.ChangeShapes Go.WideShapes Go.ChangeAt Go.RowKit
open Go.ChangeMaps (open_string shut_string)
set_option linter.unusedVariables false

theorem own : ownKnob Try.prog.godebug = none := by kernel_rfl
theorem laidOut : laidOutB Try.prog = true := by kernel_rfl

/-- WHAT THE WALK IS TOLD OF A SLICE OF INTEGERS THAT CAME IN: it is nil; or it leads to a row of 'cap' cells, the numbers 'zs' (the first 'len' are its elements, the rest its spare room), each fitting its kind. -/
def IsRow (k : IntKind) (w : World) (a : Option Addr) (len cap : Nat) (zs : List Int) : Prop :=
  (a = none ∧ len = 0 ∧ cap = 0 ∧ zs = []) ∨
  ∃ x, a = some x ∧ len ≤ cap ∧ cap ≤ maxLen ∧ zs.length = cap ∧ (∀ i, i < zs.length → w.cell? (x.add i) = some (.int k (zs.getD i 0))) ∧ ∀ n ∈ zs, (Lit.int k n).wf = true

set_option linter.unusedSimpArgs false
set_option maxRecDepth 100000 in
theorem drawChoices {w0 : World} {a : Option Addr} {len cap : Nat} {W : World} (hS : Src w0 a len) (hb : Below w0.heap.size w0 W) :
    Calls Try.prog 28 #[.slice a len cap] W fun e w' => (∃ (s : ByteArray), s.size ≤ 600 ∧ e = .returned (.string s)) ∧ Below w0.heap.size w0 w' ∧ Below W.heap.size W w' := by
  go_enter Try.func28, Try.ntmps28
  go_wp2_with fail
  refine (open_any hb).mono ?_
  rintro e w1 ⟨rfl, hr, hg1⟩
  go_wp2_with fail
  refine (data_any hS hr 8 (by omega) (by omega)).mono ?_
  rintro e w2 ⟨⟨s, hs, rfl⟩, hr2⟩
  go_wp2_with fail
  go_ret
  exact ⟨⟨s, hs, rfl⟩, hr2.rd.below, ⟨hr2.grown.os.trans hg1.os, hr2.grown.tape.trans hg1.tape, hr2.grown.output.trans hg1.output, Nat.le_trans hg1.size hr2.grown.size, fun k hk => (hr2.grown.block k (Nat.lt_of_lt_of_le hk hg1.size) (by intro c; injection c with c; omega)).trans (hg1.block k hk (by intro c; cases c))⟩⟩
theorem strL_size (o : List Nat) : (strL o).size = o.length := by
  show (o.map UInt8.ofNat).toArray.size = _; simp

set_option maxRecDepth 100000 in
set_option maxHeartbeats 1000000 in
theorem walk (a0 : Option Addr) (len0 cap0 : Nat) (z0 : List Int) (w : World) (w0 : IsRow .u8 w a0 len0 cap0 z0) :
    Calls Try.prog 7 #[.slice a0 len0 cap0] w fun e w' => e = .returned (.bool true) ∧ Below w.heap.size w w' := by
  by_cases hbig : 1048576 < len0
  · go_enter Try.func7, Try.ntmps7
    go_wp2_with fail
    refine (big_yes a0 len0 cap0 _ hbig).mono ?_
    rintro e w1 ⟨rfl, rfl⟩
    go_wp2_with fail
    go_ret
    exact ⟨rfl, Below.refl _ _⟩
  · have hS := src_of w0 (by omega)
    clear w0
    obtain ⟨i0, hi, hz0, hz1, hz2⟩ := info_parts Try.infT
    go_enter Try.func7, Try.ntmps7
    go_wp2_with fail
    refine (big_no a0 len0 cap0 _ hbig).mono ?_
    rintro e w1 ⟨rfl, hw1⟩
    subst w1
    go_wp2_with fail
    refine (drawUntoken hS (Below.refl _ _)).mono ?_
    rintro e w2 ⟨⟨v, L, hL, rfl, ho⟩, hb2⟩
    obtain ⟨a1, c1, rfl, _⟩ := own_argQ ho
    have hI := fun W h => un_any (.slice a1 L.length c1) L.length (fun i => L.getD i ⟨0, 0, 0, 0⟩) W h
    have hSp := fun W h => sun_any (.slice a1 L.length c1) L.length (fun i => L.getD i ⟨0, 0, 0, 0⟩) W h
    have hUO : unOf (fun i => L.getD i ⟨0, 0, 0, 0⟩) L.length = unPre (fun i => L.getD i ⟨0, 0, 0, 0⟩) L.length := by unfold unOf; rw [if_pos (by omega)]
    rw [hUO] at hI hSp
    cases hP : unPre (fun i => L.getD i ⟨0, 0, 0, 0⟩) L.length with
    | none =>
      rw [hP] at hI hSp
      have HI : Hid (∀ W, TkArg W (.slice a1 L.length c1) L.length (fun i => L.getD i ⟨0, 0, 0, 0⟩) → Calls Try.prog 21 #[.slice a1 L.length c1] W fun e w' => e = .returned (.tuple #[.string ⟨#[]⟩, .bool false]) ∧ Below W.heap.size W w') := hI
      have HS2 : Hid (∀ W, TkArg W (.slice a1 L.length c1) L.length (fun i => L.getD i ⟨0, 0, 0, 0⟩) → Calls Try.prog 27 #[.slice a1 L.length c1] W fun e w' => e = .returned (.tuple #[.string ⟨#[]⟩, .bool false]) ∧ Below W.heap.size W w') := hSp
      clear hI hSp hUO hP
      have HA : Hid (TkArg w2 (.slice a1 L.length c1) L.length (fun i => L.getD i ⟨0, 0, 0, 0⟩)) := own_argQ ho
      clear ho
      go_wp2_with fail
      refine (HI.out _ HA.out).mono ?_
      rintro e w3 ⟨rfl, hb3⟩
      have HA3 : Hid (TkArg w3 (.slice a1 L.length c1) L.length (fun i => L.getD i ⟨0, 0, 0, 0⟩)) := HA.out.below hb3
      have HB3 : Hid (Below w.heap.size w w3) := bl_trans3 hb2 hb3 hb2.size
      clear hb2 hb3 HA
      go_wp2_with fail
      refine (HS2.out _ HA3.out).mono ?_
      rintro e w4 ⟨rfl, hb4⟩
      have HB4 : Hid (Below w.heap.size w w4) := bl_trans3 HB3.out hb4 HB3.out.size
      clear hb4 HA3 HB3
      go_wp2_with fail
      go_ret
      exact ⟨rfl, HB4.out⟩
    | some o =>
      have hlo := (unPre_bytes hP).2
      rw [hP] at hI hSp
      have HI : Hid (∀ W, TkArg W (.slice a1 L.length c1) L.length (fun i => L.getD i ⟨0, 0, 0, 0⟩) → Calls Try.prog 21 #[.slice a1 L.length c1] W fun e w' => e = .returned (.tuple #[.string (strL o), .bool true]) ∧ Below W.heap.size W w') := hI
      have HS2 : Hid (∀ W, TkArg W (.slice a1 L.length c1) L.length (fun i => L.getD i ⟨0, 0, 0, 0⟩) → Calls Try.prog 27 #[.slice a1 L.length c1] W fun e w' => e = .returned (.tuple #[.string (strL o), .bool true]) ∧ Below W.heap.size W w') := hSp
      have HBO : Hid (∀ s : ByteArray, s.size ≤ 600 → o.length + s.size ≤ 4000 → unAns (unOf (fun i => (L ++ (tkL s).map tkI).getD i ⟨0, 0, 0, 0⟩) (L ++ (tkL s).map tkI).length) = .tuple #[.string (strL o ++ s), .bool true]) := fun s h1 h2 => un_both hL h1 hP h2
      have hoz := strL_size o
      clear hI hSp hUO hP
      generalize strL o = x at *
      generalize o.length = y at *
      obtain rfl : x.size = y := hoz
      have HO : Hid (w2.ownsRow w.heap.size TTok 4 (.slice a1 L.length c1) L.length (tkQ L)) := ho
      clear ho
      go_wp2_with fail
      refine (HI.out _ (own_argQ HO.out)).mono ?_
      rintro e w3 ⟨rfl, hb3⟩
      have HO3 : Hid (w3.ownsRow w.heap.size TTok 4 (.slice a1 L.length c1) L.length (tkQ L)) := owns_call4 HO.out hb3
      have HB3 : Hid (Below w.heap.size w w3) := bl_trans3 hb2 hb3 hb2.size
      clear hb2 hb3 HO
      go_wp2_with fail
      refine (HS2.out _ (own_argQ HO3.out)).mono ?_
      rintro e w4 ⟨rfl, hb4⟩
      have HO4 : Hid (w4.ownsRow w.heap.size TTok 4 (.slice a1 L.length c1) L.length (tkQ L)) := owns_call4 HO3.out hb4
      have HB4 : Hid (Below w.heap.size w w4) := bl_trans3 HB3.out hb4 HB3.out.size
      clear hb4 HO3 HB3 HI HS2
      go_wp2_with fail
      refine (drawChoices hS HB4.out).mono ?_
      rintro e w5 ⟨⟨s, hs, rfl⟩, hb5, hb45⟩
      have HO5 : Hid (w5.ownsRow w.heap.size TTok 4 (.slice a1 L.length c1) L.length (tkQ L)) := owns_call4 HO4.out hb45
      have HB5 : Hid (Below w.heap.size w w5) := hb5
      clear hb5 hb45 HO4 HB4 hS
      go_wp2_with fail
      refine (tokens_any s _ (by omega)).mono ?_
      rintro e w6 ⟨⟨v2, rfl, ho2⟩, hb6⟩
      have HO6 : Hid (w6.ownsRow w.heap.size TTok 4 (.slice a1 L.length c1) L.length (tkQ L)) := owns_call4 HO5.out hb6
      have HB6 : Hid (Below w.heap.size w w6) := bl_trans3 HB5.out hb6 HB5.out.size
      have hMl : ((tkL s).map tkI).length = (tkL s).length := by simp
      have hM6 : ((tkL s).map tkI).length ≤ 600 := by have := (tkL_shape s).2.2; simp; omega
      rw [← hMl, ← tkQ_tkC] at ho2
      have ho2' := owns_base ho2 HB5.out.size
      have HBX : Hid (x.size + s.size ≤ 4000 → unAns (unOf (fun i => (L ++ (tkL s).map tkI).getD i ⟨0, 0, 0, 0⟩) (L ++ (tkL s).map tkI).length) = .tuple #[.string (x ++ s), .bool true]) := fun h => HBO.out s hs h
      clear hb6 HO5 HB5 hMl ho2 HBO
      generalize (tkL s).map tkI = M at ho2' HBX hM6
      obtain ⟨a2, c2, rfl, _⟩ := own_argQ ho2'
      have HM6 : Hid (w6.ownsRow w.heap.size TTok 4 (.slice a2 M.length c2) M.length (tkQ M)) := ho2'
      clear ho2'
      have hwz : IntKind.i64.wrap ((x.size : Int) + (s.size : Int)) = (x.size : Int) + (s.size : Int) := by rw [IntKind.wrap_i64]; omega
      have hwm : IntKind.i64.wrap ((L.length : Int) + (M.length : Int)) = (L.length : Int) + (M.length : Int) := by rw [IntKind.wrap_i64]; omega
      have hml : ¬ (4000 : Int) < (L.length : Int) + (M.length : Int) := by omega
      have hml' : decide ((4000 : Int) < (L.length : Int) + (M.length : Int)) = false := decide_eq_false hml
      by_cases hsum : x.size + s.size ≤ 4000
      · have hz : ¬ (4000 : Int) < (x.size : Int) + (s.size : Int) := by omega
        have hz' : decide ((4000 : Int) < (x.size : Int) + (s.size : Int)) = false := decide_eq_false hz
        have HUN := HBX.out hsum
        have HUN : Hid (unAns (unOf (fun i => (L ++ M).getD i ⟨0, 0, 0, 0⟩) (L ++ M).length) = .tuple #[.string (x ++ s), .bool true]) := HUN
        have HO7 : Hid ((w6.alloc (.cells #[] TTok)).ownsRow w.heap.size TTok 4 (.slice (some ⟨w6.heap.size, 0, none⟩) 0 0) ([] : List TkI).length (tkQ [])) := World.ownsRow_made w6 #[] 0 HB6.out.size (by unfold maxLen; omega) rfl
        have HL7 : Hid ((w6.alloc (.cells #[] TTok)).ownsRow w.heap.size TTok 4 (.slice a1 L.length c1) L.length (tkQ L)) := HO6.out.alloc _
        have HT7 : Hid (TSrc (w6.alloc (.cells #[] TTok)) (.slice a1 L.length c1) L) := own_src HL7.out
        have HM7 : Hid ((w6.alloc (.cells #[] TTok)).ownsRow w.heap.size TTok 4 (.slice a2 M.length c2) M.length (tkQ M)) := HM6.out.alloc _
        have HB7 : Hid (Below w.heap.size w (w6.alloc (.cells #[] TTok))) := HB6.out.alloc HB6.out.size _
        have HM6L : Hid (∀ k, (Value.slice a2 M.length c2).ownBlock = some k → k < w6.heap.size) := fun k hk => (HM6.out.lt k hk).2
        clear HBX HO6 HM6 HB6
        go_wp2_with (at_builtin; (refine append_toks rfl _ _ 38 rfl w.heap.size i0 _ 32 Try.underlying38 hi hz0 hz1 hz2 rfl (.slice (some ⟨w6.heap.size, 0, none⟩) 0 0) [] L rfl HO7.out HT7.out ?c3 ?c4 ?c5 ?_))
        case c3 => show 0 + L.length ≤ _; unfold maxLen; omega
        case c4 => show (0 + L.length) * 32 ≤ _; omega
        case c5 => exact HB7.out.size
        intro v8 w8 ho8 hg8
        have HO8 : Hid (w8.ownsRow w.heap.size TTok 4 v8 L.length (tkQ L)) := by
          first
            | exact ho8
            | simpa using ho8
        have HM8 : Hid (w8.ownsRow w.heap.size TTok 4 (.slice a2 M.length c2) M.length (tkQ M)) := own_keep HM7.out (fun k hk => hg8.block k (HM7.out.lt k hk).2 (by
          intro c
          have c : some k = some w6.heap.size := c
          injection c with c
          have := HM6L.out k hk
          omega))
        have HT8 : Hid (TSrc w8 (.slice a2 M.length c2) M) := own_src HM8.out
        have HB8 : Hid (Below w.heap.size w w8) := HB7.out.grown hg8 HB7.out.size (fun k hk => (HO7.out.lt k hk).1)
        clear ho8 hg8 HO7 HL7 HT7 HM7 HM6L HB7
        go_wp2_with (at_builtin; (refine append_toks rfl _ _ 38 rfl w.heap.size i0 _ 32 Try.underlying38 hi hz0 hz1 hz2 rfl v8 L M rfl HO8.out HT8.out ?c3 ?c4 ?c5 ?_))
        case c3 => unfold maxLen; omega
        case c4 => omega
        case c5 => exact HB8.out.size
        intro v9 w9 ho9 hg9
        have HO9 : Hid (w9.ownsRow w.heap.size TTok 4 v9 (L ++ M).length (tkQ (L ++ M))) := by
          first
            | exact ho9
            | (rw [List.length_append]; exact ho9)
            | simpa using ho9
        have HB9 : Hid (Below w.heap.size w w9) := HB8.out.grown hg9 HB8.out.size (fun k hk => (HO8.out.lt k hk).1)
        clear ho9 hg9 HO8 HM8 HT8 HB8
        have hU := un_any v9 _ _ w9 (own_argQ HO9.out)
        rw [HUN.out] at hU
        have HU9 : Hid (Calls Try.prog 21 #[v9] w9 fun e w' => e = .returned (.tuple #[.string (x ++ s), .bool true]) ∧ Below w9.heap.size w9 w') := hU
        clear hU HUN
        go_wp2_with fail
        refine HU9.out.mono ?_
        rintro e w10 ⟨rfl, hb10⟩
        have HB10 : Hid (Below w.heap.size w w10) := bl_trans3 HB9.out hb10 HB9.out.size
        clear hb10 HU9 HB9
        go_wp2_with fail
        go_ret
        exact ⟨rfl, HB10.out⟩
      · have hz : (4000 : Int) < (x.size : Int) + (s.size : Int) := by omega
        have hz' : decide ((4000 : Int) < (x.size : Int) + (s.size : Int)) = true := decide_eq_true hz
        clear HBX HO6 HM6
        go_wp2_with fail
        go_ret
        exact ⟨rfl, HB6.out⟩

set_option maxRecDepth 100000 in
theorem lifted (os : Os) (started : os.Started) (H : Type) (enc : TypeId × Value → H) :
    ReturnsInHanded {} Try.checked os 7 .any (Rows.fnUntokenedSpec.pre6 enc Try.prog Try.f7 Rows.fnUntokenedRow.domain false) (Rows.fnUntokenedSpec.post enc Try.prog Try.f7 false true false false) := by
  refine returnsInHanded_of_change (C := Try.checked) own started (by kernel_rfl) Try.func7
    (ChangeSpec.witness6 (enc := enc) (C := Try.checked) false ⟨#[], #[.slice none 0 0], []⟩ 8 (by kernel_rfl) (by kernel_rfl) (by kernel_rfl) (by kernel_rfl)) ?_
  intro W base args ds gs before hval0 hW hcnd _
  have hval : ∀ (j : Nat) t v, Try.f7.params[j]? = some t → args[j]? = some v → Value.okWide Try.prog W .any base t v := hval0
  have hW' := hW
  obtain ⟨p, q, hA0, hV, rfl, hfz, hnd⟩ := hW
  have hA : DataW.TrodAll enc Try.prog W 0 (fun _ => true) true Try.f7.params.toList args.toList ds p := hA0
  rw [Try.params7] at hA hval
  obtain ⟨v0, vs0, d0, ds0, p0, q0, hargs, rfl, rfl, h0, r0⟩ := trodAll_cons hA
  obtain ⟨rfl, rfl, rfl⟩ := trodAll_nil r0
  obtain rfl : args = #[v0] := by cases args; simp_all
  obtain ⟨rfl, rfl⟩ := trodVars_none hV
  obtain ⟨a0, len0, cap0, rfl⟩ := okWide_slice Try.underlying22 (hval 0 22 v0 rfl rfl)
  have k0 := h0
  have lt0 : ∀ x ∈ p0, x.block < W.heap.size := by obtain ⟨m, hm⟩ := k0; exact DataW.trod_lt m _ _ _ hm
  obtain ⟨z0, w0⟩ : ∃ zs, IsRow .u8 W a0 len0 cap0 zs := by
    obtain ⟨fuel, hf⟩ := h0
    rcases open_ints Try.underlying22 Try.underlying5 (by kernel_rfl) hf with ⟨hcs, _⟩ | ⟨x, l, c, zs, hcs, _, hl, hm, hz, _, hcell, hwz⟩
    · simp [Value.cells] at hcs
      obtain ⟨rfl, rfl, rfl⟩ := hcs
      exact ⟨[], .inl ⟨rfl, rfl, rfl, rfl⟩⟩
    · simp [Value.cells] at hcs
      obtain ⟨rfl, rfl, rfl⟩ := hcs
      exact ⟨zs, .inr ⟨_, rfl, hl, hm, by simpa using hz, hcell, hwz⟩⟩
  clear hA0 hval0
  refine (walk a0 len0 cap0 z0 W w0).mono fun e W' ⟨he, bel⟩ => ?_
  subst he
  exact ⟨_, rfl, _, _, _, [], _, [], hW', trodAll_mk1 (shut_bool Try.underlying4 _), (trodAll_cons_mk (Below.trod laidOut (by kernel_rfl) (of_decide_eq_true (by kernel_rfl)) k0 bel lt0) trodAll_mk0), rfl, bel.frame _, fun h => by cases h⟩

theorem over : Rows.fnUntokenedRow.holds Try.pinned (OpenSpec.ofChange Rows.fnUntokenedSpec) :=
  OpenClaim.holds_of_wide 7 Try.f7 rfl rfl rfl rfl rfl rfl rfl ⟨rfl, rfl, rfl, rfl, rfl⟩ rfl rfl rfl rfl rfl (by kernel_rfl) Try.func7 (by kernel_rfl)
    (of_decide_eq_true (by kernel_rfl)) (by unfold Func.isWrapper; first | (rw [if_pos (by decide +kernel)]; kernel_rfl) | (rw [if_neg (by decide +kernel)]; exact ⟨rfl, rfl⟩))
    (fun os started H enc _ => lifted os started H enc)

theorem proved : Rows.FnUntokenedSaid := over
#print axioms proved
end Go.Proofs.Ytnkahdidelhdaac.fnUntokened
