/-
  A delta makes the new text of the old one; that of a text with itself is one piece.
-/
import Derived.Test.YtibciflmalfbjaaRows
import Derived.Test.YtibciflmalfbjaaDdM
import Derived.Test.YtibciflmalfbjaaDoC
import Derived.Test.YtibciflmalfbjaaDoS
import Derived.Test.YtibciflmalfbjaaDrwOt
import Derived.Test.YtibciflmalfbjaaPatC
import Derived.Test.YtibciflmalfbjaaSamePc
import Derived.Test.YtibciflmalfbjaaBig
import Derived.Laws.Rows
import Derived.BigQuiet
import Derived.WalkKit
import Derived.ProofKit
import Derived.OpenShut
import Derived.ShutString
import Derived.ChangeOld
import Derived.Below
namespace Go.Proofs.Ytibciflmalfbjaa.fnDeltas
open Go.ChangeShapes Go.WideShapes Go.ChangeAt Go.RowKit
open Go.ChangeMaps (open_string shut_string)
set_option linter.unusedVariables false

theorem own : ownKnob Try.prog.godebug = none := by kernel_rfl
theorem laidOut : laidOutB Try.prog = true := by kernel_rfl

/-- WHAT THE WALK IS TOLD OF A SLICE OF INTEGERS THAT CAME IN: it is nil; or it leads to a row of 'cap' cells, the numbers 'zs' (the first 'len' are its elements, the rest its spare room), each fitting its kind. -/
def IsRow (k : IntKind) (w : World) (a : Option Addr) (len cap : Nat) (zs : List Int) : Prop :=
  (a = none ∧ len = 0 ∧ cap = 0 ∧ zs = []) ∨
  ∃ x, a = some x ∧ len ≤ cap ∧ cap ≤ maxLen ∧ zs.length = cap ∧ (∀ i, i < zs.length → w.cell? (x.add i) = some (.int k (zs.getD i 0))) ∧ ∀ n ∈ zs, (Lit.int k n).wf = true

set_option linter.unusedSimpArgs false
set_option linter.unusedVariables false
theorem pcLe_of {F : Nat → PcI} {n : Nat} {old : Int} (h : pcR F n old) : PcLe F n := by
  obtain ⟨h1, h2, h3, h4, h5⟩ := h
  refine ⟨by omega, fun i hi => ?_⟩
  have m1 := pcSum_mono (F := F) (old := old) (i := i + 1) (n := n) hi h4
  have m2 := pcSum_mono (F := F) (old := old) (i := 0) (n := i) (Nat.zero_le _) (fun j hj => h4 j (by omega))
  have m3 : pcSum F (i + 1) = pcSum F i + pcSz (F i) := rfl
  have m4 : pcSum F 0 = 0 := rfl
  by_cases hd : (F i).d = ⟨#[]⟩
  · rw [hd]; exact Nat.zero_le _
  · rw [pcSz_yes hd] at m3; omega
theorem doD_some (o s : ByteArray) (ho : o.size ≤ 4000) (hs : s.size ≤ 4000) (h : ¬ 500 < (doL o s).length) : doD o s = some (doL o s) := by
  unfold doD; rw [if_neg (by omega), if_neg h]
set_option maxRecDepth 100000 in
theorem drawDeltaOf {w0 : World} {a : Option Addr} {len cap : Nat} {W : World} (hS : Src w0 a len) (hb : Below w0.heap.size w0 W) :
    Calls Try.prog 17 #[.slice a len cap] W fun e w' => (∃ o s : ByteArray, o.size ≤ 600 ∧ s.size ≤ 600 ∧ e = .returned (.tuple #[.string o, .string s])) ∧ Below w0.heap.size w0 w' := by
  go_enter Try.func17, Try.ntmps17
  go_wp2_with fail
  refine (open_any hb).mono ?_
  rintro e w1 ⟨rfl, hr, _⟩
  go_wp2_with fail
  refine (data_any hS hr 8 (by omega) (by omega)).mono ?_
  rintro e w2 ⟨⟨o, ho, rfl⟩, hr2⟩
  have HR2 := hid hr2.rd
  clear hr hr2
  go_wp2_with fail
  refine (other_any hS HR2.out o ho).mono ?_
  rintro e w3 ⟨⟨s, hs, rfl⟩, hr3⟩
  go_wp2_with fail
  go_ret2
  exact ⟨⟨o, s, ho, hs, rfl⟩, hr3.below⟩

set_option maxRecDepth 100000 in
set_option maxHeartbeats 1000000 in
theorem walk (a0 : Option Addr) (len0 cap0 : Nat) (z0 : List Int) (w : World) (w0 : IsRow .u8 w a0 len0 cap0 z0) :
    Calls Try.prog 6 #[.slice a0 len0 cap0] w fun e w' => e = .returned (.bool true) ∧ Below w.heap.size w w' := by
  by_cases hbig : 1048576 < len0
  · go_enter Try.func6, Try.ntmps6
    go_wp2_with fail
    refine (big_yes a0 len0 cap0 _ hbig).mono ?_
    rintro e w1 ⟨rfl, rfl⟩
    go_wp2_with fail
    go_ret
    exact ⟨rfl, Below.refl _ _⟩
  · have hS := src_of w0 (by omega)
    clear w0
    go_enter Try.func6, Try.ntmps6
    go_wp2_with fail
    refine (big_no a0 len0 cap0 _ hbig).mono ?_
    rintro e w1 ⟨rfl, hw1⟩
    subst w1
    go_wp2_with fail
    refine (drawDeltaOf hS (Below.refl _ _)).mono ?_
    rintro e w2 ⟨⟨o, s, ho, hs, rfl⟩, hb2⟩
    have HW2 := hid hb2
    clear hbig hb2 hS
    have HDO := hid (fun w => do_any o s w (by omega) (by omega))
    have HDS := hid (fun w => sdos_any o s w (by omega) (by omega))
    by_cases h5 : 500 < (doL o s).length
    · have hR : doD o s = none := by unfold doD; rw [if_neg (by omega), if_pos h5]
      rw [hR] at HDO HDS
      have HSM : Hid (∀ va vb w, PcArg w va 0 (pcF []) → PcArg w vb 0 (pcF []) → Calls Try.prog 18 #[va, vb] w fun e w' => e = .returned (.bool true) ∧ Below w.heap.size w w') := fun va vb w h1 h2 => sameP_any va vb 0 (pcF []) w (by omega) h1 h2
      clear hR h5
      go_wp2_with fail
      refine (HDO.out _).mono ?_
      rintro e w3 ⟨⟨v3, rfl, ho3⟩, hb3⟩
      have HA3 : Hid (PcArg w3 v3 0 (pcF [])) := own3_arg (L := []) ho3
      have HW3 := hid (bl3 HW2.out hb3 HW2.out.size)
      clear ho3 hb3 HW2
      go_wp2_with fail
      refine (HDS.out _).mono ?_
      rintro e w4 ⟨⟨v4, rfl, ho4⟩, hb4⟩
      have HA4 : Hid (PcArg w4 v4 0 (pcF [])) := own3_arg (L := []) ho4
      have HA34 := hid (HA3.out.below hb4)
      have HW4 := hid (bl3 HW3.out hb4 HW3.out.size)
      clear ho4 hb4 HW3 HA3
      have hi : (none : Option (List PcI)).isSome = false := rfl
      rw [hi]
      go_wp2_with fail
      refine (HSM.out _ _ _ HA34.out HA4.out).mono ?_
      rintro e w5 ⟨rfl, hb5⟩
      have HA35 := hid (HA34.out.below hb5)
      have HA45 := hid (HA4.out.below hb5)
      have HW5 := hid (bl3 HW4.out hb5 HW4.out.size)
      clear hb5 HW4 HA34 HA4
      go_wp2_with fail
      refine (HSM.out _ _ _ HA35.out HA45.out).mono ?_
      rintro e w6 ⟨rfl, hb6⟩
      go_wp2_with fail
      go_ret
      exact ⟨rfl, bl3 HW5.out hb6 HW5.out.size⟩
    · have hR := doD_some o s (by omega) (by omega) h5
      rw [hR] at HDO HDS
      obtain ⟨hpr, hpb⟩ := doL_good o s (by omega) (by omega) (by omega)
      have hle := pcLe_of hpr
      have HPT : Hid (∀ v w, PcArg w v (doL o s).length (pcF (doL o s)) → Calls Try.prog 19 #[.string o, v] w fun e w' => e = .returned (.tuple #[.string s, .bool true]) ∧ Below w.heap.size w w') := fun v w h => by
        have h1 := pat_any o v _ _ w hle h
        rw [patB_some o _ _ hpr, hpb, pcB_yes hpr] at h1
        exact h1
      have HPO : Hid (∀ v w, PcArg w v (doL o s).length (pcF (doL o s)) → Calls Try.prog 20 #[.int .i64 (o.size : Int), v] w fun e w' => e = .returned (.bool true) ∧ Below w.heap.size w w') := fun v w h => by
        have h1 := pcs_any v _ _ (o.size : Int) w hle h
        rw [pcB_yes hpr] at h1
        exact h1
      have HSM : Hid (∀ va vb w, PcArg w va (doL o s).length (pcF (doL o s)) → PcArg w vb (doL o s).length (pcF (doL o s)) → Calls Try.prog 18 #[va, vb] w fun e w' => e = .returned (.bool true) ∧ Below w.heap.size w w') := fun va vb w h1 h2 => sameP_any va vb _ _ w (by omega) h1 h2
      have HDX := hid (fun w => do_any o o w (by omega) (by omega))
      have hsf := doL_self o
      rw [doD_some o o (by omega) (by omega) (by omega)] at HDX
      have HSE : Hid (6 ≤ o.size → doL o o = [⟨0, (o.size : Int), ⟨#[]⟩⟩]) := doL_same o
      generalize doL o s = L at HDO HDS HPT HPO HSM
      clear hR h5 hpr hpb hle hsf
      go_wp2_with fail
      refine (HDO.out _).mono ?_
      rintro e w3 ⟨⟨v3, rfl, ho3⟩, hb3⟩
      have HA3 : Hid (PcArg w3 v3 L.length (pcF L)) := own3_arg (L := L) ho3
      have HW3 := hid (bl3 HW2.out hb3 HW2.out.size)
      clear ho3 hb3 HW2
      go_wp2_with fail
      refine (HDS.out _).mono ?_
      rintro e w4 ⟨⟨v4, rfl, ho4⟩, hb4⟩
      have HA4 : Hid (PcArg w4 v4 L.length (pcF L)) := own3_arg (L := L) ho4
      have HA34 := hid (HA3.out.below hb4)
      have HW4 := hid (bl3 HW3.out hb4 HW3.out.size)
      clear ho4 hb4 HW3 HA3
      have hi : (some L : Option (List PcI)).isSome = true := rfl
      rw [hi]
      go_wp2_with fail
      refine (HSM.out _ _ _ HA34.out HA4.out).mono ?_
      rintro e w5 ⟨rfl, hb5⟩
      have HA35 := hid (HA34.out.below hb5)
      have HW5 := hid (bl3 HW4.out hb5 HW4.out.size)
      clear hb5 HW4 HA34 HA4
      go_wp2_with fail
      refine (HPT.out _ _ HA35.out).mono ?_
      rintro e w6 ⟨rfl, hb6⟩
      have HA36 := hid (HA35.out.below hb6)
      have HW6 := hid (bl3 HW5.out hb6 HW5.out.size)
      clear hb6 HW5 HA35
      go_wp2_with fail
      refine (HDX.out _).mono ?_
      rintro e w7 ⟨⟨v7, rfl, ho7⟩, hb7⟩
      have HA7 : Hid (PcArg w7 v7 (doL o o).length (pcF (doL o o))) := own3_arg (L := doL o o) ho7
      have HA37 := hid (HA36.out.below hb7)
      have HW7 := hid (bl3 HW6.out hb7 HW6.out.size)
      clear ho7 hb7 HW6 HA36
      have hi2 : (some (doL o o) : Option (List PcI)).isSome = true := rfl
      rw [hi2]
      go_wp2_with fail
      refine (HPO.out _ _ HA37.out).mono ?_
      rintro e w8 ⟨rfl, hb8⟩
      have HA8 := hid (HA7.out.below hb8)
      have HW8 := hid (bl3 HW7.out hb8 HW7.out.size)
      clear hb8 HW7 HA37 HA7
      by_cases h6 : o.size < 6
      · have h6I : (o.size : Int) < 6 := by omega
        go_wp2_with fail
        go_ret
        exact ⟨rfl, HW8.out⟩
      · have h6I : ¬ (o.size : Int) < 6 := by omega
        have he := HSE.out (by omega)
        rw [he] at HA8
        have HA8 : Hid (PcArg w8 v7 1 (pcF [⟨0, (o.size : Int), ⟨#[]⟩⟩])) := HA8
        have HS2 : Hid (∀ va vb w, PcArg w va 1 (pcF [⟨0, (o.size : Int), ⟨#[]⟩⟩]) → PcArg w vb 1 (pcF [⟨0, (o.size : Int), ⟨#[]⟩⟩]) → Calls Try.prog 18 #[va, vb] w fun e w' => e = .returned (.bool true) ∧ Below w.heap.size w w') := fun va vb w h1 h2 => sameP_any va vb 1 _ w (by omega) h1 h2
        obtain ⟨W9, hW9⟩ : ∃ W9, W9 = w8.alloc (.cells #[.int .i64 0, .int .i64 (o.size : Int), .string ⟨#[]⟩] 39) := ⟨_, rfl⟩
        have hrow : W9.heap[w8.heap.size]? = some (.cells #[.int .i64 0, .int .i64 (o.size : Int), .string ⟨#[]⟩] 39 (0, 0)) := by rw [hW9]; exact heap_alloc_new w8 _
        have HB9 : Hid (PcArg W9 (.slice (some ⟨w8.heap.size, 0, none⟩) 1 1) 1 (pcF [⟨0, (o.size : Int), ⟨#[]⟩⟩])) := by
          refine ⟨_, _, rfl, fun _ => ⟨_, rfl, (Array.getElem?_eq_some_iff.1 hrow).1, fun i hi => ?_, fun i hi => ?_, fun i hi => ?_⟩⟩
          · obtain rfl : i = 0 := by omega
            exact cell_of_row W9 _ 0 _ _ _ hrow
          · obtain rfl : i = 0 := by omega
            exact cell_of_row W9 _ 1 _ _ _ hrow
          · obtain rfl : i = 0 := by omega
            exact cell_of_row W9 _ 2 _ _ _ hrow
        have hb9 : Below w8.heap.size w8 W9 := by rw [hW9]; exact (Below.refl _ _).alloc (Nat.le_refl _) _
        have HA9 := hid (HA8.out.below hb9)
        have HW9 := hid (bl3 HW8.out hb9 HW8.out.size)
        clear hb9 hrow HA8 HW8 he
        go_wp2_with fail
        try rw [← hW9]
        refine (HS2.out _ _ _ HA9.out HB9.out).mono ?_
        rintro e w10 ⟨rfl, hb10⟩
        go_wp2_with fail
        go_ret
        exact ⟨rfl, bl3 HW9.out hb10 HW9.out.size⟩

set_option maxRecDepth 100000 in
theorem lifted (os : Os) (started : os.Started) (H : Type) (enc : TypeId × Value → H) :
    ReturnsInHanded {} Try.checked os 6 .any (Rows.fnDeltasSpec.pre6 enc Try.prog Try.f6 Rows.fnDeltasRow.domain false) (Rows.fnDeltasSpec.post enc Try.prog Try.f6 false true false false) := by
  refine returnsInHanded_of_change (C := Try.checked) own started (by kernel_rfl) Try.func6
    (ChangeSpec.witness6 (enc := enc) (C := Try.checked) false ⟨#[], #[.slice none 0 0], []⟩ 8 (by kernel_rfl) (by kernel_rfl) (by kernel_rfl) (by kernel_rfl)) ?_
  intro W base args ds gs before hval0 hW hcnd _
  have hval : ∀ (j : Nat) t v, Try.f6.params[j]? = some t → args[j]? = some v → Value.okWide Try.prog W .any base t v := hval0
  have hW' := hW
  obtain ⟨p, q, hA0, hV, rfl, hfz, hnd⟩ := hW
  have hA : DataW.TrodAll enc Try.prog W 0 (fun _ => true) true Try.f6.params.toList args.toList ds p := hA0
  rw [Try.params6] at hA hval
  obtain ⟨v0, vs0, d0, ds0, p0, q0, hargs, rfl, rfl, h0, r0⟩ := trodAll_cons hA
  obtain ⟨rfl, rfl, rfl⟩ := trodAll_nil r0
  obtain rfl : args = #[v0] := by cases args; simp_all
  obtain ⟨rfl, rfl⟩ := trodVars_none hV
  obtain ⟨a0, len0, cap0, rfl⟩ := okWide_slice Try.underlying25 (hval 0 25 v0 rfl rfl)
  have k0 := h0
  have lt0 : ∀ x ∈ p0, x.block < W.heap.size := by obtain ⟨m, hm⟩ := k0; exact DataW.trod_lt m _ _ _ hm
  obtain ⟨z0, w0⟩ : ∃ zs, IsRow .u8 W a0 len0 cap0 zs := by
    obtain ⟨fuel, hf⟩ := h0
    rcases open_ints Try.underlying25 Try.underlying5 (by kernel_rfl) hf with ⟨hcs, _⟩ | ⟨x, l, c, zs, hcs, _, hl, hm, hz, _, hcell, hwz⟩
    · simp [Value.cells] at hcs
      obtain ⟨rfl, rfl, rfl⟩ := hcs
      exact ⟨[], .inl ⟨rfl, rfl, rfl, rfl⟩⟩
    · simp [Value.cells] at hcs
      obtain ⟨rfl, rfl, rfl⟩ := hcs
      exact ⟨zs, .inr ⟨_, rfl, hl, hm, by simpa using hz, hcell, hwz⟩⟩
  clear hA0 hval0
  refine (walk a0 len0 cap0 z0 W w0).mono fun e W' ⟨he, bel⟩ => ?_
  subst he
  exact ⟨_, rfl, _, _, _, [], _, [], hW', trodAll_mk1 (shut_bool Try.underlying4 _), (trodAll_cons_mk (Below.trod laidOut (by kernel_rfl) (of_decide_eq_true (by kernel_rfl)) k0 bel lt0) trodAll_mk0), rfl, bel.frame _, fun h => by cases h⟩

theorem over : Rows.fnDeltasRow.holds Try.pinned (OpenSpec.ofChange Rows.fnDeltasSpec) :=
  OpenClaim.holds_of_wide 6 Try.f6 rfl rfl rfl rfl rfl rfl rfl ⟨rfl, rfl, rfl, rfl, rfl⟩ rfl rfl rfl rfl rfl (by kernel_rfl) Try.func6 (by kernel_rfl)
    (of_decide_eq_true (by kernel_rfl)) (by unfold Func.isWrapper; first | (rw [if_pos (by decide +kernel)]; kernel_rfl) | (rw [if_neg (by decide +kernel)]; exact ⟨rfl, rfl⟩))
    (fun os started H enc _ => lifted os started H enc)

theorem proved : Rows.FnDeltasSaid := over
#print axioms proved
end Go.Proofs.Ytibciflmalfbjaa.fnDeltas
