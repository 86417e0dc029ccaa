/-
  Find of the code answers as the model does, at every list of nodes and every path.
-/
import Derived.Test.YtadimakdjndcdaqDoorRows
import Derived.Test.YtadimakdjndcdaqDoorTie
import Derived.Test.YtadimakdjndcdaqDoorCards
import Derived.Test.YtadimakdjndcdaqDoorCardKitP
import Derived.Test.YtadimakdjndcdaqDoorTrG
import Derived.Test.YtadimakdjndcdaqDoorNdR
import Derived.Test.YtadimakdjndcdaqDoorNdE
import Derived.SevenTiedAt
import Derived.Stop.Joined
import Derived.Lay
import Derived.WalkKit
import Derived.ProofKit
import Derived.OpenShut
import Derived.ShutString
import Derived.ChangeOld
import Derived.Below
import Derived.Lib.SmallJoins
import Derived.Deep.Slices
namespace Go.Proofs.YtadimakdjndcdaqDoor.fnExactFind
open Go.ChangeShapes Go.WideShapes Go.ChangeAt Go.RowKit
open Go.ChangeMaps (open_string shut_string)
open Go.Deep
set_option linter.unusedVariables false
set_option linter.unusedSimpArgs false

theorem own : ownKnob Tryd.prog.godebug = none := by kernel_rfl
theorem laidOut : laidOutB Tryd.prog = true := by kernel_rfl
set_option maxRecDepth 100000 in
set_option maxHeartbeats 4000000 in
theorem walk (v : Value) (n : Nat) (F : Nat → NdI) (hm : n ≤ maxLen) (hd : ∀ i, i < n → (F i).p.size ≤ maxLen ∧ (F i).d.size ≤ maxLen) (s : ByteArray) (hsm : s.size ≤ maxLen) (w : World) (hv : NdIn w v n F) (hmx : MxL w) :
    Calls Tryd.prog 4 #[v, .string s] w fun e w' => e = .returned (.bool true) ∧ Below w.heap.size w w' := by
  obtain ⟨a, c, rfl, _⟩ := hv.form
  unfold maxLen at hsm
  have HZ : Hid (∀ w, NdIn w (.slice a n c) n F → Calls Tryd.prog 9 #[.slice a n c, .int .i64 1048576] w fun e w' => e = .returned (szVNd 1048576 (n + ndTot F n)) ∧ Below w.heap.size w w') := fun w h => szNdS_any _ n 1048576 F w (Nat.le_refl _) hm hd h
  have HMX : Hid (∀ w', Below w.heap.size w w' → MxL w') := fun w' h => hmx.on h
  have HV : Hid (NdIn w (.slice a n c) n F) := hv
  clear hv hmx
  by_cases hbig : 1048576 < s.size
  · clear HZ HV hd hm
    go_enter Tryd.func4, Tryd.ntmps4
    go_wp2_with fail
    go_ret
    exact ⟨rfl, Below.refl _ _⟩
  · by_cases hn : n + ndTot F n ≤ 1048576
    · have hF : NdLe F n := ⟨by omega, hn⟩
      have hn1 : n ≤ 1048576 := by omega
      rw [szVNd_le hn] at HZ
      have hl : ¬ ((1048576 - (n + ndTot F n) : Nat) : Int) < 0 := by omega
      obtain ⟨p, b, hpb⟩ : ∃ p b, fdT F (fdI F n s) = .tuple #[ndVal p, .bool b] := by
        cases fdI F n s with
        | none => exact ⟨_, _, rfl⟩
        | some j => exact ⟨_, _, rfl⟩
      have HT : Hid (∀ w, NdIn w (.slice a n c) n F → Calls Tryd.prog 11 #[.slice a n c] w fun e w' => (∃ v', e = .returned v' ∧ NdArg w' v' n F) ∧ Below w.heap.size w w') := fun w h => toNdS_any _ n F w hn1 h
      have HU : Hid (∀ v w, MxL w → NdArg w v n F → Calls Tryd.prog 15 #[v, .string s] w fun e w' => e = .returned (.tuple #[ndVal p, .bool b]) ∧ Below w.heap.size w w') := fun v w h2 h => by
        have h3 := findF_any v n F s w hF (by omega) h2 h
        rw [hpb] at h3
        exact h3
      have HS : Hid (∀ v w, NdArg w v n F → Calls Tryd.prog 14 #[v, .string s] w fun e w' => e = .returned (.tuple #[ndVal p, .bool b]) ∧ Below w.heap.size w w') := fun v w h => by
        have h3 := sfindF_any v n F s w hF (by omega) h
        rw [hpb] at h3
        exact h3
      have HE : Hid (∀ v1 v2 w, NdArg w v1 n F → NdArg w v2 n F → Calls Tryd.prog 13 #[v1, v2] w fun e w' => e = .returned (.bool true) ∧ Below w.heap.size w w') := fun v1 v2 w h1 h2 => eqNdS_any v1 v2 n F w hn1 h1 h2
      obtain ⟨pa, pr, pm, pd⟩ := p
      have HQ : Hid (∀ w, Calls Tryd.prog 16 #[ndV pa pr pm pd, ndV pa pr pm pd] w fun e w' => e = .returned (.bool true) ∧ Below w.heap.size w w') := fun w => eqNd_same pa pr pm pd w
      unfold ndVal at HU HS
      unfold ndV at HQ
      simp only at HU HS
      generalize 1048576 - (n + ndTot F n) = L at HZ hl
      clear hn hn1 hm hF hd hpb
      go_enter Tryd.func4, Tryd.ntmps4
      go_wp2_with fail
      refine (HZ.out _ HV.out).mono ?_
      rintro e w1 ⟨rfl, hb1⟩
      have HV1 : Hid (NdIn w1 (.slice a n c) n F) := HV.out.below hb1
      go_wp2_with fail
      refine (HT.out _ HV1.out).mono ?_
      rintro e w2 ⟨⟨v1, rfl, h1⟩, hb2⟩
      have HV2 : Hid (NdIn w2 (.slice a n c) n F) := HV1.out.below hb2
      replace hb2 := blNd hb1 hb2 hb1.size
      clear hb1 HV1
      go_wp2_with fail
      refine (HS.out _ _ h1).mono ?_
      rintro e w3 ⟨rfl, hb3⟩
      have hbx : Below w3.heap.size w3 (w3.alloc (.cells #[.string pa, .bool pr, .int .i64 pm, .string pd] 30)) := (Below.refl _ _).alloc (Nat.le_refl _) _
      have HV3 : Hid (NdIn (w3.alloc (.cells #[.string pa, .bool pr, .int .i64 pm, .string pd] 30)) (.slice a n c) n F) := (HV2.out.below hb3).below hbx
      have HX3 : Hid ((w3.alloc (.cells #[.string pa, .bool pr, .int .i64 pm, .string pd] 30)).heap[w3.heap.size]? = some (.cells #[.string pa, .bool pr, .int .i64 pm, .string pd] 30 (0, 0))) := heap_alloc_new w3 _
      replace hb3 := blNd hb2 hb3 hb2.size
      have hb3a := hb3.alloc hb3.size (.cells #[.string pa, .bool pr, .int .i64 pm, .string pd] 30)
      clear hb2 HV2 h1 hbx hb3
      have hsz3 : w3.heap.size < (w3.alloc (.cells #[.string pa, .bool pr, .int .i64 pm, .string pd] 30)).heap.size := by simp
      go_wp2_with fail
      generalize w3.alloc (.cells #[.string pa, .bool pr, .int .i64 pm, .string pd] 30) = wx at hb3a HV3 HX3 hsz3 ⊢
      generalize w3.heap.size = nb3 at HX3 hsz3 ⊢
      refine (HT.out _ HV3.out).mono ?_
      rintro e w4 ⟨⟨v2, rfl, h2⟩, hb4⟩
      have HV4 : Hid (NdIn w4 (.slice a n c) n F) := HV3.out.below hb4
      have HX4 : Hid (w4.heap[nb3]? = some (.cells #[.string pa, .bool pr, .int .i64 pm, .string pd] 30 (0, 0))) := (hb4.block _ hsz3).trans HX3.out
      replace hb4 := blNd hb3a hb4 hb3a.size
      clear hb3a HV3 HX3 hsz3
      go_wp2_with fail
      refine (HU.out _ _ (HMX.out _ hb4) h2).mono ?_
      rintro e w5 ⟨rfl, hb5⟩
      have hbx : Below w5.heap.size w5 (w5.alloc (.cells #[.string pa, .bool pr, .int .i64 pm, .string pd] 30)) := (Below.refl _ _).alloc (Nat.le_refl _) _
      have HV5 : Hid (NdIn (w5.alloc (.cells #[.string pa, .bool pr, .int .i64 pm, .string pd] 30)) (.slice a n c) n F) := (HV4.out.below hb5).below hbx
      have hx5 : (w5.alloc (.cells #[.string pa, .bool pr, .int .i64 pm, .string pd] 30)).heap[nb3]? = some (.cells #[.string pa, .bool pr, .int .i64 pm, .string pd] 30 (0, 0)) := (Below.heap_alloc _ _ _ (Nat.lt_of_lt_of_le (Array.getElem?_eq_some_iff.1 HX4.out).1 hb5.size)).trans ((hb5.block _ (Array.getElem?_eq_some_iff.1 HX4.out).1).trans HX4.out)
      replace h2 := (h2.below hb5).below hbx
      replace hb5 := (blNd hb4 hb5 hb4.size).alloc (blNd hb4 hb5 hb4.size).size (.cells #[.string pa, .bool pr, .int .i64 pm, .string pd] 30)
      have x0 : (w5.alloc (.cells #[.string pa, .bool pr, .int .i64 pm, .string pd] 30)).cell? ⟨nb3, 0, none⟩ = some (.string pa) := cell_of_row _ _ 0 _ _ _ hx5
      have x1 : (w5.alloc (.cells #[.string pa, .bool pr, .int .i64 pm, .string pd] 30)).cell? ⟨nb3, 1, none⟩ = some (.bool pr) := cell_of_row _ _ 1 _ _ _ hx5
      have x2 : (w5.alloc (.cells #[.string pa, .bool pr, .int .i64 pm, .string pd] 30)).cell? ⟨nb3, 2, none⟩ = some (.int .i64 pm) := cell_of_row _ _ 2 _ _ _ hx5
      have x3 : (w5.alloc (.cells #[.string pa, .bool pr, .int .i64 pm, .string pd] 30)).cell? ⟨nb3, 3, none⟩ = some (.string pd) := cell_of_row _ _ 3 _ _ _ hx5
      have HQ2 := hidT HV5.out
      clear hb4 HV4 HX4 hbx hx5
      go_wp2_with fail
      refine (HQ.out _).mono ?_
      rintro e w5b ⟨rfl, hb5b⟩
      have HV5 : Hid (NdIn w5b (.slice a n c) n F) := HQ2.out.below hb5b
      replace h2 := h2.below hb5b
      replace hb5 := blNd hb5 hb5b hb5.size
      clear HQ2 x0 x1 x2 x3 hb5b
      cases b with
      | true =>
        go_wp2_with fail
        refine (HT.out _ HV5.out).mono ?_
        rintro e w6 ⟨⟨v3, rfl, h3⟩, hb6⟩
        replace h2 := h2.below hb6
        replace hb6 := blNd hb5 hb6 hb5.size
        clear hb5
        go_wp2_with fail
        refine (HE.out _ _ _ h2 h3).mono ?_
        rintro e w7 ⟨rfl, hb7⟩
        replace hb7 := blNd hb6 hb7 hb6.size
        go_wp2_with fail
        go_ret
        exact ⟨rfl, hb7⟩
      | false =>
        go_wp2_with fail
        refine (HT.out _ HV5.out).mono ?_
        rintro e w6 ⟨⟨v3, rfl, h3⟩, hb6⟩
        replace h2 := h2.below hb6
        replace hb6 := blNd hb5 hb6 hb5.size
        clear hb5
        go_wp2_with fail
        refine (HE.out _ _ _ h2 h3).mono ?_
        rintro e w7 ⟨rfl, hb7⟩
        replace hb7 := blNd hb6 hb7 hb6.size
        go_wp2_with fail
        go_ret
        exact ⟨rfl, hb7⟩
    · rw [szVNd_no hn] at HZ
      clear hn hm hd
      go_enter Tryd.func4, Tryd.ntmps4
      go_wp2_with fail
      refine (HZ.out _ HV.out).mono ?_
      rintro e w1 ⟨rfl, hb1⟩
      go_wp2_with fail
      go_ret
      exact ⟨rfl, hb1⟩
set_option maxRecDepth 100000 in
theorem lifted (os : Os) (started : os.Started) (H : Type) (enc : TypeId × Value → H) :
    ReturnsInHanded {} Tryd.checked os 4 .any (fun w args => (Rows.fnExactFindSpec.pre enc Tryd.prog Tryd.f4 [] false w args ∧ laidMetH Tryd.prog [("unicode/utf8.acceptRanges", Rows.laid_unicode_utf8_acceptRanges), ("unicode/utf8.first", Rows.laid_unicode_utf8_first)] w) ∧ sizedMet enc Tryd.prog Tryd.f4 (OpenSpec.ofChange Rows.fnExactFindSpec) false w args) (Rows.fnExactFindSpec.post enc Tryd.prog Tryd.f4 false true false false) := by
  refine handed_laid (C := Tryd.checked) (X := fun w => laidMetH Tryd.prog [("unicode/utf8.acceptRanges", Rows.laid_unicode_utf8_acceptRanges), ("unicode/utf8.first", Rows.laid_unicode_utf8_first)] w) (fun _ _ hh h => h.of_heap hh) own started (by kernel_rfl) Tryd.func4
    (ChangeSpec.witness_shaped (enc := enc) (C := Tryd.checked) (os := os) (X := fun w _ => laidMetH Tryd.prog [("unicode/utf8.acceptRanges", Rows.laid_unicode_utf8_acceptRanges), ("unicode/utf8.first", Rows.laid_unicode_utf8_first)] w) false (World.laidAll Tryd.prog os [("unicode/utf8.acceptRanges", Rows.laid_unicode_utf8_acceptRanges), ("unicode/utf8.first", Rows.laid_unicode_utf8_first)]) #[.slice none 0 0, .string ByteArray.empty] 8 (World.laidAll_os _ _ _) (World.shaped_of_ZipB (by kernel_rfl) (by kernel_rfl)) (by kernel_rfl) (by kernel_rfl) (by kernel_rfl) (by rw [MakeChecks.laidMetH_plain _ _ _ (by kernel_rfl)]; exact laidMet_laidAll _ (by kernel_rfl) (by kernel_rfl))) ?_
  intro W base args ds gs before hval0 hW hL hsh
  have hval : ∀ (j : Nat) t v, Tryd.f4.params[j]? = some t → args[j]? = some v → Value.okWide Tryd.prog W .any base t v := hval0
  have hW' := hW
  obtain ⟨p, q, hA0, hV, rfl, hfz, hnd⟩ := hW
  have hA : DataW.TrodAll enc Tryd.prog W 0 (fun _ => true) true Tryd.f4.params.toList args.toList ds p := hA0
  rw [Tryd.params4] at hA hval
  obtain ⟨v0, vs0, d0, ds0, p0, q0, hargs, rfl, rfl, h0, r0⟩ := trodAll_cons hA
  obtain ⟨v1, vs1, d1, ds1, p1, q1, rfl, rfl, rfl, h1, r1⟩ := trodAll_cons r0
  obtain ⟨rfl, rfl, rfl⟩ := trodAll_nil r1
  obtain rfl : args = #[v0, v1] := by cases args; simp_all
  obtain ⟨rfl, rfl⟩ := trodVars_none hV
  have hMX : MxL W := mx_of_shape hsh
  obtain ⟨n0, F0, hm0, hd0, hin0⟩ := read_inNd h0 (Value.okWide_any_base (hval 0 _ v0 rfl rfl))
  have k0 := h0
  have lt0 : ∀ x ∈ p0, x.block < W.heap.size := by obtain ⟨m, hm⟩ := k0; exact DataW.trod_lt m _ _ _ hm
  obtain ⟨a1, rfl, rfl, rfl, w1⟩ := open_string Tryd.underlying9 (hval 1 _ v1 rfl rfl) h1
  clear hA0 hval0
  refine (walk v0 n0 F0 hm0 hd0 a1 w1 W hin0 hMX).mono fun e W' ⟨he, bel⟩ => ?_
  subst he
  exact ⟨_, rfl, _, _, _, [], _, [], hW', trodAll_mk1 (shut_bool Tryd.underlying4 _), (trodAll_cons_mk (Below.trod laidOut (by kernel_rfl) (of_decide_eq_true (by kernel_rfl)) k0 bel lt0) (trodAll_cons_mk (shut_string Tryd.underlying9 w1) trodAll_mk0)), rfl, bel.frame _, fun h => by cases h⟩

theorem over : Rows.fnExactFindRow.holds Tryd.pinned (OpenSpec.ofChange Rows.fnExactFindSpec) :=
  OpenClaim.holds_of_wide 4 Tryd.f4 rfl rfl rfl rfl rfl rfl rfl ⟨rfl, rfl, rfl, rfl, rfl⟩ rfl rfl rfl rfl rfl (by kernel_rfl) Tryd.func4 (by kernel_rfl)
    (of_decide_eq_true (by kernel_rfl)) (by unfold Func.isWrapper; first | (rw [if_pos (by decide +kernel)]; kernel_rfl) | (rw [if_neg (by decide +kernel)]; exact ⟨rfl, rfl⟩))
    (fun os started H enc _ => lifted os started H enc)
theorem proved : Rows.FnExactFindCardSaid :=
  Claim7.holds_tied_plain_at .later [] [.data, .pinned] true (true, "f552dfa21010d99ded90aa283424382b13206170bbf226c0f91d675e655e214c") false
    over (fun _ h => by cases h) (by kernel_rfl) (fun _ h => by cases h) fnExactFind_row_tie rfl ⟨rfl, rfl⟩ (by kernel_rfl) rfl
    (fun f fn hf hfn => by
      obtain rfl : f = 4 := Option.some.inj ((show Tryd.prog.funcNamed "loop.example/g00228/laws.FnExactFind" = some 4 by kernel_rfl).symm.trans hf) |>.symm
      obtain rfl : fn = Tryd.f4 := (Option.some.inj (Tryd.func4.symm.trans hfn)).symm
      exact ⟨by kernel_rfl, fun j t ht => by
        have hall : Tryd.f4.params.all (fun t => Tryd.prog.wantsStandIn t == false) = true := by kernel_rfl
        obtain ⟨hj, rfl⟩ := Array.getElem?_eq_some_iff.1 ht
        exact beq_iff_eq.1 (Array.all_eq_true.1 hall j hj)⟩)
    (by kernel_rfl)
#print axioms proved
end Go.Proofs.YtadimakdjndcdaqDoor.fnExactFind
