/-
  What is above a path is one, and shorter; its extension stands at its end, behind a dot.
-/
import Derived.Test.YtmckchklebohmaeDoorRows
import Derived.Test.YtmckchklebohmaeDoorTie
import Derived.Test.YtmckchklebohmaeDoorCards
import Derived.Test.YtmckchklebohmaeDoorCardKitP
import Derived.SevenTiedAt
import Derived.Stop.Joined
import Derived.Lay
import Derived.Test.YtmckchklebohmaeDoorPthL
import Derived.Test.YtmckchklebohmaeDoorDrwPth
import Derived.Test.YtmckchklebohmaeDoorDrw
import Derived.Test.YtmckchklebohmaeDoorBig
import Derived.WalkKit
import Derived.ProofKit
import Derived.OpenShut
import Derived.ShutString
import Derived.ChangeOld
import Derived.Below
namespace Go.Proofs.YtmckchklebohmaeDoor.fnPaths
open Go.ChangeShapes Go.WideShapes Go.ChangeAt Go.RowKit
open Go.ChangeMaps (open_string shut_string)
set_option linter.unusedVariables false

theorem own : ownKnob Tryd.prog.godebug = none := by kernel_rfl
theorem laidOut : laidOutB Tryd.prog = true := by kernel_rfl

/-- what the walk is told of a slice of integers that came in -/
def IsRow (k : IntKind) (w : World) (a : Option Addr) (len cap : Nat) (zs : List Int) : Prop :=
  (a = none ∧ len = 0 ∧ cap = 0 ∧ zs = []) ∨
  ∃ x, a = some x ∧ len ≤ cap ∧ cap ≤ maxLen ∧ zs.length = cap ∧ (∀ i, i < zs.length → w.cell? (x.add i) = some (.int k (zs.getD i 0))) ∧ ∀ n ∈ zs, (Lit.int k n).wf = true

theorem blQ {B C : Nat} {a b c : World} (h : Below B a b) (k : Below C b c) (hBC : B ≤ C) : Below B a c :=
  ⟨k.os.trans h.os, k.tape.trans h.tape, k.output.trans h.output, Nat.le_trans h.size k.size, fun i hi => (k.block i (Nat.lt_of_lt_of_le hi hBC)).trans (h.block i hi)⟩
theorem emp_no {x : ByteArray} (h : ¬ x = ⟨#[]⟩) : x.toList.isEmpty = false := by
  cases hx : x.toList.isEmpty with
  | false => rfl
  | true =>
    rw [List.isEmpty_iff] at hx
    rw [Lib.toList_data] at hx
    exact absurd (ByteArray.ext (Array.ext' hx)) h

set_option maxRecDepth 100000 in
set_option maxHeartbeats 4000000 in
theorem walk (a0 : Option Addr) (len0 cap0 : Nat) (z0 : List Int) (w : World) (w0 : IsRow .u8 w a0 len0 cap0 z0) (hm : MxL w) :
    Calls Tryd.prog 3 #[.slice a0 len0 cap0] w fun e w' => e = .returned (.bool true) ∧ Below w.heap.size w w' := by
  by_cases hbig : 1048576 < len0
  · go_enter Tryd.func3, Tryd.ntmps3
    go_wp2_with fail
    refine (big_yes a0 len0 cap0 _ hbig).mono ?_
    rintro e w1 ⟨rfl, rfl⟩
    go_wp2_with fail
    go_ret
    exact ⟨rfl, Below.refl _ _⟩
  · have hS := src_of w0 (by omega)
    have HPK : Hid (∀ (s : ByteArray) wr, s.size ≤ 1048576 → Below w.heap.size w wr → Calls Tryd.prog 11 #[.string s] wr fun e w' => e = .returned (.bool (pathB s.toList)) ∧ Below w.heap.size w w') := fun s wr hs hb => (pathOk_any s wr hs (hm.below hb hm.lt)).mono (fun e w' ⟨h1, h2⟩ => ⟨h1, blQ hb h2 hb.size⟩)
    have HPA : Hid (∀ (s : ByteArray) wr, s.size ≤ 1048576 → Below w.heap.size w wr → Calls Tryd.prog 9 #[.string s] wr fun e w' => e = .returned (.string (parB s)) ∧ Below w.heap.size w w') := fun s wr hs hb => (parent_any s wr hs (hm.below hb hm.lt)).mono (fun e w' ⟨h1, h2⟩ => ⟨h1, blQ hb h2 hb.size⟩)
    have HEX : Hid (∀ (s : ByteArray) wr, s.size ≤ 1048576 → Below w.heap.size w wr → Calls Tryd.prog 10 #[.string s] wr fun e w' => e = .returned (.string (extB s)) ∧ Below w.heap.size w w') := fun s wr hs hb => (ext_any s wr hs (hm.below hb hm.lt)).mono (fun e w' ⟨h1, h2⟩ => ⟨h1, blQ hb h2 hb.size⟩)
    clear w0 hm
    go_enter Tryd.func3, Tryd.ntmps3
    go_wp2_with fail
    refine (big_no a0 len0 cap0 _ hbig).mono ?_
    rintro e w1 ⟨rfl, hw⟩
    subst w1
    go_wp2_with fail
    refine (drawPath hS (Below.refl _ _)).mono ?_
    rintro e w2 ⟨⟨p, hp, rfl⟩, hb2⟩
    have HSP : Hid (∀ w, Calls Tryd.prog 12 #[.string p] w fun e w' => e = .returned (.bool (pathB p.toList)) ∧ w' = w) := fun w => spathOk_any p w (by omega)
    have HSA : Hid (∀ w, Calls Tryd.prog 13 #[.string p] w fun e w' => e = .returned (.string (parB p)) ∧ w' = w) := fun w => sparent_any p w (by omega)
    have HSE : Hid (∀ w, Calls Tryd.prog 14 #[.string p] w fun e w' => e = .returned (.string (extB p)) ∧ w' = w) := fun w => sext_any p w (by omega)
    have HP1 : Hid (∀ wr, Below w.heap.size w wr → Calls Tryd.prog 11 #[.string p] wr fun e w' => e = .returned (.bool (pathB p.toList)) ∧ Below w.heap.size w w') := fun wr h => HPK.out p wr (by omega) h
    have HA1 : Hid (∀ wr, Below w.heap.size w wr → Calls Tryd.prog 9 #[.string p] wr fun e w' => e = .returned (.string (parB p)) ∧ Below w.heap.size w w') := fun wr h => HPA.out p wr (by omega) h
    have HE1 : Hid (∀ wr, Below w.heap.size w wr → Calls Tryd.prog 10 #[.string p] wr fun e w' => e = .returned (.string (extB p)) ∧ Below w.heap.size w w') := fun wr h => HEX.out p wr (by omega) h
    have HU1 : Hid (∀ wr, parB p = parB p → (parB p).size ≤ 1048576 → Below w.heap.size w wr → Calls Tryd.prog 11 #[.string (parB p)] wr fun e w' => e = .returned (.bool (pathB (parB p).toList)) ∧ Below w.heap.size w w') := fun wr _ hs h => HPK.out (parB p) wr hs h
    have F0 : Hid (pathB p.toList = false → parB p = ⟨#[]⟩ ∧ extB p = ⟨#[]⟩) := fun h => ⟨by unfold parB; rw [if_neg (by rw [h]; decide)], by unfold extB; rw [if_neg (by rw [h]; decide)]⟩
    have F1 : Hid (pathB p.toList = true → ¬ parB p = ⟨#[]⟩ → pathB (parB p).toList = true ∧ p.extract 0 ((parB p).size + 1) = parB p ++ ⟨#[47]⟩ ∧ (parB p).size + 1 ≤ p.size) := fun h hn => par_ok h hn
    have F2 : Hid (¬ extB p = ⟨#[]⟩ → (extB p).size + 1 < p.size ∧ p.extract (p.size - (extB p).size - 1) p.size = (⟨#[46]⟩ : ByteArray) ++ extB p) := fun hn => ext_ok hn
    clear hS hbig HPK HPA HEX
    generalize pathB p.toList = b at *
    generalize extB p = x at *
    generalize parB p = u at *
    go_wp2_with fail
    refine (HA1.out _ hb2).mono ?_
    rintro e w3 ⟨rfl, hb3⟩
    clear hb2
    go_wp2_with fail
    refine (HE1.out _ hb3).mono ?_
    rintro e w4 ⟨rfl, hb4⟩
    clear hb3
    go_wp2_with fail
    refine (HP1.out _ hb4).mono ?_
    rintro e w5 ⟨rfl, hb5⟩
    clear hb4
    cases b with
    | false =>
      obtain ⟨rfl, rfl⟩ := F0.out rfl
      clear F0 F1 F2
      go_wp2_with fail
      refine (HSP.out _).mono ?_
      rintro e w' ⟨rfl, hw⟩
      subst w'
      go_wp2_with fail
      refine (HSA.out _).mono ?_
      rintro e w' ⟨rfl, hw⟩
      subst w'
      go_wp2_with fail
      refine (HSE.out _).mono ?_
      rintro e w' ⟨rfl, hw⟩
      subst w'
      go_wp2_with fail
      refine (HP1.out _ hb5).mono ?_
      rintro e w6 ⟨rfl, hb6⟩
      go_wp2_with fail
      go_ret
      exact ⟨rfl, hb6⟩
    | true =>
      go_wp2_with fail
      refine (HSP.out _).mono ?_
      rintro e w' ⟨rfl, hw⟩
      subst w'
      go_wp2_with fail
      refine (HSA.out _).mono ?_
      rintro e w' ⟨rfl, hw⟩
      subst w'
      go_wp2_with fail
      refine (HSE.out _).mono ?_
      rintro e w' ⟨rfl, hw⟩
      subst w'
      go_wp2_with fail
      refine (HP1.out _ hb5).mono ?_
      rintro e w6 ⟨rfl, hb6⟩
      clear hb5
      have HF1 := F1.out (by first | rfl | trivial)
      have HX : x = ⟨#[]⟩ ∨ (x.toList.isEmpty = false ∧ x.size + 1 < p.size ∧ p.extract (p.size - x.size - 1) p.size = (⟨#[46]⟩ : ByteArray) ++ x) := by
        by_cases hx : x = ⟨#[]⟩
        · exact Or.inl hx
        · exact Or.inr ⟨emp_no hx, F2.out hx⟩
      have HU : u = ⟨#[]⟩ ∨ (u.toList.isEmpty = false ∧ pathB u.toList = true ∧ p.extract 0 (u.size + 1) = u ++ ⟨#[47]⟩ ∧ u.size + 1 ≤ p.size) := by
        by_cases hu : u = ⟨#[]⟩
        · exact Or.inl hu
        · exact Or.inr ⟨emp_no hu, HF1 hu⟩
      clear HF1 F0 F1 F2
      rcases HU with rfl | ⟨u1, u2, u3, u4⟩
      · rcases HX with rfl | ⟨x1, x2, x3⟩
        · go_wp2_with fail
          go_ret
          exact ⟨rfl, hb6⟩
        · have hd : ((p.size : Int) - (x.size : Int) - 1) = ((p.size - x.size - 1 : Nat) : Int) := by omega
          have hlx : decide ((x.size : Int) + 1 < (p.size : Int)) = true := by simp; omega
          obtain ⟨d, hdd⟩ : ∃ d, d = p.size - x.size - 1 := ⟨_, rfl⟩
          rw [← hdd] at hd x3
          have hdl : d ≤ p.size := by omega
          have hxl : x.size < p.size := by omega
          have hsz : ((⟨#[46]⟩ : ByteArray) ++ x).size = x.size + 1 := by rw [ByteArray.size_append]; show 1 + _ = _; omega
          clear hdd
          go_wp2_with fail
          go_ret
          exact ⟨rfl, hb6⟩
      · have HUU : Hid (Calls Tryd.prog 11 #[.string u] w6 fun e w' => e = .returned (.bool true) ∧ Below w.heap.size w w') := by
          have h := HU1.out w6 (by first | rfl | trivial) (by omega) hb6
          rw [u2] at h
          exact h
        have hsz : (u ++ (⟨#[47]⟩ : ByteArray)).size = u.size + 1 := by rw [ByteArray.size_append]; rfl
        clear u2
        rcases HX with rfl | ⟨x1, x2, x3⟩
        · go_wp2_with fail
          refine HUU.out.mono ?_
          rintro e w7 ⟨rfl, hb7⟩
          clear hb6 HUU
          go_wp2_with fail
          go_ret
          exact ⟨rfl, hb7⟩
        · have hd : ((p.size : Int) - (x.size : Int) - 1) = ((p.size - x.size - 1 : Nat) : Int) := by omega
          have hlx : decide ((x.size : Int) + 1 < (p.size : Int)) = true := by simp; omega
          obtain ⟨d, hdd⟩ : ∃ d, d = p.size - x.size - 1 := ⟨_, rfl⟩
          rw [← hdd] at hd x3
          have hdl : d ≤ p.size := by omega
          have hxl : x.size < p.size := by omega
          have hszx : ((⟨#[46]⟩ : ByteArray) ++ x).size = x.size + 1 := by rw [ByteArray.size_append]; show 1 + _ = _; omega
          clear hdd
          go_wp2_with fail
          refine HUU.out.mono ?_
          rintro e w7 ⟨rfl, hb7⟩
          clear hb6 HUU
          go_wp2_with fail
          go_ret
          exact ⟨rfl, hb7⟩

set_option maxRecDepth 100000 in
theorem lifted (os : Os) (started : os.Started) (H : Type) (enc : TypeId × Value → H) :
    ReturnsInHanded {} Tryd.checked os 3 .any (fun w args => (Rows.fnPathsSpec.pre enc Tryd.prog Tryd.f3 [] false w args ∧ laidMetH Tryd.prog [("unicode/utf8.acceptRanges", Rows.laid_unicode_utf8_acceptRanges), ("unicode/utf8.first", Rows.laid_unicode_utf8_first)] w) ∧ sizedMet enc Tryd.prog Tryd.f3 (OpenSpec.ofChange Rows.fnPathsSpec) false w args) (Rows.fnPathsSpec.post enc Tryd.prog Tryd.f3 false true false false) := by
  refine handed_laid (C := Tryd.checked) (X := fun w => laidMetH Tryd.prog [("unicode/utf8.acceptRanges", Rows.laid_unicode_utf8_acceptRanges), ("unicode/utf8.first", Rows.laid_unicode_utf8_first)] w) (fun _ _ hh h => h.of_heap hh) own started (by kernel_rfl) Tryd.func3
    (ChangeSpec.witness_shaped (enc := enc) (C := Tryd.checked) (os := os) (X := fun w _ => laidMetH Tryd.prog [("unicode/utf8.acceptRanges", Rows.laid_unicode_utf8_acceptRanges), ("unicode/utf8.first", Rows.laid_unicode_utf8_first)] w) false (World.laidAll Tryd.prog os [("unicode/utf8.acceptRanges", Rows.laid_unicode_utf8_acceptRanges), ("unicode/utf8.first", Rows.laid_unicode_utf8_first)]) #[.slice none 0 0] 8 (World.laidAll_os _ _ _) (World.shaped_of_ZipB (by kernel_rfl) (by kernel_rfl)) (by kernel_rfl) (by kernel_rfl) (by kernel_rfl) (by rw [MakeChecks.laidMetH_plain _ _ _ (by kernel_rfl)]; exact laidMet_laidAll _ (by kernel_rfl) (by kernel_rfl))) ?_
  intro W base args ds gs before hval0 hW hL hsh
  have hval : ∀ (j : Nat) t v, Tryd.f3.params[j]? = some t → args[j]? = some v → Value.okWide Tryd.prog W .any base t v := hval0
  have hW' := hW
  obtain ⟨p, q, hA0, hV, rfl, hfz, hnd⟩ := hW
  have hA : DataW.TrodAll enc Tryd.prog W 0 (fun _ => true) true Tryd.f3.params.toList args.toList ds p := hA0
  rw [Tryd.params3] at hA hval
  obtain ⟨v0, vs0, d0, ds0, p0, q0, hargs, rfl, rfl, h0, r0⟩ := trodAll_cons hA
  obtain ⟨rfl, rfl, rfl⟩ := trodAll_nil r0
  obtain rfl : args = #[v0] := by cases args; simp_all
  obtain ⟨rfl, rfl⟩ := trodVars_none hV
  have hMX : MxL W := mx_of_shape hsh
  obtain ⟨a0, len0, cap0, rfl⟩ := okWide_slice Tryd.underlying22 (hval 0 22 v0 rfl rfl)
  have k0 := h0
  have lt0 : ∀ x ∈ p0, x.block < W.heap.size := by obtain ⟨m, hm⟩ := k0; exact DataW.trod_lt m _ _ _ hm
  obtain ⟨z0, w0⟩ : ∃ zs, IsRow .u8 W a0 len0 cap0 zs := by
    obtain ⟨fuel, hf⟩ := h0
    rcases open_ints Tryd.underlying22 Tryd.underlying5 (by kernel_rfl) hf with ⟨hcs, _⟩ | ⟨x, l, c, zs, hcs, _, hl, hm, hz, _, hcell, hwz⟩
    · simp [Value.cells] at hcs
      obtain ⟨rfl, rfl, rfl⟩ := hcs
      exact ⟨[], .inl ⟨rfl, rfl, rfl, rfl⟩⟩
    · simp [Value.cells] at hcs
      obtain ⟨rfl, rfl, rfl⟩ := hcs
      exact ⟨zs, .inr ⟨_, rfl, hl, hm, by simpa using hz, hcell, hwz⟩⟩
  clear hA0 hval0
  refine (walk a0 len0 cap0 z0 W w0 hMX).mono fun e W' ⟨he, bel⟩ => ?_
  subst he
  exact ⟨_, rfl, _, _, _, [], _, [], hW', trodAll_mk1 (shut_bool Tryd.underlying4 _), (trodAll_cons_mk (Below.trod laidOut (by kernel_rfl) (of_decide_eq_true (by kernel_rfl)) k0 bel lt0) trodAll_mk0), rfl, bel.frame _, fun h => by cases h⟩

theorem over : Rows.fnPathsRow.holds Tryd.pinned (OpenSpec.ofChange Rows.fnPathsSpec) :=
  OpenClaim.holds_of_wide 3 Tryd.f3 rfl rfl rfl rfl rfl rfl rfl ⟨rfl, rfl, rfl, rfl, rfl⟩ rfl rfl rfl rfl rfl (by kernel_rfl) Tryd.func3 (by kernel_rfl)
    (of_decide_eq_true (by kernel_rfl)) (by unfold Func.isWrapper; first | (rw [if_pos (by decide +kernel)]; kernel_rfl) | (rw [if_neg (by decide +kernel)]; exact ⟨rfl, rfl⟩))
    (fun os started H enc _ => lifted os started H enc)

theorem proved : Rows.FnPathsCardSaid :=
  Claim7.holds_tied_plain_at .later [] [.data, .pinned] true (true, "c7d98252303ae37adb5f8e268de8b15491a5e8c34093048248d42d928592bf96") false
    over (fun _ h => by cases h) (by kernel_rfl) (fun _ h => by cases h) fnPaths_row_tie rfl ⟨rfl, rfl⟩ (by kernel_rfl) rfl
    (fun f fn hf hfn => by
      obtain rfl : f = 3 := Option.some.inj ((show Tryd.prog.funcNamed "loop.example/g00228/laws.FnPaths" = some 3 by kernel_rfl).symm.trans hf) |>.symm
      obtain rfl : fn = Tryd.f3 := (Option.some.inj (Tryd.func3.symm.trans hfn)).symm
      exact ⟨by kernel_rfl, fun j t ht => by
        have hall : Tryd.f3.params.all (fun t => Tryd.prog.wantsStandIn t == false) = true := by kernel_rfl
        obtain ⟨hj, rfl⟩ := Array.getElem?_eq_some_iff.1 ht
        exact beq_iff_eq.1 (Array.all_eq_true.1 hall j hj)⟩)
    (by kernel_rfl)
#print axioms proved
end Go.Proofs.YtmckchklebohmaeDoor.fnPaths
