/-
  A tree is read back from its text, and what is read has just its text.
-/
import Derived.Test.YtadimakdjndcdaeDoorRows
import Derived.Test.YtadimakdjndcdaeDoorTie
import Derived.Test.YtadimakdjndcdaeDoorCards
import Derived.Test.YtadimakdjndcdaeDoorCardKitP
import Derived.SevenTiedAt
import Derived.Stop.Joined
import Derived.Lay
import Derived.Test.YtadimakdjndcdaeDoorTxBack
import Derived.Test.YtadimakdjndcdaeDoorDrwTt
import Derived.Test.YtadimakdjndcdaeDoorTxC
import Derived.Test.YtadimakdjndcdaeDoorRtLC
import Derived.Test.YtadimakdjndcdaeDoorRtLS
import Derived.Test.YtadimakdjndcdaeDoorSameNd
import Derived.Test.YtadimakdjndcdaeDoorBig
import Derived.Laws.Rows
import Derived.BigQuiet
import Derived.WalkKit
import Derived.ProofKit
import Derived.OpenShut
import Derived.ShutString
import Derived.ChangeOld
import Derived.Below
namespace Go.Proofs.YtadimakdjndcdaeDoor.fnTreeTexts
open Go.ChangeShapes Go.WideShapes Go.ChangeAt Go.RowKit
open Go.ChangeMaps (open_string shut_string)
set_option linter.unusedVariables false

theorem own : ownKnob Tryd.prog.godebug = none := by kernel_rfl
theorem laidOut : laidOutB Tryd.prog = true := by kernel_rfl

/-- what the walk is told of a slice of integers that came in -/
def IsRow (k : IntKind) (w : World) (a : Option Addr) (len cap : Nat) (zs : List Int) : Prop :=
  (a = none ∧ len = 0 ∧ cap = 0 ∧ zs = []) ∨
  ∃ x, a = some x ∧ len ≤ cap ∧ cap ≤ maxLen ∧ zs.length = cap ∧ (∀ i, i < zs.length → w.cell? (x.add i) = some (.int k (zs.getD i 0))) ∧ ∀ n ∈ zs, (Lit.int k n).wf = true

set_option linter.unusedSimpArgs false
set_option linter.unusedVariables false

set_option maxRecDepth 100000 in
set_option maxHeartbeats 4000000 in
theorem walk (a0 : Option Addr) (len0 cap0 : Nat) (z0 : List Int) (w : World) (w0 : IsRow .u8 w a0 len0 cap0 z0) (hm : MxL w) :
    Calls Tryd.prog 4 #[.slice a0 len0 cap0] w fun e w' => e = .returned (.bool true) ∧ Below w.heap.size w w' := by
  by_cases hbig : 1048576 < len0
  · go_enter Tryd.func4, Tryd.ntmps4
    go_wp2_with fail
    refine (big_yes a0 len0 cap0 _ hbig).mono ?_
    rintro e w1 ⟨rfl, rfl⟩
    go_wp2_with fail
    go_ret
    exact ⟨rfl, Below.refl _ _⟩
  · have hS := src_of w0 (by omega)
    have HMX : Hid (∀ w', Below w.heap.size w w' → MxL w') := fun w' h => hm.below h hm.lt
    clear w0 hm
    go_enter Tryd.func4, Tryd.ntmps4
    go_wp2_with fail
    refine (big_no a0 len0 cap0 _ hbig).mono ?_
    rintro e w1 ⟨rfl, hw1⟩
    subst w1
    go_wp2_with fail
    refine (drawTreeText hS (Below.refl _ _)).mono ?_
    rintro e w2 ⟨⟨v, L, hL, hd, rfl, ho⟩, hb2⟩
    clear hbig
    have hF := ndF_leD L hL hd
    have HA := hid (own4_arg ho)
    have HW2 := hid hb2
    have HDT := hid (fun w hm h => tx_any v L.length (ndF L) w hF hm h)
    have HSD := hid (fun w h => stx_any v L.length (ndF L) w hF h)
    have HPK := hid (fun w hm h => treeOk_any v L.length (ndF L) w hF hm h)
    have HSM : Hid (∀ va w, NdArg w va L.length (ndF L) → NdArg w v L.length (ndF L) → Calls Tryd.prog 20 #[va, v] w fun e w' => e = .returned (.bool true) ∧ Below w.heap.size w w') := fun va w h1 h2 => sameN_any va v L.length (ndF L) w (by omega) h1 h2
    have hss : (txV (ndF L) L.length).size ≤ 100000 := txV_size L hL hd
    have hsz := fun i (hi : i < L.length) => (ndF_sz L hd hi).1
    clear ho hd hb2
    by_cases hp : ndR (ndF L) L.length
    · have hrd : rtD (txV (ndF L) L.length) = some L := by rw [txV_yes hp, rtD_put (ndF L) L.length hp (fun i hi => by have := hsz i hi; omega), ndF_all]
      have HR := hid (fun w hm => rtd_any (txV (ndF L) L.length) w (by omega) hm)
      rw [hrd] at HR
      rw [ndB_yes hp] at HPK
      clear hp hrd hF hsz
      generalize txV (ndF L) L.length = s at HDT HSD HR hss
      go_wp2_with fail
      refine (HDT.out _ (HMX.out _ HW2.out) HA.out).mono ?_
      rintro e w3 ⟨rfl, hb3⟩
      have HA3 := hid (HA.out.below hb3)
      have HW3 := hid (blNd HW2.out hb3 HW2.out.size)
      clear HA hb3 HW2
      go_wp2_with fail
      refine (HR.out _ (HMX.out _ HW3.out)).mono ?_
      rintro e w4 ⟨⟨v4, rfl, ho4⟩, hb4⟩
      have ho4' : w4.ownsRow w3.heap.size 38 4 v4 L.length (ndC L) := ho4
      have HM4 := hid (own4_arg ho4')
      have HA4 := hid (HA3.out.below hb4)
      have HW4 := hid (blNd HW3.out hb4 HW3.out.size)
      clear HA3 hb4 HW3 ho4 ho4'
      have hi : (some L : Option (List NdI)).isSome = true := rfl
      rw [hi]
      go_wp2_with fail
      refine (HSD.out _ HA4.out).mono ?_
      rintro e w5 ⟨rfl, hb5⟩
      have HM5 := hid (HM4.out.below hb5)
      have HA5 := hid (HA4.out.below hb5)
      have HW5 := hid (blNd HW4.out hb5 HW4.out.size)
      clear HA4 HM4 hb5 HW4
      go_wp2_with fail
      refine (HPK.out _ (HMX.out _ HW5.out) HA5.out).mono ?_
      rintro e w6 ⟨rfl, hb6⟩
      have HM6 := hid (HM5.out.below hb6)
      have HA6 := hid (HA5.out.below hb6)
      have HW6 := hid (blNd HW5.out hb6 HW5.out.size)
      clear HA5 HM5 hb6 HW5
      go_wp2_with fail
      refine (HSM.out _ _ HM6.out HA6.out).mono ?_
      rintro e w7 ⟨rfl, hb7⟩
      have HW := hid (blNd HW6.out hb7 HW6.out.size)
      clear hb7 HW6 HM6 HA6 HDT HSD HPK HSM HR
      go_wp2_with fail
      refine (drawReadTree hS HW.out).mono ?_
      rintro e w7 ⟨⟨t, ht, rfl⟩, hb7⟩
      have HW7 := hid hb7
      clear hb7 HW
      have HRD := hid (fun w hm => rtd_any t w (by omega) hm)
      have HSR := hid (fun w => srtd_any t w (by omega))
      have HBK : Hid (∀ L, rtD t = some L → ndR (ndF L) L.length ∧ txB (ndF L) L.length L.length = t) := fun L h => rtD_back h
      cases hx : rtD t with
      | none =>
        rw [hx] at HRD HSR
        go_wp2_with fail
        refine (HRD.out _ (HMX.out _ HW7.out)).mono ?_
        rintro e w8 ⟨⟨v8, rfl, ho8⟩, hb8⟩
        have HW8 := hid (blNd HW7.out hb8 HW7.out.size)
        clear hb8 HW7 ho8
        go_wp2_with fail
        refine (HSR.out _).mono ?_
        rintro e w9 ⟨⟨v9, rfl, ho9⟩, hb9⟩
        have HW9 := hid (blNd HW8.out hb9 HW8.out.size)
        clear hb9 HW8 ho9
        have hi : (none : Option (List NdI)).isSome = false := rfl
        rw [hi]
        go_wp2_with fail
        go_ret
        exact ⟨rfl, HW9.out⟩
      | some M =>
        obtain ⟨hm1, hm2⟩ := HBK.out M hx
        rw [hx] at HRD HSR
        have hFM : NdLe (ndF M) M.length := rtD_le (by omega) hx
        have HTX := hid (fun v w hm h => tx_any v M.length (ndF M) w hFM hm h)
        rw [txV_yes hm1, hm2] at HTX
        clear hx hm1 hm2 hFM HBK
        go_wp2_with fail
        refine (HRD.out _ (HMX.out _ HW7.out)).mono ?_
        rintro e w8 ⟨⟨v8, rfl, ho8⟩, hb8⟩
        have HW8 := hid (blNd HW7.out hb8 HW7.out.size)
        have ho8' : w8.ownsRow w7.heap.size 38 4 v8 M.length (ndC M) := ho8
        have HA8 := hid (own4_arg ho8')
        clear hb8 HW7 ho8 ho8'
        go_wp2_with fail
        refine (HSR.out _).mono ?_
        rintro e w9 ⟨⟨v9, rfl, ho9⟩, hb9⟩
        have HW9 := hid (blNd HW8.out hb9 HW8.out.size)
        have HA9 := hid (HA8.out.below hb9)
        clear hb9 HW8 ho9 HA8
        have hi : (some M : Option (List NdI)).isSome = true := rfl
        rw [hi]
        go_wp2_with fail
        refine (HTX.out _ _ (HMX.out _ HW9.out) HA9.out).mono ?_
        rintro e w10 ⟨rfl, hb10⟩
        have HW10 := hid (blNd HW9.out hb10 HW9.out.size)
        clear hb10 HW9
        go_wp2_with fail
        go_ret
        exact ⟨rfl, HW10.out⟩
    · have hdv := txV_no hp
      rw [hdv] at HDT HSD
      have HR := hid (fun w hm => rtd_any ⟨#[]⟩ w (Nat.zero_le _) hm)
      rw [rtD_none0] at HR
      rw [ndB_no hp] at HPK
      clear hp hdv hF HSM hsz
      go_wp2_with fail
      refine (HDT.out _ (HMX.out _ HW2.out) HA.out).mono ?_
      rintro e w3 ⟨rfl, hb3⟩
      have HA3 := hid (HA.out.below hb3)
      have HW3 := hid (blNd HW2.out hb3 HW2.out.size)
      clear HA hb3 HW2
      go_wp2_with fail
      refine (HR.out _ (HMX.out _ HW3.out)).mono ?_
      rintro e w4 ⟨⟨v4, rfl, ho4⟩, hb4⟩
      have HA4 := hid (HA3.out.below hb4)
      have HW4 := hid (blNd HW3.out hb4 HW3.out.size)
      clear HA3 hb4 HW3 ho4
      have hi : (none : Option (List NdI)).isSome = false := rfl
      rw [hi]
      go_wp2_with fail
      refine (HSD.out _ HA4.out).mono ?_
      rintro e w5 ⟨rfl, hb5⟩
      have HA5 := hid (HA4.out.below hb5)
      have HW5 := hid (blNd HW4.out hb5 HW4.out.size)
      clear HA4 hb5 HW4
      go_wp2_with fail
      refine (HPK.out _ (HMX.out _ HW5.out) HA5.out).mono ?_
      rintro e w6 ⟨rfl, hb6⟩
      have HW := hid (blNd HW5.out hb6 HW5.out.size)
      clear HA5 hb6 HW5 HDT HSD HPK HR
      go_wp2_with fail
      refine (drawReadTree hS HW.out).mono ?_
      rintro e w7 ⟨⟨t, ht, rfl⟩, hb7⟩
      have HW7 := hid hb7
      clear hb7 HW
      have HRD := hid (fun w hm => rtd_any t w (by omega) hm)
      have HSR := hid (fun w => srtd_any t w (by omega))
      have HBK : Hid (∀ L, rtD t = some L → ndR (ndF L) L.length ∧ txB (ndF L) L.length L.length = t) := fun L h => rtD_back h
      cases hx : rtD t with
      | none =>
        rw [hx] at HRD HSR
        go_wp2_with fail
        refine (HRD.out _ (HMX.out _ HW7.out)).mono ?_
        rintro e w8 ⟨⟨v8, rfl, ho8⟩, hb8⟩
        have HW8 := hid (blNd HW7.out hb8 HW7.out.size)
        clear hb8 HW7 ho8
        go_wp2_with fail
        refine (HSR.out _).mono ?_
        rintro e w9 ⟨⟨v9, rfl, ho9⟩, hb9⟩
        have HW9 := hid (blNd HW8.out hb9 HW8.out.size)
        clear hb9 HW8 ho9
        have hi : (none : Option (List NdI)).isSome = false := rfl
        rw [hi]
        go_wp2_with fail
        go_ret
        exact ⟨rfl, HW9.out⟩
      | some M =>
        obtain ⟨hm1, hm2⟩ := HBK.out M hx
        rw [hx] at HRD HSR
        have hFM : NdLe (ndF M) M.length := rtD_le (by omega) hx
        have HTX := hid (fun v w hm h => tx_any v M.length (ndF M) w hFM hm h)
        rw [txV_yes hm1, hm2] at HTX
        clear hx hm1 hm2 hFM HBK
        go_wp2_with fail
        refine (HRD.out _ (HMX.out _ HW7.out)).mono ?_
        rintro e w8 ⟨⟨v8, rfl, ho8⟩, hb8⟩
        have HW8 := hid (blNd HW7.out hb8 HW7.out.size)
        have ho8' : w8.ownsRow w7.heap.size 38 4 v8 M.length (ndC M) := ho8
        have HA8 := hid (own4_arg ho8')
        clear hb8 HW7 ho8 ho8'
        go_wp2_with fail
        refine (HSR.out _).mono ?_
        rintro e w9 ⟨⟨v9, rfl, ho9⟩, hb9⟩
        have HW9 := hid (blNd HW8.out hb9 HW8.out.size)
        have HA9 := hid (HA8.out.below hb9)
        clear hb9 HW8 ho9 HA8
        have hi : (some M : Option (List NdI)).isSome = true := rfl
        rw [hi]
        go_wp2_with fail
        refine (HTX.out _ _ (HMX.out _ HW9.out) HA9.out).mono ?_
        rintro e w10 ⟨rfl, hb10⟩
        have HW10 := hid (blNd HW9.out hb10 HW9.out.size)
        clear hb10 HW9
        go_wp2_with fail
        go_ret
        exact ⟨rfl, HW10.out⟩

set_option maxRecDepth 100000 in
theorem lifted (os : Os) (started : os.Started) (H : Type) (enc : TypeId × Value → H) :
    ReturnsInHanded {} Tryd.checked os 4 .any (fun w args => (Rows.fnTreeTextsSpec.pre enc Tryd.prog Tryd.f4 [] false w args ∧ laidMetH Tryd.prog [("unicode/utf8.acceptRanges", Rows.laid_unicode_utf8_acceptRanges), ("unicode/utf8.first", Rows.laid_unicode_utf8_first)] w) ∧ sizedMet enc Tryd.prog Tryd.f4 (OpenSpec.ofChange Rows.fnTreeTextsSpec) false w args) (Rows.fnTreeTextsSpec.post enc Tryd.prog Tryd.f4 false true false false) := by
  refine handed_laid (C := Tryd.checked) (X := fun w => laidMetH Tryd.prog [("unicode/utf8.acceptRanges", Rows.laid_unicode_utf8_acceptRanges), ("unicode/utf8.first", Rows.laid_unicode_utf8_first)] w) (fun _ _ hh h => h.of_heap hh) own started (by kernel_rfl) Tryd.func4
    (ChangeSpec.witness_shaped (enc := enc) (C := Tryd.checked) (os := os) (X := fun w _ => laidMetH Tryd.prog [("unicode/utf8.acceptRanges", Rows.laid_unicode_utf8_acceptRanges), ("unicode/utf8.first", Rows.laid_unicode_utf8_first)] w) false (World.laidAll Tryd.prog os [("unicode/utf8.acceptRanges", Rows.laid_unicode_utf8_acceptRanges), ("unicode/utf8.first", Rows.laid_unicode_utf8_first)]) #[.slice none 0 0] 8 (World.laidAll_os _ _ _) (World.shaped_of_ZipB (by kernel_rfl) (by kernel_rfl)) (by kernel_rfl) (by kernel_rfl) (by kernel_rfl) (by rw [MakeChecks.laidMetH_plain _ _ _ (by kernel_rfl)]; exact laidMet_laidAll _ (by kernel_rfl) (by kernel_rfl))) ?_
  intro W base args ds gs before hval0 hW hL hsh
  have hval : ∀ (j : Nat) t v, Tryd.f4.params[j]? = some t → args[j]? = some v → Value.okWide Tryd.prog W .any base t v := hval0
  have hW' := hW
  obtain ⟨p, q, hA0, hV, rfl, hfz, hnd⟩ := hW
  have hA : DataW.TrodAll enc Tryd.prog W 0 (fun _ => true) true Tryd.f4.params.toList args.toList ds p := hA0
  rw [Tryd.params4] at hA hval
  obtain ⟨v0, vs0, d0, ds0, p0, q0, hargs, rfl, rfl, h0, r0⟩ := trodAll_cons hA
  obtain ⟨rfl, rfl, rfl⟩ := trodAll_nil r0
  obtain rfl : args = #[v0] := by cases args; simp_all
  obtain ⟨rfl, rfl⟩ := trodVars_none hV
  have hMX : MxL W := mx_of_shape hsh
  obtain ⟨a0, len0, cap0, rfl⟩ := okWide_slice Tryd.underlying22 (hval 0 22 v0 rfl rfl)
  have k0 := h0
  have lt0 : ∀ x ∈ p0, x.block < W.heap.size := by obtain ⟨m, hm⟩ := k0; exact DataW.trod_lt m _ _ _ hm
  obtain ⟨z0, w0⟩ : ∃ zs, IsRow .u8 W a0 len0 cap0 zs := by
    obtain ⟨fuel, hf⟩ := h0
    rcases open_ints Tryd.underlying22 Tryd.underlying5 (by kernel_rfl) hf with ⟨hcs, _⟩ | ⟨x, l, c, zs, hcs, _, hl, hm, hz, _, hcell, hwz⟩
    · simp [Value.cells] at hcs
      obtain ⟨rfl, rfl, rfl⟩ := hcs
      exact ⟨[], .inl ⟨rfl, rfl, rfl, rfl⟩⟩
    · simp [Value.cells] at hcs
      obtain ⟨rfl, rfl, rfl⟩ := hcs
      exact ⟨zs, .inr ⟨_, rfl, hl, hm, by simpa using hz, hcell, hwz⟩⟩
  clear hA0 hval0
  refine (walk a0 len0 cap0 z0 W w0 hMX).mono fun e W' ⟨he, bel⟩ => ?_
  subst he
  exact ⟨_, rfl, _, _, _, [], _, [], hW', trodAll_mk1 (shut_bool Tryd.underlying4 _), (trodAll_cons_mk (Below.trod laidOut (by kernel_rfl) (of_decide_eq_true (by kernel_rfl)) k0 bel lt0) trodAll_mk0), rfl, bel.frame _, fun h => by cases h⟩

theorem over : Rows.fnTreeTextsRow.holds Tryd.pinned (OpenSpec.ofChange Rows.fnTreeTextsSpec) :=
  OpenClaim.holds_of_wide 4 Tryd.f4 rfl rfl rfl rfl rfl rfl rfl ⟨rfl, rfl, rfl, rfl, rfl⟩ rfl rfl rfl rfl rfl (by kernel_rfl) Tryd.func4 (by kernel_rfl)
    (of_decide_eq_true (by kernel_rfl)) (by unfold Func.isWrapper; first | (rw [if_pos (by decide +kernel)]; kernel_rfl) | (rw [if_neg (by decide +kernel)]; exact ⟨rfl, rfl⟩))
    (fun os started H enc _ => lifted os started H enc)

theorem proved : Rows.FnTreeTextsCardSaid :=
  Claim7.holds_tied_plain_at .later [] [.data, .pinned] true (true, "c7d98252303ae37adb5f8e268de8b15491a5e8c34093048248d42d928592bf96") false
    over (fun _ h => by cases h) (by kernel_rfl) (fun _ h => by cases h) fnTreeTexts_row_tie rfl ⟨rfl, rfl⟩ (by kernel_rfl) rfl
    (fun f fn hf hfn => by
      obtain rfl : f = 4 := Option.some.inj ((show Tryd.prog.funcNamed "loop.example/g00228/laws.FnTreeTexts" = some 4 by kernel_rfl).symm.trans hf) |>.symm
      obtain rfl : fn = Tryd.f4 := (Option.some.inj (Tryd.func4.symm.trans hfn)).symm
      exact ⟨by kernel_rfl, fun j t ht => by
        have hall : Tryd.f4.params.all (fun t => Tryd.prog.wantsStandIn t == false) = true := by kernel_rfl
        obtain ⟨hj, rfl⟩ := Array.getElem?_eq_some_iff.1 ht
        exact beq_iff_eq.1 (Array.all_eq_true.1 hall j hj)⟩)
    (by kernel_rfl)
#print axioms proved
end Go.Proofs.YtadimakdjndcdaeDoor.fnTreeTexts
