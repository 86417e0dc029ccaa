/-
  Pieces come back from their text; what is read has just the bytes that it was read from.
-/
import Derived.Test.YtadimakdjndcdaeRows
import Derived.Test.YtadimakdjndcdaeDtBack
import Derived.Test.YtadimakdjndcdaeDrwDt
import Derived.Test.YtadimakdjndcdaeDtC
import Derived.Test.YtadimakdjndcdaeRdLC
import Derived.Test.YtadimakdjndcdaeRdLS
import Derived.Test.YtadimakdjndcdaeSamePc
import Derived.Test.YtadimakdjndcdaeBig
import Derived.Laws.Rows
import Derived.BigQuiet
import Derived.WalkKit
import Derived.ProofKit
import Derived.OpenShut
import Derived.ShutString
import Derived.ChangeOld
import Derived.Below
namespace Go.Proofs.Ytadimakdjndcdae.fnDeltaTexts
open Go.ChangeShapes Go.WideShapes Go.ChangeAt Go.RowKit
open Go.ChangeMaps (open_string shut_string)
set_option linter.unusedVariables false

theorem own : ownKnob Try.prog.godebug = none := by kernel_rfl
theorem laidOut : laidOutB Try.prog = true := by kernel_rfl

/-- WHAT THE WALK IS TOLD OF A SLICE OF INTEGERS THAT CAME IN: it is nil; or it leads to a row of 'cap' cells, the numbers 'zs' (the first 'len' are its elements, the rest its spare room), each fitting its kind. -/
def IsRow (k : IntKind) (w : World) (a : Option Addr) (len cap : Nat) (zs : List Int) : Prop :=
  (a = none ∧ len = 0 ∧ cap = 0 ∧ zs = []) ∨
  ∃ x, a = some x ∧ len ≤ cap ∧ cap ≤ maxLen ∧ zs.length = cap ∧ (∀ i, i < zs.length → w.cell? (x.add i) = some (.int k (zs.getD i 0))) ∧ ∀ n ∈ zs, (Lit.int k n).wf = true

set_option linter.unusedSimpArgs false
set_option linter.unusedVariables false

set_option maxRecDepth 100000 in
set_option maxHeartbeats 1000000 in
theorem walk (a0 : Option Addr) (len0 cap0 : Nat) (z0 : List Int) (w : World) (w0 : IsRow .u8 w a0 len0 cap0 z0) :
    Calls Try.prog 4 #[.slice a0 len0 cap0] w fun e w' => e = .returned (.bool true) ∧ Below w.heap.size w w' := by
  by_cases hbig : 1048576 < len0
  · go_enter Try.func4, Try.ntmps4
    go_wp2_with fail
    refine (big_yes a0 len0 cap0 _ hbig).mono ?_
    rintro e w1 ⟨rfl, rfl⟩
    go_wp2_with fail
    go_ret
    exact ⟨rfl, Below.refl _ _⟩
  · have hS := src_of w0 (by omega)
    clear w0
    go_enter Try.func4, Try.ntmps4
    go_wp2_with fail
    refine (big_no a0 len0 cap0 _ hbig).mono ?_
    rintro e w1 ⟨rfl, hw1⟩
    subst w1
    go_wp2_with fail
    refine (drawDeltaText hS (Below.refl _ _)).mono ?_
    rintro e w2 ⟨⟨v, L, hL, hd, rfl, ho⟩, hb2⟩
    clear hbig
    have hF := pcF_leD L hL hd
    have HA := hid (own3_arg ho)
    have HW2 := hid hb2
    have HDT := hid (fun w h => dt_any v L.length (pcF L) w hF h)
    have HSD := hid (fun w h => sdt_any v L.length (pcF L) w hF h)
    have HPK := hid (fun w h => pcs_any v L.length (pcF L) 4000 w hF h)
    have HSM : Hid (∀ va w, PcArg w va L.length (pcF L) → PcArg w v L.length (pcF L) → Calls Try.prog 9 #[va, v] w fun e w' => e = .returned (.bool true) ∧ Below w.heap.size w w') := fun va w h1 h2 => sameP_any va v L.length (pcF L) w (by omega) h1 h2
    have hss : (dtV (pcF L) L.length).size ≤ 100000 := dtV_size hF (fun i hi => by
      have e : pcF L i = L[i] := by unfold pcF; simp [hi]
      rw [e]
      have := hd _ (List.getElem_mem hi)
      omega) (by omega)
    clear ho hd hb2
    by_cases hp : pcR (pcF L) L.length 4000
    · have hrd : rdD (dtV (pcF L) L.length) = some L := by rw [dtV_yes hp]; exact rdD_put L hp
      have HR := hid (fun w => rdd_any (dtV (pcF L) L.length) w (by omega))
      rw [hrd] at HR
      rw [pcB_yes hp] at HPK
      clear hp hrd hF
      generalize dtV (pcF L) L.length = s at HDT HSD HR hss
      go_wp2_with fail
      refine (HDT.out _ HA.out).mono ?_
      rintro e w3 ⟨rfl, hb3⟩
      have HA3 := hid (HA.out.below hb3)
      have HW3 := hid (bl3 HW2.out hb3 HW2.out.size)
      clear HA hb3 HW2
      go_wp2_with fail
      refine (HR.out _).mono ?_
      rintro e w4 ⟨⟨v4, rfl, ho4⟩, hb4⟩
      have ho4' : w4.ownsRow w3.heap.size 43 3 v4 L.length (pcC L) := ho4
      have HM4 := hid (own3_arg ho4')
      have HA4 := hid (HA3.out.below hb4)
      have HW4 := hid (bl3 HW3.out hb4 HW3.out.size)
      clear HA3 hb4 HW3 ho4 ho4'
      have hi : (some L : Option (List PcI)).isSome = true := rfl
      rw [hi]
      go_wp2_with fail
      refine (HSD.out _ HA4.out).mono ?_
      rintro e w5 ⟨rfl, hb5⟩
      have HM5 := hid (HM4.out.below hb5)
      have HA5 := hid (HA4.out.below hb5)
      have HW5 := hid (bl3 HW4.out hb5 HW4.out.size)
      clear HA4 HM4 hb5 HW4
      go_wp2_with fail
      refine (HPK.out _ HA5.out).mono ?_
      rintro e w6 ⟨rfl, hb6⟩
      have HM6 := hid (HM5.out.below hb6)
      have HA6 := hid (HA5.out.below hb6)
      have HW6 := hid (bl3 HW5.out hb6 HW5.out.size)
      clear HA5 HM5 hb6 HW5
      go_wp2_with fail
      refine (HSM.out _ _ HM6.out HA6.out).mono ?_
      rintro e w7 ⟨rfl, hb7⟩
      have HW := hid (bl3 HW6.out hb7 HW6.out.size)
      clear hb7 HW6 HM6 HA6 HDT HSD HPK HSM HR
      go_wp2_with fail
      refine (drawReadDelta hS HW.out).mono ?_
      rintro e w7 ⟨⟨t, ht, rfl⟩, hb7⟩
      have HW7 := hid hb7
      clear hb7 HW
      have HRD := hid (fun w => rdd_any t w (by omega))
      have HSR := hid (fun w => srdd_any t w (by omega))
      have HBK : Hid (∀ L, rdD t = some L → pcR (pcF L) L.length 4000 ∧ dtB (pcF L) L.length L.length = t) := fun L h => rdD_back h
      cases hx : rdD t with
      | none =>
        rw [hx] at HRD HSR
        go_wp2_with fail
        refine (HRD.out _).mono ?_
        rintro e w8 ⟨⟨v8, rfl, ho8⟩, hb8⟩
        have HW8 := hid (bl3 HW7.out hb8 HW7.out.size)
        clear hb8 HW7 ho8
        go_wp2_with fail
        refine (HSR.out _).mono ?_
        rintro e w9 ⟨⟨v9, rfl, ho9⟩, hb9⟩
        have HW9 := hid (bl3 HW8.out hb9 HW8.out.size)
        clear hb9 HW8 ho9
        have hi : (none : Option (List PcI)).isSome = false := rfl
        rw [hi]
        go_wp2_with fail
        go_ret
        exact ⟨rfl, HW9.out⟩
      | some M =>
        obtain ⟨hm1, hm2⟩ := HBK.out M hx
        rw [hx] at HRD HSR
        have hFM : PcLe (pcF M) M.length := ⟨by have := hm1.2.2.1; omega, fun i hi => by have := pcR_data hm1 hi; omega⟩
        have HTX := hid (fun v w h => dt_any v M.length (pcF M) w hFM h)
        rw [dtV_yes hm1, hm2] at HTX
        clear hx hm1 hm2 hFM HBK
        go_wp2_with fail
        refine (HRD.out _).mono ?_
        rintro e w8 ⟨⟨v8, rfl, ho8⟩, hb8⟩
        have HW8 := hid (bl3 HW7.out hb8 HW7.out.size)
        have ho8' : w8.ownsRow w7.heap.size 43 3 v8 M.length (pcC M) := ho8
        have HA8 := hid (own3_arg ho8')
        clear hb8 HW7 ho8 ho8'
        go_wp2_with fail
        refine (HSR.out _).mono ?_
        rintro e w9 ⟨⟨v9, rfl, ho9⟩, hb9⟩
        have HW9 := hid (bl3 HW8.out hb9 HW8.out.size)
        have HA9 := hid (HA8.out.below hb9)
        clear hb9 HW8 ho9 HA8
        have hi : (some M : Option (List PcI)).isSome = true := rfl
        rw [hi]
        go_wp2_with fail
        refine (HTX.out _ _ HA9.out).mono ?_
        rintro e w10 ⟨rfl, hb10⟩
        have HW10 := hid (bl3 HW9.out hb10 HW9.out.size)
        clear hb10 HW9
        go_wp2_with fail
        go_ret
        exact ⟨rfl, HW10.out⟩
    · have hdv := dtV_no hp
      rw [hdv] at HDT HSD
      have HR := hid (fun w => rdd_any ⟨#[]⟩ w (Nat.zero_le _))
      rw [rdD_none0] at HR
      rw [pcB_no hp] at HPK
      clear hp hdv hF HSM
      go_wp2_with fail
      refine (HDT.out _ HA.out).mono ?_
      rintro e w3 ⟨rfl, hb3⟩
      have HA3 := hid (HA.out.below hb3)
      have HW3 := hid (bl3 HW2.out hb3 HW2.out.size)
      clear HA hb3 HW2
      go_wp2_with fail
      refine (HR.out _).mono ?_
      rintro e w4 ⟨⟨v4, rfl, ho4⟩, hb4⟩
      have HA4 := hid (HA3.out.below hb4)
      have HW4 := hid (bl3 HW3.out hb4 HW3.out.size)
      clear HA3 hb4 HW3 ho4
      have hi : (none : Option (List PcI)).isSome = false := rfl
      rw [hi]
      go_wp2_with fail
      refine (HSD.out _ HA4.out).mono ?_
      rintro e w5 ⟨rfl, hb5⟩
      have HA5 := hid (HA4.out.below hb5)
      have HW5 := hid (bl3 HW4.out hb5 HW4.out.size)
      clear HA4 hb5 HW4
      go_wp2_with fail
      refine (HPK.out _ HA5.out).mono ?_
      rintro e w6 ⟨rfl, hb6⟩
      have HW := hid (bl3 HW5.out hb6 HW5.out.size)
      clear HA5 hb6 HW5 HDT HSD HPK HR
      go_wp2_with fail
      refine (drawReadDelta hS HW.out).mono ?_
      rintro e w7 ⟨⟨t, ht, rfl⟩, hb7⟩
      have HW7 := hid hb7
      clear hb7 HW
      have HRD := hid (fun w => rdd_any t w (by omega))
      have HSR := hid (fun w => srdd_any t w (by omega))
      have HBK : Hid (∀ L, rdD t = some L → pcR (pcF L) L.length 4000 ∧ dtB (pcF L) L.length L.length = t) := fun L h => rdD_back h
      cases hx : rdD t with
      | none =>
        rw [hx] at HRD HSR
        go_wp2_with fail
        refine (HRD.out _).mono ?_
        rintro e w8 ⟨⟨v8, rfl, ho8⟩, hb8⟩
        have HW8 := hid (bl3 HW7.out hb8 HW7.out.size)
        clear hb8 HW7 ho8
        go_wp2_with fail
        refine (HSR.out _).mono ?_
        rintro e w9 ⟨⟨v9, rfl, ho9⟩, hb9⟩
        have HW9 := hid (bl3 HW8.out hb9 HW8.out.size)
        clear hb9 HW8 ho9
        have hi : (none : Option (List PcI)).isSome = false := rfl
        rw [hi]
        go_wp2_with fail
        go_ret
        exact ⟨rfl, HW9.out⟩
      | some M =>
        obtain ⟨hm1, hm2⟩ := HBK.out M hx
        rw [hx] at HRD HSR
        have hFM : PcLe (pcF M) M.length := ⟨by have := hm1.2.2.1; omega, fun i hi => by have := pcR_data hm1 hi; omega⟩
        have HTX := hid (fun v w h => dt_any v M.length (pcF M) w hFM h)
        rw [dtV_yes hm1, hm2] at HTX
        clear hx hm1 hm2 hFM HBK
        go_wp2_with fail
        refine (HRD.out _).mono ?_
        rintro e w8 ⟨⟨v8, rfl, ho8⟩, hb8⟩
        have HW8 := hid (bl3 HW7.out hb8 HW7.out.size)
        have ho8' : w8.ownsRow w7.heap.size 43 3 v8 M.length (pcC M) := ho8
        have HA8 := hid (own3_arg ho8')
        clear hb8 HW7 ho8 ho8'
        go_wp2_with fail
        refine (HSR.out _).mono ?_
        rintro e w9 ⟨⟨v9, rfl, ho9⟩, hb9⟩
        have HW9 := hid (bl3 HW8.out hb9 HW8.out.size)
        have HA9 := hid (HA8.out.below hb9)
        clear hb9 HW8 ho9 HA8
        have hi : (some M : Option (List PcI)).isSome = true := rfl
        rw [hi]
        go_wp2_with fail
        refine (HTX.out _ _ HA9.out).mono ?_
        rintro e w10 ⟨rfl, hb10⟩
        have HW10 := hid (bl3 HW9.out hb10 HW9.out.size)
        clear hb10 HW9
        go_wp2_with fail
        go_ret
        exact ⟨rfl, HW10.out⟩

set_option maxRecDepth 100000 in
theorem lifted (os : Os) (started : os.Started) (H : Type) (enc : TypeId × Value → H) :
    ReturnsInHanded {} Try.checked os 4 .any (Rows.fnDeltaTextsSpec.pre6 enc Try.prog Try.f4 Rows.fnDeltaTextsRow.domain false) (Rows.fnDeltaTextsSpec.post enc Try.prog Try.f4 false true false false) := by
  refine returnsInHanded_of_change (C := Try.checked) own started (by kernel_rfl) Try.func4
    (ChangeSpec.witness6 (enc := enc) (C := Try.checked) false ⟨#[], #[.slice none 0 0], []⟩ 8 (by kernel_rfl) (by kernel_rfl) (by kernel_rfl) (by kernel_rfl)) ?_
  intro W base args ds gs before hval0 hW hcnd _
  have hval : ∀ (j : Nat) t v, Try.f4.params[j]? = some t → args[j]? = some v → Value.okWide Try.prog W .any base t v := hval0
  have hW' := hW
  obtain ⟨p, q, hA0, hV, rfl, hfz, hnd⟩ := hW
  have hA : DataW.TrodAll enc Try.prog W 0 (fun _ => true) true Try.f4.params.toList args.toList ds p := hA0
  rw [Try.params4] at hA hval
  obtain ⟨v0, vs0, d0, ds0, p0, q0, hargs, rfl, rfl, h0, r0⟩ := trodAll_cons hA
  obtain ⟨rfl, rfl, rfl⟩ := trodAll_nil r0
  obtain rfl : args = #[v0] := by cases args; simp_all
  obtain ⟨rfl, rfl⟩ := trodVars_none hV
  obtain ⟨a0, len0, cap0, rfl⟩ := okWide_slice Try.underlying22 (hval 0 22 v0 rfl rfl)
  have k0 := h0
  have lt0 : ∀ x ∈ p0, x.block < W.heap.size := by obtain ⟨m, hm⟩ := k0; exact DataW.trod_lt m _ _ _ hm
  obtain ⟨z0, w0⟩ : ∃ zs, IsRow .u8 W a0 len0 cap0 zs := by
    obtain ⟨fuel, hf⟩ := h0
    rcases open_ints Try.underlying22 Try.underlying5 (by kernel_rfl) hf with ⟨hcs, _⟩ | ⟨x, l, c, zs, hcs, _, hl, hm, hz, _, hcell, hwz⟩
    · simp [Value.cells] at hcs
      obtain ⟨rfl, rfl, rfl⟩ := hcs
      exact ⟨[], .inl ⟨rfl, rfl, rfl, rfl⟩⟩
    · simp [Value.cells] at hcs
      obtain ⟨rfl, rfl, rfl⟩ := hcs
      exact ⟨zs, .inr ⟨_, rfl, hl, hm, by simpa using hz, hcell, hwz⟩⟩
  clear hA0 hval0
  refine (walk a0 len0 cap0 z0 W w0).mono fun e W' ⟨he, bel⟩ => ?_
  subst he
  exact ⟨_, rfl, _, _, _, [], _, [], hW', trodAll_mk1 (shut_bool Try.underlying4 _), (trodAll_cons_mk (Below.trod laidOut (by kernel_rfl) (of_decide_eq_true (by kernel_rfl)) k0 bel lt0) trodAll_mk0), rfl, bel.frame _, fun h => by cases h⟩

theorem over : Rows.fnDeltaTextsRow.holds Try.pinned (OpenSpec.ofChange Rows.fnDeltaTextsSpec) :=
  OpenClaim.holds_of_wide 4 Try.f4 rfl rfl rfl rfl rfl rfl rfl ⟨rfl, rfl, rfl, rfl, rfl⟩ rfl rfl rfl rfl rfl (by kernel_rfl) Try.func4 (by kernel_rfl)
    (of_decide_eq_true (by kernel_rfl)) (by unfold Func.isWrapper; first | (rw [if_pos (by decide +kernel)]; kernel_rfl) | (rw [if_neg (by decide +kernel)]; exact ⟨rfl, rfl⟩))
    (fun os started H enc _ => lifted os started H enc)

theorem proved : Rows.FnDeltaTextsSaid := over
#print axioms proved
end Go.Proofs.Ytadimakdjndcdae.fnDeltaTexts
