/-
  A block is read back; each member is found by its name, a name that none has is not.
-/
import Derived.Test.YtbkjcngehhdchaaRows
import Derived.Test.YtbkjcngehhdchaaSoBk
import Derived.Test.YtbkjcngehhdchaaDrwMb
import Derived.Test.YtbkjcngehhdchaaSameMb
import Derived.Test.YtbkjcngehhdchaaBig
import Derived.Laws.Rows
import Derived.BigQuiet
import Derived.WalkKit
import Derived.ProofKit
import Derived.OpenShut
import Derived.ShutString
import Derived.ChangeOld
import Derived.Below
namespace Go.Proofs.Ytbkjcngehhdchaa.fnSolid
open Go.ChangeShapes Go.WideShapes Go.ChangeAt Go.RowKit
open Go.ChangeMaps (open_string shut_string)
set_option linter.unusedVariables false

theorem own : ownKnob Try.prog.godebug = none := by kernel_rfl
theorem laidOut : laidOutB Try.prog = true := by kernel_rfl

/-- WHAT THE WALK IS TOLD OF A SLICE OF INTEGERS THAT CAME IN: it is nil; or it leads to a row of 'cap' cells, the numbers 'zs' (the first 'len' are its elements, the rest its spare room), each fitting its kind. -/
def IsRow (k : IntKind) (w : World) (a : Option Addr) (len cap : Nat) (zs : List Int) : Prop :=
  (a = none ∧ len = 0 ∧ cap = 0 ∧ zs = []) ∨
  ∃ x, a = some x ∧ len ≤ cap ∧ cap ≤ maxLen ∧ zs.length = cap ∧ (∀ i, i < zs.length → w.cell? (x.add i) = some (.int k (zs.getD i 0))) ∧ ∀ n ∈ zs, (Lit.int k n).wf = true

set_option linter.unusedSimpArgs false
set_option linter.unusedVariables false

set_option maxRecDepth 100000 in
set_option maxHeartbeats 1000000 in
theorem walk (a0 : Option Addr) (len0 cap0 : Nat) (z0 : List Int) (w : World) (w0 : IsRow .u8 w a0 len0 cap0 z0) :
    Calls Try.prog 6 #[.slice a0 len0 cap0] w fun e w' => e = .returned (.bool true) ∧ Below w.heap.size w w' := by
  by_cases hbig : 1048576 < len0
  · go_enter Try.func6, Try.ntmps6
    go_wp2_with fail
    refine (big_yes a0 len0 cap0 _ hbig).mono ?_
    rintro e w1 ⟨rfl, rfl⟩
    go_wp2_with fail
    go_ret
    exact ⟨rfl, Below.refl _ _⟩
  · have hS := src_of w0 (by omega)
    clear w0
    go_enter Try.func6, Try.ntmps6
    go_wp2_with fail
    refine (big_no a0 len0 cap0 _ hbig).mono ?_
    rintro e w1 ⟨rfl, hw1⟩
    subst w1
    go_wp2_with fail
    refine (drawSolidOf hS (Below.refl _ _)).mono ?_
    rintro e w2 ⟨⟨v, L, hL, hd, hnb, rfl, ho⟩, hb2⟩
    have hF := mbF_leD L hL hd
    have HA := hid (own2_arg ho)
    have HW2 := hid hb2
    have HSO : Hid (∀ w, MbArg w v L.length (mbF L) → Calls Try.prog 11 #[v] w fun e w' => e = .returned (.tuple #[.string (soT (mbF L) L.length), .bool (mbB (mbF L) L.length)]) ∧ Below w.heap.size w w') := fun w h => so_any v L.length (mbF L) w hF h
    have HSS : Hid (∀ w, MbArg w v L.length (mbF L) → Calls Try.prog 9 #[v] w fun e w' => e = .returned (.tuple #[.string (soT (mbF L) L.length), .bool (mbB (mbF L) L.length)]) ∧ Below w.heap.size w w') := fun w h => sso_any v L.length (mbF L) w hF h
    have HMO : Hid (∀ w, MbArg w v L.length (mbF L) → Calls Try.prog 21 #[v] w fun e w' => e = .returned (.bool (mbB (mbF L) L.length)) ∧ Below w.heap.size w w') := fun w h => mbs_any v L.length (mbF L) w hF h
    have hts : (soT (mbF L) L.length).size ≤ 1000000 := soT_size hF
    have hsz := fun i (hi : i < L.length) => (mbF_sz L hd hi).1
    have hno : ∀ i, i < L.length → (mbF L i).a ≠ nbT := fun i hi => by rw [mbF_at hi]; exact hnb _ (List.getElem_mem hi)
    clear ho hd hb2 hnb hbig
    by_cases hp : mbR (mbF L) L.length
    · have hrd : rdS (soT (mbF L) L.length) = some L := by rw [soT_yes hp]; exact rdS_put L hp
      have HR := hid (fun w => rs_any (soT (mbF L) L.length) w (by omega))
      rw [hrd] at HR
      rw [mbB_yes hp] at HSO HSS HMO
      have HXT : Hid (∀ i, i < L.length → ∀ w, Calls Try.prog 18 #[.string (soT (mbF L) L.length), .string (mbF L i).a] w fun e w' => e = .returned (.tuple #[.string (mbF L i).d, .bool true]) ∧ Below w.heap.size w w') := fun i hi w => by
        have h := xt_any (soT (mbF L) L.length) (mbF L i).a w (by omega) (by have := hsz i hi; omega)
        rw [xtD_yes hrd hp.2.2.2 hi rfl] at h
        exact h
      have HXN : Hid (∀ w, Calls Try.prog 18 #[.string (soT (mbF L) L.length), .string ⟨#[110, 111, 98, 111, 100, 121]⟩] w fun e w' => e = .returned (.tuple #[.string ⟨#[]⟩, .bool false]) ∧ Below w.heap.size w w') := fun w => by
        have h := xt_any (soT (mbF L) L.length) ⟨#[110, 111, 98, 111, 100, 121]⟩ w (by omega) (by decide)
        have hno2 : ∀ i, i < L.length → (mbF L i).a ≠ (⟨#[110, 111, 98, 111, 100, 121]⟩ : ByteArray) := hno
        rw [xtD_no hrd hno2] at h
        exact h
      have HSM : Hid (∀ va w, MbArg w va L.length (mbF L) → MbArg w v L.length (mbF L) → Calls Try.prog 22 #[va, v] w fun e w' => e = .returned (.bool true) ∧ Below w.heap.size w w') := fun va w h1 h2 => sameM_any va v L.length (mbF L) w (by omega) h1 h2
      clear hp hrd hF hsz hno
      generalize soT (mbF L) L.length = s at HSO HSS HR HXT HXN hts
      go_wp2_with fail
      refine (HSO.out _ HA.out).mono ?_
      rintro e w3 ⟨rfl, hb3⟩
      have HA3 := hid (HA.out.below hb3)
      have HW3 := hid (blMb HW2.out hb3 HW2.out.size)
      clear HA hb3 HW2
      go_wp2_with fail
      refine (HSS.out _ HA3.out).mono ?_
      rintro e w4 ⟨rfl, hb4⟩
      have HA4 := hid (HA3.out.below hb4)
      have HW4 := hid (blMb HW3.out hb4 HW3.out.size)
      clear HA3 hb4 HW3
      go_wp2_with fail
      refine (HMO.out _ HA4.out).mono ?_
      rintro e w5 ⟨rfl, hb5⟩
      have HA5 := hid (HA4.out.below hb5)
      have HW5 := hid (blMb HW4.out hb5 HW4.out.size)
      clear HA4 hb5 HW4
      go_wp2_with fail
      refine (HR.out _).mono ?_
      rintro e w6 ⟨⟨v6, rfl, ho6⟩, hb6⟩
      have ho6' : w6.ownsRow w5.heap.size 41 2 v6 L.length (mbC L) := ho6
      have HM6 := hid (own2_arg ho6')
      have HA6 := hid (HA5.out.below hb6)
      have HW6 := hid (blMb HW5.out hb6 HW5.out.size)
      clear HA5 hb6 HW5 ho6 ho6'
      have hi : (some L : Option (List MbI)).isSome = true := rfl
      rw [hi]
      go_wp2_with fail
      refine (HSM.out _ _ HM6.out HA6.out).mono ?_
      rintro e w7 ⟨rfl, hb7⟩
      have HA7 := hid (HA6.out.below hb7)
      have HW7 := hid (blMb HW6.out hb7 HW6.out.size)
      clear HA6 HM6 hb7 HW6 HSO HSS HMO HSM HR
      obtain ⟨n, hn⟩ : ∃ n, n = L.length := ⟨_, rfl⟩
      rw [← hn] at HA7 HXT hL
      generalize mbF L = F at HA7 HXT
      obtain ⟨a, c, rfl, hrow⟩ := HA7.out
      have HROW := hid hrow
      clear hrow HA7 hn hi
      go_wp2_with fail
      go_loopw [10] (fun x wr => ∃ i : Nat, i ≤ n ∧ x = .int .i64 (i : Int) ∧ Hid (Below w.heap.size w wr) ∧ Hid (Below w7.heap.size w7 wr)) (fun x _ => n - (intMb x).toNat)
      case atStart => exact ⟨0, by omega, rfl, HW7, Below.refl _ _⟩
      case round =>
        obtain ⟨i, hi, rfl, HB, HB7⟩ := hrel
        by_cases hlt : i < n
        · have hltI : (i : Int) < (n : Int) := by omega
          obtain ⟨g, rfl, hR⟩ := HROW.out (by omega)
          obtain ⟨q, hq⟩ : ∃ q, q = 2 * i := ⟨_, rfl⟩
          have hiq : i * 2 = q := by omega
          have hR2 := hR.below HB7.out hR.lt
          have x0 := hR2.c0 i hlt
          rw [← hq] at x0
          have HX := hid (HXT.out i hlt)
          have HR2 := hid hR2
          have HLT := hid hlt
          generalize hFa : (F i).a = Fa at x0 HX
          generalize hFd : (F i).d = Fd at HX
          have HFD := hid hFd
          have HQ := hid hq
          clear hR hR2 hq hFa hFd
          go_wp2_with fail
          refine (HX.out _).mono ?_
          rintro e w8 ⟨rfl, hb8⟩
          have x1 := (HR2.out.below hb8 HR2.out.lt).c1 i HLT.out
          rw [← HQ.out, HFD.out] at x1
          have HB2 := hid (blMb HB.out hb8 HB.out.size)
          have HB72 := hid (blMb HB7.out hb8 HB7.out.size)
          clear hb8 HB HB7 HX HR2
          go_wp2_with fail
          go_roundw
          case rel => exact ⟨i + 1, by omega, by go_num, HB2, HB72⟩
          case measure => simp [intMb]; omega
        · obtain rfl : n = i := by omega
          clear HROW HXT
          go_wp2_with fail
          refine (HXN.out _).mono ?_
          rintro e w8 ⟨rfl, hb8⟩
          go_wp2_with fail
          go_ret
          exact ⟨rfl, blMb HB.out hb8 HB.out.size⟩
    · rw [mbB_no hp] at HSO HSS HMO
      clear hp hF hsz hno
      generalize soT (mbF L) L.length = s at HSO HSS hts
      go_wp2_with fail
      refine (HSO.out _ HA.out).mono ?_
      rintro e w3 ⟨rfl, hb3⟩
      have HA3 := hid (HA.out.below hb3)
      have HW3 := hid (blMb HW2.out hb3 HW2.out.size)
      clear HA hb3 HW2
      go_wp2_with fail
      refine (HSS.out _ HA3.out).mono ?_
      rintro e w4 ⟨rfl, hb4⟩
      have HA4 := hid (HA3.out.below hb4)
      have HW4 := hid (blMb HW3.out hb4 HW3.out.size)
      clear HA3 hb4 HW3
      go_wp2_with fail
      refine (HMO.out _ HA4.out).mono ?_
      rintro e w5 ⟨rfl, hb5⟩
      have HW5 := hid (blMb HW4.out hb5 HW4.out.size)
      go_wp2_with fail
      go_ret
      exact ⟨rfl, HW5.out⟩

set_option maxRecDepth 100000 in
theorem lifted (os : Os) (started : os.Started) (H : Type) (enc : TypeId × Value → H) :
    ReturnsInHanded {} Try.checked os 6 .any (Rows.fnSolidSpec.pre6 enc Try.prog Try.f6 Rows.fnSolidRow.domain false) (Rows.fnSolidSpec.post enc Try.prog Try.f6 false true false false) := by
  refine returnsInHanded_of_change (C := Try.checked) own started (by kernel_rfl) Try.func6
    (ChangeSpec.witness6 (enc := enc) (C := Try.checked) false ⟨#[], #[.slice none 0 0], []⟩ 8 (by kernel_rfl) (by kernel_rfl) (by kernel_rfl) (by kernel_rfl)) ?_
  intro W base args ds gs before hval0 hW hcnd _
  have hval : ∀ (j : Nat) t v, Try.f6.params[j]? = some t → args[j]? = some v → Value.okWide Try.prog W .any base t v := hval0
  have hW' := hW
  obtain ⟨p, q, hA0, hV, rfl, hfz, hnd⟩ := hW
  have hA : DataW.TrodAll enc Try.prog W 0 (fun _ => true) true Try.f6.params.toList args.toList ds p := hA0
  rw [Try.params6] at hA hval
  obtain ⟨v0, vs0, d0, ds0, p0, q0, hargs, rfl, rfl, h0, r0⟩ := trodAll_cons hA
  obtain ⟨rfl, rfl, rfl⟩ := trodAll_nil r0
  obtain rfl : args = #[v0] := by cases args; simp_all
  obtain ⟨rfl, rfl⟩ := trodVars_none hV
  obtain ⟨a0, len0, cap0, rfl⟩ := okWide_slice Try.underlying36 (hval 0 36 v0 rfl rfl)
  have k0 := h0
  have lt0 : ∀ x ∈ p0, x.block < W.heap.size := by obtain ⟨m, hm⟩ := k0; exact DataW.trod_lt m _ _ _ hm
  obtain ⟨z0, w0⟩ : ∃ zs, IsRow .u8 W a0 len0 cap0 zs := by
    obtain ⟨fuel, hf⟩ := h0
    rcases open_ints Try.underlying36 Try.underlying5 (by kernel_rfl) hf with ⟨hcs, _⟩ | ⟨x, l, c, zs, hcs, _, hl, hm, hz, _, hcell, hwz⟩
    · simp [Value.cells] at hcs
      obtain ⟨rfl, rfl, rfl⟩ := hcs
      exact ⟨[], .inl ⟨rfl, rfl, rfl, rfl⟩⟩
    · simp [Value.cells] at hcs
      obtain ⟨rfl, rfl, rfl⟩ := hcs
      exact ⟨zs, .inr ⟨_, rfl, hl, hm, by simpa using hz, hcell, hwz⟩⟩
  clear hA0 hval0
  refine (walk a0 len0 cap0 z0 W w0).mono fun e W' ⟨he, bel⟩ => ?_
  subst he
  exact ⟨_, rfl, _, _, _, [], _, [], hW', trodAll_mk1 (shut_bool Try.underlying4 _), (trodAll_cons_mk (Below.trod laidOut (by kernel_rfl) (of_decide_eq_true (by kernel_rfl)) k0 bel lt0) trodAll_mk0), rfl, bel.frame _, fun h => by cases h⟩

theorem over : Rows.fnSolidRow.holds Try.pinned (OpenSpec.ofChange Rows.fnSolidSpec) :=
  OpenClaim.holds_of_wide 6 Try.f6 rfl rfl rfl rfl rfl rfl rfl ⟨rfl, rfl, rfl, rfl, rfl⟩ rfl rfl rfl rfl rfl (by kernel_rfl) Try.func6 (by kernel_rfl)
    (of_decide_eq_true (by kernel_rfl)) (by unfold Func.isWrapper; first | (rw [if_pos (by decide +kernel)]; kernel_rfl) | (rw [if_neg (by decide +kernel)]; exact ⟨rfl, rfl⟩))
    (fun os started H enc _ => lifted os started H enc)

theorem proved : Rows.FnSolidSaid := over
#print axioms proved
end Go.Proofs.Ytbkjcngehhdchaa.fnSolid
