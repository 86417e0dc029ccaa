/-
  A text that is read is the text of its members; both readers answer alike.
-/
import Derived.Test.YtbkjcngehhdchaaRows
import Derived.Test.YtbkjcngehhdchaaSoBk
import Derived.Test.YtbkjcngehhdchaaDrwMb
import Derived.Test.YtbkjcngehhdchaaSameMb
import Derived.Test.YtbkjcngehhdchaaBig
import Derived.Laws.Rows
import Derived.BigQuiet
import Derived.WalkKit
import Derived.ProofKit
import Derived.OpenShut
import Derived.ShutString
import Derived.ChangeOld
import Derived.Below
namespace Go.Proofs.Ytbkjcngehhdchaa.fnSolidTexts
open Go.ChangeShapes Go.WideShapes Go.ChangeAt Go.RowKit
open Go.ChangeMaps (open_string shut_string)
set_option linter.unusedVariables false

theorem own : ownKnob Try.prog.godebug = none := by kernel_rfl
theorem laidOut : laidOutB Try.prog = true := by kernel_rfl

/-- WHAT THE WALK IS TOLD OF A SLICE OF INTEGERS THAT CAME IN: it is nil; or it leads to a row of 'cap' cells, the numbers 'zs' (the first 'len' are its elements, the rest its spare room), each fitting its kind. -/
def IsRow (k : IntKind) (w : World) (a : Option Addr) (len cap : Nat) (zs : List Int) : Prop :=
  (a = none ∧ len = 0 ∧ cap = 0 ∧ zs = []) ∨
  ∃ x, a = some x ∧ len ≤ cap ∧ cap ≤ maxLen ∧ zs.length = cap ∧ (∀ i, i < zs.length → w.cell? (x.add i) = some (.int k (zs.getD i 0))) ∧ ∀ n ∈ zs, (Lit.int k n).wf = true

set_option linter.unusedSimpArgs false
set_option linter.unusedVariables false

set_option maxRecDepth 100000 in
set_option maxHeartbeats 1000000 in
theorem walk (a0 : Option Addr) (len0 cap0 : Nat) (z0 : List Int) (w : World) (w0 : IsRow .u8 w a0 len0 cap0 z0) :
    Calls Try.prog 7 #[.slice a0 len0 cap0] w fun e w' => e = .returned (.bool true) ∧ Below w.heap.size w w' := by
  by_cases hbig : 1048576 < len0
  · go_enter Try.func7, Try.ntmps7
    go_wp2_with fail
    refine (big_yes a0 len0 cap0 _ hbig).mono ?_
    rintro e w1 ⟨rfl, rfl⟩
    go_wp2_with fail
    go_ret
    exact ⟨rfl, Below.refl _ _⟩
  · have hS := src_of w0 (by omega)
    clear w0
    go_enter Try.func7, Try.ntmps7
    go_wp2_with fail
    refine (big_no a0 len0 cap0 _ hbig).mono ?_
    rintro e w1 ⟨rfl, hw1⟩
    subst w1
    go_wp2_with fail
    refine (drawReadSolid hS (Below.refl _ _)).mono ?_
    rintro e w2 ⟨⟨t, ht, rfl⟩, hb2⟩
    have HW2 := hid hb2
    have HRD := hid (fun w => rs_any t w (by omega))
    have HSR := hid (fun w => srs_any t w (by omega))
    have HBK : Hid (∀ L, rdS t = some L → mbR (mbF L) L.length ∧ soV (mbF L) L.length = t) := fun L h => rdS_back h
    clear hbig hb2
    cases hx : rdS t with
    | none =>
      rw [hx] at HRD HSR
      have HSM : Hid (∀ va vb w, MbArg w va 0 (mbF []) → MbArg w vb 0 (mbF []) → Calls Try.prog 22 #[va, vb] w fun e w' => e = .returned (.bool true) ∧ Below w.heap.size w w') := fun va vb w h1 h2 => sameM_any va vb 0 (mbF []) w (by omega) h1 h2
      go_wp2_with fail
      refine (HRD.out _).mono ?_
      rintro e w8 ⟨⟨v8, rfl, ho8⟩, hb8⟩
      have HW8 := hid (blMb HW2.out hb8 HW2.out.size)
      have ho8' : w8.ownsRow w2.heap.size 41 2 v8 ([] : List MbI).length (mbC []) := ho8
      have HA8 : Hid (MbArg w8 v8 0 (mbF [])) := own2_arg ho8'
      clear hb8 HW2 ho8 ho8'
      go_wp2_with fail
      refine (HSR.out _).mono ?_
      rintro e w9 ⟨⟨v9, rfl, ho9⟩, hb9⟩
      have HW9 := hid (blMb HW8.out hb9 HW8.out.size)
      have ho9' : w9.ownsRow w8.heap.size 41 2 v9 ([] : List MbI).length (mbC []) := ho9
      have HA9 : Hid (MbArg w9 v9 0 (mbF [])) := own2_arg ho9'
      have HA89 := hid (HA8.out.below hb9)
      clear hb9 HW8 ho9 ho9' HA8
      have hi : (none : Option (List MbI)).isSome = false := rfl
      rw [hi]
      go_wp2_with fail
      refine (HSM.out _ _ _ HA89.out HA9.out).mono ?_
      rintro e w10 ⟨rfl, hb10⟩
      have HW10 := hid (blMb HW9.out hb10 HW9.out.size)
      have HA11 := hid (HA89.out.below hb10)
      have HA12 := hid (HA9.out.below hb10)
      clear HA89 HA9 hb10 HW9
      go_wp2_with fail
      refine (HSM.out _ _ _ HA11.out HA12.out).mono ?_
      rintro e w11 ⟨rfl, hb11⟩
      go_wp2_with fail
      go_ret
      exact ⟨rfl, blMb HW10.out hb11 HW10.out.size⟩
    | some M =>
      obtain ⟨hm1, hm2⟩ := HBK.out M hx
      rw [hx] at HRD HSR
      have hFM : MbLe (mbF M) M.length := (rdS_some (by omega) hx).2
      have HSO : Hid (∀ v w, MbArg w v M.length (mbF M) → Calls Try.prog 11 #[v] w fun e w' => e = .returned (.tuple #[.string (soT (mbF M) M.length), .bool (mbB (mbF M) M.length)]) ∧ Below w.heap.size w w') := fun v w h => so_any v M.length (mbF M) w hFM h
      rw [soT_yes hm1, hm2, mbB_yes hm1] at HSO
      have HSM : Hid (∀ va vb w, MbArg w va M.length (mbF M) → MbArg w vb M.length (mbF M) → Calls Try.prog 22 #[va, vb] w fun e w' => e = .returned (.bool true) ∧ Below w.heap.size w w') := fun va vb w h1 h2 => sameM_any va vb M.length (mbF M) w (by have := hm1.1; omega) h1 h2
      clear hx hm1 hm2 hFM HBK
      go_wp2_with fail
      refine (HRD.out _).mono ?_
      rintro e w8 ⟨⟨v8, rfl, ho8⟩, hb8⟩
      have HW8 := hid (blMb HW2.out hb8 HW2.out.size)
      have ho8' : w8.ownsRow w2.heap.size 41 2 v8 M.length (mbC M) := ho8
      have HA8 := hid (own2_arg ho8')
      clear hb8 HW2 ho8 ho8'
      go_wp2_with fail
      refine (HSR.out _).mono ?_
      rintro e w9 ⟨⟨v9, rfl, ho9⟩, hb9⟩
      have HW9 := hid (blMb HW8.out hb9 HW8.out.size)
      have ho9' : w9.ownsRow w8.heap.size 41 2 v9 M.length (mbC M) := ho9
      have HA9 := hid (own2_arg ho9')
      have HA89 := hid (HA8.out.below hb9)
      clear hb9 HW8 ho9 ho9' HA8
      have hi : (some M : Option (List MbI)).isSome = true := rfl
      rw [hi]
      go_wp2_with fail
      refine (HSM.out _ _ _ HA89.out HA9.out).mono ?_
      rintro e w10 ⟨rfl, hb10⟩
      have HW10 := hid (blMb HW9.out hb10 HW9.out.size)
      have HA10 := hid (HA89.out.below hb10)
      clear hb10 HW9 HA89 HA9
      go_wp2_with fail
      refine (HSO.out _ _ HA10.out).mono ?_
      rintro e w11 ⟨rfl, hb11⟩
      go_wp2_with fail
      go_ret
      exact ⟨rfl, blMb HW10.out hb11 HW10.out.size⟩

set_option maxRecDepth 100000 in
theorem lifted (os : Os) (started : os.Started) (H : Type) (enc : TypeId × Value → H) :
    ReturnsInHanded {} Try.checked os 7 .any (Rows.fnSolidTextsSpec.pre6 enc Try.prog Try.f7 Rows.fnSolidTextsRow.domain false) (Rows.fnSolidTextsSpec.post enc Try.prog Try.f7 false true false false) := by
  refine returnsInHanded_of_change (C := Try.checked) own started (by kernel_rfl) Try.func7
    (ChangeSpec.witness6 (enc := enc) (C := Try.checked) false ⟨#[], #[.slice none 0 0], []⟩ 8 (by kernel_rfl) (by kernel_rfl) (by kernel_rfl) (by kernel_rfl)) ?_
  intro W base args ds gs before hval0 hW hcnd _
  have hval : ∀ (j : Nat) t v, Try.f7.params[j]? = some t → args[j]? = some v → Value.okWide Try.prog W .any base t v := hval0
  have hW' := hW
  obtain ⟨p, q, hA0, hV, rfl, hfz, hnd⟩ := hW
  have hA : DataW.TrodAll enc Try.prog W 0 (fun _ => true) true Try.f7.params.toList args.toList ds p := hA0
  rw [Try.params7] at hA hval
  obtain ⟨v0, vs0, d0, ds0, p0, q0, hargs, rfl, rfl, h0, r0⟩ := trodAll_cons hA
  obtain ⟨rfl, rfl, rfl⟩ := trodAll_nil r0
  obtain rfl : args = #[v0] := by cases args; simp_all
  obtain ⟨rfl, rfl⟩ := trodVars_none hV
  obtain ⟨a0, len0, cap0, rfl⟩ := okWide_slice Try.underlying36 (hval 0 36 v0 rfl rfl)
  have k0 := h0
  have lt0 : ∀ x ∈ p0, x.block < W.heap.size := by obtain ⟨m, hm⟩ := k0; exact DataW.trod_lt m _ _ _ hm
  obtain ⟨z0, w0⟩ : ∃ zs, IsRow .u8 W a0 len0 cap0 zs := by
    obtain ⟨fuel, hf⟩ := h0
    rcases open_ints Try.underlying36 Try.underlying5 (by kernel_rfl) hf with ⟨hcs, _⟩ | ⟨x, l, c, zs, hcs, _, hl, hm, hz, _, hcell, hwz⟩
    · simp [Value.cells] at hcs
      obtain ⟨rfl, rfl, rfl⟩ := hcs
      exact ⟨[], .inl ⟨rfl, rfl, rfl, rfl⟩⟩
    · simp [Value.cells] at hcs
      obtain ⟨rfl, rfl, rfl⟩ := hcs
      exact ⟨zs, .inr ⟨_, rfl, hl, hm, by simpa using hz, hcell, hwz⟩⟩
  clear hA0 hval0
  refine (walk a0 len0 cap0 z0 W w0).mono fun e W' ⟨he, bel⟩ => ?_
  subst he
  exact ⟨_, rfl, _, _, _, [], _, [], hW', trodAll_mk1 (shut_bool Try.underlying4 _), (trodAll_cons_mk (Below.trod laidOut (by kernel_rfl) (of_decide_eq_true (by kernel_rfl)) k0 bel lt0) trodAll_mk0), rfl, bel.frame _, fun h => by cases h⟩

theorem over : Rows.fnSolidTextsRow.holds Try.pinned (OpenSpec.ofChange Rows.fnSolidTextsSpec) :=
  OpenClaim.holds_of_wide 7 Try.f7 rfl rfl rfl rfl rfl rfl rfl ⟨rfl, rfl, rfl, rfl, rfl⟩ rfl rfl rfl rfl rfl (by kernel_rfl) Try.func7 (by kernel_rfl)
    (of_decide_eq_true (by kernel_rfl)) (by unfold Func.isWrapper; first | (rw [if_pos (by decide +kernel)]; kernel_rfl) | (rw [if_neg (by decide +kernel)]; exact ⟨rfl, rfl⟩))
    (fun os started H enc _ => lifted os started H enc)

theorem proved : Rows.FnSolidTextsSaid := over
#print axioms proved
end Go.Proofs.Ytbkjcngehhdchaa.fnSolidTexts
