/-
  Bits that were coded come back, by the same contexts; the first few of them by the first few contexts.
-/
import Derived.Test.YtmckchklebohmacRows
import Derived.Test.YtmckchklebohmacRngDq
import Derived.Test.YtmckchklebohmacDrwCh
import Derived.Test.YtmckchklebohmacDecR
import Derived.Test.YtmckchklebohmacRngSt
import Derived.Test.YtmckchklebohmacBig
import Derived.BigQuiet
import Derived.WalkKit
import Derived.ProofKit
import Derived.OpenShut
import Derived.ShutString
import Derived.ChangeOld
import Derived.Below
namespace Go.Proofs.Ytmckchklebohmac.fnRanged
open Go.ChangeShapes Go.WideShapes Go.ChangeAt Go.RowKit
open Go.ChangeMaps (open_string shut_string)
set_option linter.unusedVariables false

theorem own : ownKnob Try.prog.godebug = none := by kernel_rfl
theorem laidOut : laidOutB Try.prog = true := by kernel_rfl

/-- WHAT THE WALK IS TOLD OF A SLICE OF INTEGERS THAT CAME IN: it is nil; or it leads to a row of 'cap' cells, the numbers 'zs' (the first 'len' are its elements, the rest its spare room), each fitting its kind. -/
def IsRow (k : IntKind) (w : World) (a : Option Addr) (len cap : Nat) (zs : List Int) : Prop :=
  (a = none ∧ len = 0 ∧ cap = 0 ∧ zs = []) ∨
  ∃ x, a = some x ∧ len ≤ cap ∧ cap ≤ maxLen ∧ zs.length = cap ∧ (∀ i, i < zs.length → w.cell? (x.add i) = some (.int k (zs.getD i 0))) ∧ ∀ n ∈ zs, (Lit.int k n).wf = true

set_option linter.unusedSimpArgs false
set_option maxRecDepth 100000 in
theorem drawRE {w0 : World} {a : Option Addr} {len cap : Nat} {W : World} (hS : Src w0 a len) (hb : Below w0.heap.size w0 W) :
    Calls Try.prog 9 #[.slice a len cap] W fun e w' => (∃ v n F, e = .returned v ∧ n ≤ 120 ∧ ChArg w' v n F) ∧ Below w0.heap.size w0 w' := by
  go_enter Try.func9, Try.ntmps9
  go_wp2_with fail
  refine (open_any hb).mono ?_
  rintro e w1 ⟨rfl, hr, _⟩
  go_wp2_with fail
  refine (choices_any hS hr).mono ?_
  rintro e w2 ⟨⟨v, n, F, rfl, hn, hF⟩, hr2⟩
  have HF : Hid (ChArg w2 v n F) := hF
  clear hF
  go_wp2_with fail
  go_ret
  exact ⟨⟨v, n, F, rfl, hn, HF.out⟩, hr2.rd.below⟩
theorem nat_of {F : Nat → Int × Int} {n : Nat} (hok : ∀ i, i < n → okCh (F i)) (i : Nat) (hi : i < n) : (F i).1 = (((F i).1.toNat : Nat) : Int) ∧ (F i).2 = (((F i).2.toNat : Nat) : Int) := by
  obtain ⟨⟨h1, h2⟩, h3⟩ := hok i hi
  omega
/-- the first k of what was coded are told -/
theorem few_any (F : Nat → Int × Int) (n k : Nat) (hn : n ≤ 120) (hk : k ≤ n) (hok : ∀ i, i < n → okCh (F i)) (v : Value) (w : World) (hv : IAS w v k (fun i => (F i).1)) :
    Calls Try.prog 13 #[.string (encB (RS.start.run (chL F n))), v] w fun e w' => (∃ v', e = .returned (.tuple #[v', .bool true]) ∧ IArg w' v' k (fun i => (F i).2)) ∧ Below w.heap.size w w' := by
  obtain ⟨hf, hw⟩ := run_fine RS.start_fine (by show 16777216 ≤ 4294967295; omega) (chL F n)
  have hl := (val_enc _ hf).2
  rw [bl_len] at hl
  have hr := run_len F n
  have hT := dq_at F n hok _ rfl
  refine (rdec_yes (encB (RS.start.run (chL F n))) k (fun i => (F i).1.toNat) (fun i => (F i).2.toNat) (dq (encB (RS.start.run (chL F n))) F) v w (by omega) (enc_start F n hok).1 (by omega) (fun i hi => by obtain ⟨⟨h1, h2⟩, _⟩ := hok i (by omega); show (F i).1.toNat < 512; omega) rfl (fun i _ => dq_fine _ _ i)
    (fun i hi => by obtain ⟨h1, h2⟩ := (hT (i + 1) (by omega)).2 i (by omega); exact ⟨h1, rfl, h2⟩) (hv.arg (fun i hi => (nat_of hok i (by omega)).1))).mono ?_
  rintro e w' ⟨⟨v', rfl, a, c, h1, h2, h3⟩, hb⟩
  exact ⟨⟨v', rfl, a, c, h1, h2, fun h0 => by obtain ⟨g, e1, r⟩ := h3 h0; exact ⟨g, e1, r.lt, fun i hi => by rw [r.c i hi, (nat_of hok i (by omega)).2]; rfl⟩⟩, hb⟩

set_option maxRecDepth 100000 in
set_option maxHeartbeats 1000000 in
theorem walk (a0 : Option Addr) (len0 cap0 : Nat) (z0 : List Int) (w : World) (w0 : IsRow .u8 w a0 len0 cap0 z0) :
    Calls Try.prog 3 #[.slice a0 len0 cap0] w fun e w' => e = .returned (.bool true) ∧ Below w.heap.size w w' := by
  by_cases hbig : 1048576 < len0
  · go_enter Try.func3, Try.ntmps3
    go_wp2_with fail
    refine (big_yes a0 len0 cap0 _ hbig).mono ?_
    rintro e w1 ⟨rfl, rfl⟩
    go_wp2_with fail
    go_ret
    exact ⟨rfl, Below.refl _ _⟩
  · have hS := src_of w0 (by omega)
    clear w0
    go_enter Try.func3, Try.ntmps3
    go_wp2_with fail
    refine (big_no a0 len0 cap0 _ hbig).mono ?_
    rintro e w1 ⟨rfl, hw1⟩
    subst w1
    go_wp2_with fail
    refine (drawRE hS (Below.refl _ _)).mono ?_
    rintro e w2 ⟨⟨v, n, F, rfl, hn, hF⟩, hb2⟩
    have HF2 : Hid (ChArg w2 v n F) := hF
    have HB2 : Hid (Below w.heap.size w w2) := hb2
    clear hF hb2 hS
    go_wp2_with fail
    refine (encode_any v n F _ HF2.out).mono ?_
    rintro e w3 ⟨rfl, hb3⟩
    have HF3 : Hid (ChArg w3 v n F) := HF2.out.below hb3
    have HB3 : Hid (Below w.heap.size w w3) := bl3i HB2.out hb3 HB2.out.size
    clear hb3 HF2 HB2
    by_cases hok : chOk F n
    · obtain ⟨e1, e2⟩ := encAns_yes hok
      rw [e1, e2]
      have HSE : Hid (∀ w, ChArg w v n F → Calls Try.prog 11 #[v] w fun e w' => e = .returned (.tuple #[.string (encB (RS.start.run (chL F n))), .bool true]) ∧ Below w.heap.size w w') := fun w h => by
        have h2 := sencR_any v n F w h
        rwa [e1, e2] at h2
      have HFEW : Hid (∀ k, k ≤ n → ∀ (v : Value) (w : World), IAS w v k (fun i => (F i).1) → Calls Try.prog 13 #[.string (encB (RS.start.run (chL F n))), v] w fun e w' => (∃ v', e = .returned (.tuple #[v', .bool true]) ∧ IArg w' v' k (fun i => (F i).2)) ∧ Below w.heap.size w w') := fun k hk v w h => few_any F n k hn hk hok.2 v w h
      have HBO : Hid (∀ w, ChArg w v n F → Calls Try.prog 12 #[v] w fun e w' => (∃ v1 v2, e = .returned (.tuple #[v1, v2]) ∧ IAS w' v1 n (fun i => (F i).2) ∧ IAS w' v2 n (fun i => (F i).1)) ∧ Below w.heap.size w w') := fun w h => bitsOf_any v n F w h (by omega)
      have HSAME : Hid (∀ k v1 v2 w, k ≤ n → IArg w v1 k (fun i => (F i).2) → IArg w v2 k (fun i => (F i).2) → Calls Try.prog 14 #[v1, v2] w fun e w' => e = .returned (.bool true) ∧ Below w.heap.size w w') := fun k v1 v2 w hk h1 h2 => same_yes v1 v2 k _ _ w h1 h2 (fun _ _ => rfl) (by omega)
      clear e1 e2 hok
      generalize encB (RS.start.run (chL F n)) = S at HSE HFEW
      obtain ⟨av, cv, hav, _⟩ := HF3.out
      subst hav
      obtain ⟨k, hk⟩ : ∃ k, k = len0 % (n + 1) := ⟨_, rfl⟩
      have hkn : k ≤ n := by have := Nat.mod_lt len0 (show 0 < n + 1 by omega); omega
      have hkm : Int.tmod (len0 : Int) ((n : Int) + 1) = (k : Int) := by rw [Int.tmod_eq_emod_of_nonneg (by omega), hk]; simp
      have hnz : ¬ (n : Int) + 1 = 0 := by omega
      have hkI : (k : Int) ≤ (n : Int) := by omega
      clear hk
      go_wp2_with fail
      refine (HSE.out _ HF3.out).mono ?_
      rintro e w4 ⟨rfl, hb4⟩
      have HF4 : Hid (ChArg w4 (.slice av n cv) n F) := HF3.out.below hb4
      have HB4 : Hid (Below w.heap.size w w4) := bl3i HB3.out hb4 HB3.out.size
      clear hb4 HF3 HB3
      go_wp2_with fail
      refine (HBO.out _ HF4.out).mono ?_
      rintro e w5 ⟨⟨v1, v2, rfl, h1, h2⟩, hb5⟩
      have H1 : Hid (IAS w5 v1 n (fun i => (F i).2)) := h1
      have H2 : Hid (IAS w5 v2 n (fun i => (F i).1)) := h2
      have HB5 : Hid (Below w.heap.size w w5) := bl3i HB4.out hb5 HB4.out.size
      obtain ⟨g1, c1, rfl, hc1, _⟩ := h1
      obtain ⟨g2, c2, rfl, hc2, _⟩ := h2
      clear hb5 HF4 HB4
      have hkc1 : (k : Int) ≤ (c1 : Int) := by omega
      have hkc2 : (k : Int) ≤ (c2 : Int) := by omega
      go_wp2_with fail
      refine (HFEW.out n (Nat.le_refl _) _ _ H2.out).mono ?_
      rintro e w6 ⟨⟨v3, rfl, h3⟩, hb6⟩
      have H16 : Hid (IAS w6 (.slice (some ⟨g1, 0, none⟩) n c1) n (fun i => (F i).2)) := H1.out.on hb6
      have H26 : Hid (IAS w6 (.slice (some ⟨g2, 0, none⟩) n c2) n (fun i => (F i).1)) := H2.out.on hb6
      have H36 : Hid (IArg w6 v3 n (fun i => (F i).2)) := h3
      have HB6 : Hid (Below w.heap.size w w6) := bl3i HB5.out hb6 HB5.out.size
      clear hb6 h3 H1 H2 HB5
      go_wp2_with fail
      refine (HFEW.out k hkn _ _ (H26.out.cut hkn)).mono ?_
      rintro e w7 ⟨⟨v4, rfl, h4⟩, hb7⟩
      have H17 : Hid (IAS w7 (.slice (some ⟨g1, 0, none⟩) n c1) n (fun i => (F i).2)) := H16.out.on hb7
      have H37 : Hid (IArg w7 v3 n (fun i => (F i).2)) := H36.out.on hb7
      have H47 : Hid (IArg w7 v4 k (fun i => (F i).2)) := h4
      have HB7 : Hid (Below w.heap.size w w7) := bl3i HB6.out hb7 HB6.out.size
      clear hb7 h4 H16 H26 H36 HB6
      go_wp2_with fail
      refine (HSAME.out n _ _ _ (Nat.le_refl _) H37.out (H17.out.arg (fun _ _ => rfl))).mono ?_
      rintro e w8 ⟨rfl, hb8⟩
      have H18 : Hid (IAS w8 (.slice (some ⟨g1, 0, none⟩) n c1) n (fun i => (F i).2)) := H17.out.on hb8
      have H48 : Hid (IArg w8 v4 k (fun i => (F i).2)) := H47.out.on hb8
      have HB8 : Hid (Below w.heap.size w w8) := bl3i HB7.out hb8 HB7.out.size
      clear hb8 H17 H37 H47 HB7
      go_wp2_with fail
      refine (HSAME.out k _ _ _ hkn H48.out ((H18.out.cut hkn).arg (fun _ _ => rfl))).mono ?_
      rintro e w9 ⟨rfl, hb9⟩
      have HB9 : Hid (Below w.heap.size w w9) := bl3i HB8.out hb9 HB8.out.size
      clear hb9
      go_wp2_with fail
      go_ret
      exact ⟨rfl, HB9.out⟩
    · obtain ⟨e1, e2⟩ := encAns_no hok
      rw [e1, e2]
      have HSE : Hid (∀ w, ChArg w v n F → Calls Try.prog 11 #[v] w fun e w' => e = .returned (.tuple #[.string ⟨#[]⟩, .bool false]) ∧ Below w.heap.size w w') := fun w h => by
        have h2 := sencR_any v n F w h
        rwa [e1, e2] at h2
      clear e1 e2 hok
      go_wp2_with fail
      refine (HSE.out _ HF3.out).mono ?_
      rintro e w4 ⟨rfl, hb4⟩
      have HB4 : Hid (Below w.heap.size w w4) := bl3i HB3.out hb4 HB3.out.size
      clear hb4 HF3 HB3
      go_wp2_with fail
      go_ret
      exact ⟨rfl, HB4.out⟩

set_option maxRecDepth 100000 in
theorem lifted (os : Os) (started : os.Started) (H : Type) (enc : TypeId × Value → H) :
    ReturnsInHanded {} Try.checked os 3 .any (Rows.fnRangedSpec.pre6 enc Try.prog Try.f3 Rows.fnRangedRow.domain false) (Rows.fnRangedSpec.post enc Try.prog Try.f3 false true false false) := by
  refine returnsInHanded_of_change (C := Try.checked) own started (by kernel_rfl) Try.func3
    (ChangeSpec.witness6 (enc := enc) (C := Try.checked) false ⟨#[], #[.slice none 0 0], []⟩ 8 (by kernel_rfl) (by kernel_rfl) (by kernel_rfl) (by kernel_rfl)) ?_
  intro W base args ds gs before hval0 hW hcnd _
  have hval : ∀ (j : Nat) t v, Try.f3.params[j]? = some t → args[j]? = some v → Value.okWide Try.prog W .any base t v := hval0
  have hW' := hW
  obtain ⟨p, q, hA0, hV, rfl, hfz, hnd⟩ := hW
  have hA : DataW.TrodAll enc Try.prog W 0 (fun _ => true) true Try.f3.params.toList args.toList ds p := hA0
  rw [Try.params3] at hA hval
  obtain ⟨v0, vs0, d0, ds0, p0, q0, hargs, rfl, rfl, h0, r0⟩ := trodAll_cons hA
  obtain ⟨rfl, rfl, rfl⟩ := trodAll_nil r0
  obtain rfl : args = #[v0] := by cases args; simp_all
  obtain ⟨rfl, rfl⟩ := trodVars_none hV
  obtain ⟨a0, len0, cap0, rfl⟩ := okWide_slice Try.underlying22 (hval 0 22 v0 rfl rfl)
  have k0 := h0
  have lt0 : ∀ x ∈ p0, x.block < W.heap.size := by obtain ⟨m, hm⟩ := k0; exact DataW.trod_lt m _ _ _ hm
  obtain ⟨z0, w0⟩ : ∃ zs, IsRow .u8 W a0 len0 cap0 zs := by
    obtain ⟨fuel, hf⟩ := h0
    rcases open_ints Try.underlying22 Try.underlying5 (by kernel_rfl) hf with ⟨hcs, _⟩ | ⟨x, l, c, zs, hcs, _, hl, hm, hz, _, hcell, hwz⟩
    · simp [Value.cells] at hcs
      obtain ⟨rfl, rfl, rfl⟩ := hcs
      exact ⟨[], .inl ⟨rfl, rfl, rfl, rfl⟩⟩
    · simp [Value.cells] at hcs
      obtain ⟨rfl, rfl, rfl⟩ := hcs
      exact ⟨zs, .inr ⟨_, rfl, hl, hm, by simpa using hz, hcell, hwz⟩⟩
  clear hA0 hval0
  refine (walk a0 len0 cap0 z0 W w0).mono fun e W' ⟨he, bel⟩ => ?_
  subst he
  exact ⟨_, rfl, _, _, _, [], _, [], hW', trodAll_mk1 (shut_bool Try.underlying4 _), (trodAll_cons_mk (Below.trod laidOut (by kernel_rfl) (of_decide_eq_true (by kernel_rfl)) k0 bel lt0) trodAll_mk0), rfl, bel.frame _, fun h => by cases h⟩

theorem over : Rows.fnRangedRow.holds Try.pinned (OpenSpec.ofChange Rows.fnRangedSpec) :=
  OpenClaim.holds_of_wide 3 Try.f3 rfl rfl rfl rfl rfl rfl rfl ⟨rfl, rfl, rfl, rfl, rfl⟩ rfl rfl rfl rfl rfl (by kernel_rfl) Try.func3 (by kernel_rfl)
    (of_decide_eq_true (by kernel_rfl)) (by unfold Func.isWrapper; first | (rw [if_pos (by decide +kernel)]; kernel_rfl) | (rw [if_neg (by decide +kernel)]; exact ⟨rfl, rfl⟩))
    (fun os started H enc _ => lifted os started H enc)

theorem proved : Rows.FnRangedSaid := over
#print axioms proved
end Go.Proofs.Ytmckchklebohmac.fnRanged
