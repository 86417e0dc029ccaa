/-
  What is masked twice is as it was, and a beginning is masked as within the whole: at every code that is drawn from.
-/
import Derived.Test.YtnkahdidelhdaabRows
import Derived.Test.YtnkahdidelhdaabCntLaw
import Derived.Test.YtnkahdidelhdaabCntBack
import Derived.Test.YtnkahdidelhdaabDrwKey
import Derived.Test.YtnkahdidelhdaabBig
import Derived.WalkKit
import Derived.ProofKit
import Derived.OpenShut
import Derived.ShutString
import Derived.ChangeOld
import Derived.Below
namespace Go.Proofs.Ytnkahdidelhdaab.fnCounting
open Go.ChangeShapes Go.WideShapes Go.ChangeAt Go.RowKit
open Go.ChangeMaps (open_string shut_string)
set_option linter.unusedVariables false

theorem own : ownKnob Try.prog.godebug = none := by kernel_rfl
theorem laidOut : laidOutB Try.prog = true := by kernel_rfl

/-- WHAT THE WALK IS TOLD OF A SLICE OF INTEGERS THAT CAME IN: it is nil; or it leads to a row of 'cap' cells, the numbers 'zs' (the first 'len' are its elements, the rest its spare room), each fitting its kind. -/
def IsRow (k : IntKind) (w : World) (a : Option Addr) (len cap : Nat) (zs : List Int) : Prop :=
  (a = none ∧ len = 0 ∧ cap = 0 ∧ zs = []) ∨
  ∃ x, a = some x ∧ len ≤ cap ∧ cap ≤ maxLen ∧ zs.length = cap ∧ (∀ i, i < zs.length → w.cell? (x.add i) = some (.int k (zs.getD i 0))) ∧ ∀ n ∈ zs, (Lit.int k n).wf = true


set_option maxRecDepth 100000 in
set_option maxHeartbeats 1000000 in
theorem walk (a0 : Option Addr) (len0 cap0 : Nat) (z0 : List Int) (w : World) (w0 : IsRow .u8 w a0 len0 cap0 z0) :
    Calls Try.prog 6 #[.slice a0 len0 cap0] w fun e w' => e = .returned (.bool true) ∧ Below w.heap.size w w' := by
  by_cases hbig : 1048576 < len0
  · go_enter Try.func6, Try.ntmps6
    go_wp2_with fail
    refine (big_yes a0 len0 cap0 _ hbig).mono ?_
    rintro e w1 ⟨rfl, rfl⟩
    go_wp2_with fail
    go_ret
    exact ⟨rfl, Below.refl _ _⟩
  · have hS := src_of w0 (by omega)
    clear w0
    go_enter Try.func6, Try.ntmps6
    go_wp2_with fail
    refine (big_no a0 len0 cap0 _ hbig).mono ?_
    rintro e w1 ⟨rfl, hw1⟩
    subst w1
    go_wp2_with fail
    refine (drawCount hS (Below.refl _ _)).mono ?_
    rintro e w2 ⟨⟨k, n, s, hk, hn, hs, rfl⟩, hb2⟩
    by_cases h : k.size = 32 ∧ n.size = 12
    · have HA : Hid (∀ w, Calls Try.prog 20 #[.string k, .string n, .string s] w fun e w' => e = .returned (.tuple #[.string (cntB n (kw (bsOf k)) s), .bool true]) ∧ Below w.heap.size w w') := fun w => count_any k n s w h.1 h.2 (by omega)
      have HB : Hid (∀ w, Calls Try.prog 21 #[.string k, .string n, .string s] w fun e w' => e = .returned (.tuple #[.string (cntB n (kw (bsOf k)) s), .bool true]) ∧ Below w.heap.size w w') := fun w => scount_any k n s w h.1 h.2 (by omega)
      have hz := cntB_size n (kw (bsOf k)) s
      have HC : Hid (∀ w, Calls Try.prog 20 #[.string k, .string n, .string (cntB n (kw (bsOf k)) s)] w fun e w' => e = .returned (.tuple #[.string s, .bool true]) ∧ Below w.heap.size w w') := fun w => by
        have := count_any k n (cntB n (kw (bsOf k)) s) w h.1 h.2 (by omega)
        rwa [cnt_twice] at this
      have HD : Hid (∀ at' : Nat, at' ≤ s.size → ∀ w, Calls Try.prog 20 #[.string k, .string n, .string (s.extract 0 at')] w fun e w' => e = .returned (.tuple #[.string ((cntB n (kw (bsOf k)) s).extract 0 at'), .bool true]) ∧ Below w.heap.size w w') := fun at' ha w => by
        have := count_any k n (s.extract 0 at') w h.1 h.2 (by have := ext_size s at' ha; omega)
        rwa [cnt_cut _ _ _ _ ha] at this
      generalize cntB n (kw (bsOf k)) s = R at HA HB HC HD hz
      clear h hk hn
      go_wp2_with fail
      refine (HA.out _).mono ?_
      rintro e w3 ⟨rfl, hb3⟩
      replace hb3 := hb2.trans (hb3.mono hb2.size)
      clear hb2
      go_wp2_with fail
      refine (HB.out _).mono ?_
      rintro e w4 ⟨rfl, hb4⟩
      replace hb4 := hb3.trans (hb4.mono hb3.size)
      clear hb3
      go_wp2_with fail
      refine (HC.out _).mono ?_
      rintro e w5 ⟨rfl, hb5⟩
      replace hb5 := hb4.trans (hb5.mono hb4.size)
      clear hb4
      obtain ⟨m, hm⟩ : ∃ m : Nat, (len0 : Int) % ((s.size : Int) + 1) = (m : Int) := ⟨len0 % (s.size + 1), by push_cast; rfl⟩
      have hm2 : m ≤ s.size := by
        have := Int.emod_lt_of_pos (len0 : Int) (b := (s.size : Int) + 1) (by omega)
        omega
      have hne : ¬ ((s.size : Int) + 1 = 0) := by omega
      go_wp2_with fail
      refine (HD.out m hm2 _).mono ?_
      rintro e w6 ⟨rfl, hb6⟩
      replace hb6 := hb5.trans (hb6.mono hb5.size)
      clear hb5
      go_wp2_with fail
      go_ret
      exact ⟨rfl, hb6⟩
    · have HA : Hid (∀ w, Calls Try.prog 20 #[.string k, .string n, .string s] w fun e w' => e = .returned (.tuple #[.string ⟨#[]⟩, .bool false]) ∧ w' = w) := fun w => count_no k n s w (fun c => h ⟨c.1, c.2.1⟩)
      have HB : Hid (∀ w, Calls Try.prog 21 #[.string k, .string n, .string s] w fun e w' => e = .returned (.tuple #[.string ⟨#[]⟩, .bool false]) ∧ w' = w) := fun w => scount_no k n s w (fun c => h ⟨c.1, c.2.1⟩)
      clear h
      go_wp2_with fail
      refine (HA.out _).mono ?_
      rintro e w' ⟨rfl, hw⟩
      subst w'
      go_wp2_with fail
      refine (HB.out _).mono ?_
      rintro e w' ⟨rfl, hw⟩
      subst w'
      go_wp2_with fail
      go_ret
      exact ⟨rfl, hb2⟩

set_option maxRecDepth 100000 in
theorem lifted (os : Os) (started : os.Started) (H : Type) (enc : TypeId × Value → H) :
    ReturnsInHanded {} Try.checked os 6 .any (Rows.fnCountingSpec.pre6 enc Try.prog Try.f6 Rows.fnCountingRow.domain false) (Rows.fnCountingSpec.post enc Try.prog Try.f6 false true false false) := by
  refine returnsInHanded_of_change (C := Try.checked) own started (by kernel_rfl) Try.func6
    (ChangeSpec.witness6 (enc := enc) (C := Try.checked) false ⟨#[], #[.slice none 0 0], []⟩ 8 (by kernel_rfl) (by kernel_rfl) (by kernel_rfl) (by kernel_rfl)) ?_
  intro W base args ds gs before hval0 hW hcnd _
  have hval : ∀ (j : Nat) t v, Try.f6.params[j]? = some t → args[j]? = some v → Value.okWide Try.prog W .any base t v := hval0
  have hW' := hW
  obtain ⟨p, q, hA0, hV, rfl, hfz, hnd⟩ := hW
  have hA : DataW.TrodAll enc Try.prog W 0 (fun _ => true) true Try.f6.params.toList args.toList ds p := hA0
  rw [Try.params6] at hA hval
  obtain ⟨v0, vs0, d0, ds0, p0, q0, hargs, rfl, rfl, h0, r0⟩ := trodAll_cons hA
  obtain ⟨rfl, rfl, rfl⟩ := trodAll_nil r0
  obtain rfl : args = #[v0] := by cases args; simp_all
  obtain ⟨rfl, rfl⟩ := trodVars_none hV
  obtain ⟨a0, len0, cap0, rfl⟩ := okWide_slice Try.underlying22 (hval 0 22 v0 rfl rfl)
  have k0 := h0
  have lt0 : ∀ x ∈ p0, x.block < W.heap.size := by obtain ⟨m, hm⟩ := k0; exact DataW.trod_lt m _ _ _ hm
  obtain ⟨z0, w0⟩ : ∃ zs, IsRow .u8 W a0 len0 cap0 zs := by
    obtain ⟨fuel, hf⟩ := h0
    rcases open_ints Try.underlying22 Try.underlying5 (by kernel_rfl) hf with ⟨hcs, _⟩ | ⟨x, l, c, zs, hcs, _, hl, hm, hz, _, hcell, hwz⟩
    · simp [Value.cells] at hcs
      obtain ⟨rfl, rfl, rfl⟩ := hcs
      exact ⟨[], .inl ⟨rfl, rfl, rfl, rfl⟩⟩
    · simp [Value.cells] at hcs
      obtain ⟨rfl, rfl, rfl⟩ := hcs
      exact ⟨zs, .inr ⟨_, rfl, hl, hm, by simpa using hz, hcell, hwz⟩⟩
  clear hA0 hval0
  refine (walk a0 len0 cap0 z0 W w0).mono fun e W' ⟨he, bel⟩ => ?_
  subst he
  exact ⟨_, rfl, _, _, _, [], _, [], hW', trodAll_mk1 (shut_bool Try.underlying4 _), (trodAll_cons_mk (Below.trod laidOut (by kernel_rfl) (of_decide_eq_true (by kernel_rfl)) k0 bel lt0) trodAll_mk0), rfl, bel.frame _, fun h => by cases h⟩

theorem over : Rows.fnCountingRow.holds Try.pinned (OpenSpec.ofChange Rows.fnCountingSpec) :=
  OpenClaim.holds_of_wide 6 Try.f6 rfl rfl rfl rfl rfl rfl rfl ⟨rfl, rfl, rfl, rfl, rfl⟩ rfl rfl rfl rfl rfl (by kernel_rfl) Try.func6 (by kernel_rfl)
    (of_decide_eq_true (by kernel_rfl)) (by unfold Func.isWrapper; first | (rw [if_pos (by decide +kernel)]; kernel_rfl) | (rw [if_neg (by decide +kernel)]; exact ⟨rfl, rfl⟩))
    (fun os started H enc _ => lifted os started H enc)

theorem proved : Rows.FnCountingSaid := over
#print axioms proved
end Go.Proofs.Ytnkahdidelhdaab.fnCounting
