/-
  FnSums holds at every code: bytes with one bit turned over have other sums of both kinds; no condition.
-/
import Derived.Test.YtfngknnjdcgciaaRows
import Derived.Test.YtfngknnjdcgciaaCrcC
import Derived.Test.YtfngknnjdcgciaaCrcC64
import Derived.Test.YtfngknnjdcgciaaCrcDiff
import Derived.Test.YtfngknnjdcgciaaTurned
import Derived.Test.YtfngknnjdcgciaaDraws3
import Derived.Test.YtfngknnjdcgciaaBig
import Derived.WalkKit
import Derived.ProofKit
import Derived.OpenShut
import Derived.ShutString
import Derived.ChangeOld
import Derived.Below
namespace Go.Proofs.Ytfngknnjdcgciaa.fnSums
open Go.ChangeShapes Go.WideShapes Go.ChangeAt Go.RowKit
open Go.ChangeMaps (open_string shut_string)
set_option linter.unusedVariables false

theorem own : ownKnob Try.prog.godebug = none := by kernel_rfl
theorem laidOut : laidOutB Try.prog = true := by kernel_rfl

/-- WHAT THE WALK IS TOLD OF A SLICE OF INTEGERS THAT CAME IN: it is nil; or it leads to a row of 'cap' cells, the numbers 'zs' (the first 'len' are its elements, the rest its spare room), each fitting its kind. -/
def IsRow (k : IntKind) (w : World) (a : Option Addr) (len cap : Nat) (zs : List Int) : Prop :=
  (a = none ∧ len = 0 ∧ cap = 0 ∧ zs = []) ∨
  ∃ x, a = some x ∧ len ≤ cap ∧ cap ≤ maxLen ∧ zs.length = cap ∧ (∀ i, i < zs.length → w.cell? (x.add i) = some (.int k (zs.getD i 0))) ∧ ∀ n ∈ zs, (Lit.int k n).wf = true

theorem known32 : crc32 ⟨#[49, 50, 51, 52, 53, 54, 55, 56, 57]⟩ = 3421780262 := by decide +kernel
theorem known64 : crc64 ⟨#[49, 50, 51, 52, 53, 54, 55, 56, 57]⟩ = 11051210869376104954 := by decide +kernel
theorem diff32 {s t : ByteArray} {k : Nat} (hk : k < s.size) {b : UInt8} (h : t.data.toList = s.data.toList.set k b) (hb : b ≠ s[k]) : (((crc32 t : Nat) : Int) == ((crc32 s : Nat) : Int)) = false := by
  refine beq_eq_false_iff_ne.2 (fun e => ?_)
  have e' : crc32 t = crc32 s := by omega
  unfold crc32 at e'
  rw [h] at e'
  exact regs_set (n := 31) (by decide +kernel) (by decide) (by decide) (by decide) s.data.toList k hk b hb (xor_cancel e')
theorem diff64 {s t : ByteArray} {k : Nat} (hk : k < s.size) {b : UInt8} (h : t.data.toList = s.data.toList.set k b) (hb : b ≠ s[k]) : (((crc64 t : Nat) : Int) == ((crc64 s : Nat) : Int)) = false := by
  refine beq_eq_false_iff_ne.2 (fun e => ?_)
  have e' : crc64 t = crc64 s := by omega
  unfold crc64 at e'
  rw [h] at e'
  exact regs_set (n := 63) (by decide +kernel) (by decide) (by decide) (by decide) s.data.toList k hk b hb (xor_cancel e')

set_option maxRecDepth 100000 in
set_option maxHeartbeats 1000000 in
theorem walk (a0 : Option Addr) (len0 cap0 : Nat) (z0 : List Int) (w : World) (w0 : IsRow .u8 w a0 len0 cap0 z0) :
    Calls Try.prog 5 #[.slice a0 len0 cap0] w fun e w' => e = .returned (.bool true) ∧ Below w.heap.size w w' := by
  by_cases hbig : 1048576 < len0
  · go_enter Try.func5, Try.ntmps5
    go_wp2_with fail
    refine (big_yes a0 len0 cap0 _ hbig).mono ?_
    rintro e w1 ⟨rfl, rfl⟩
    go_wp2_with fail
    go_ret
    exact ⟨rfl, Below.refl _ _⟩
  · have hS := src_of w0 (by omega)
    clear w0
    go_enter Try.func5, Try.ntmps5
    go_wp2_with fail
    refine (big_no a0 len0 cap0 _ hbig).mono ?_
    rintro e w1 ⟨rfl, rfl⟩
    go_wp2_with fail
    refine (drawCrc hS (Below.refl _ _)).mono ?_
    rintro e w2 ⟨⟨s, hs, rfl⟩, hb2⟩
    have hsm : s.size ≤ maxLen := by unfold maxLen; omega
    have h9 : (⟨#[49, 50, 51, 52, 53, 54, 55, 56, 57]⟩ : ByteArray).size ≤ maxLen := by decide
    have HM : Hid (s.size ≤ maxLen) := hsm
    have H9 : Hid _ := h9
    clear hsm h9
    go_wp2_with fail
    refine (crc32_any s _ HM.out).mono ?_
    rintro e w3 ⟨rfl, hb3⟩
    replace hb3 := hb2.trans (hb3.mono hb2.size)
    clear hb2
    go_wp2_with fail
    refine (crc64_any s _ HM.out).mono ?_
    rintro e w4 ⟨rfl, hb4⟩
    replace hb4 := hb3.trans (hb4.mono hb3.size)
    clear hb3
    go_wp2_with fail
    refine (scrc32_any s _ HM.out).mono ?_
    rintro e w5 ⟨rfl, rfl⟩
    go_wp2_with fail
    refine (scrc64_any s _ HM.out).mono ?_
    rintro e w6 ⟨rfl, rfl⟩
    go_wp2_with fail
    refine (crc32_any _ _ H9.out).mono ?_
    rintro e w7 ⟨he, hb7⟩
    rw [known32] at he
    subst he
    replace hb7 := hb4.trans (hb7.mono hb4.size)
    clear hb4
    go_wp2_with fail
    refine (crc64_any _ _ H9.out).mono ?_
    rintro e w8 ⟨he, hb8⟩
    rw [known64] at he
    subst he
    replace hb8 := hb7.trans (hb8.mono hb7.size)
    clear hb7
    go_wp2_with fail
    go_loopw [6] (fun i wr => ∃ k : Nat, k ≤ 300 ∧ i = .int .i64 (k : Int) ∧ Below w1.heap.size w1 wr) (fun i _ => 300 - (crcIntOf i).toNat)
    case atStart => exact ⟨0, by omega, rfl, hb8⟩
    case round =>
      obtain ⟨k, hk, rfl, hb⟩ := hrel
      clear hb8
      by_cases h8 : k < 8 * s.size
      · by_cases h3 : k < 300
        · go_wp2_with fail
          refine (turned_any s k _ h8 (by omega)).mono ?_
          rintro e w9 ⟨⟨t, b, ht, htb, rfl⟩, hb9⟩
          replace hb9 := hb.trans (hb9.mono hb.size)
          clear hb
          have hk8 : k / 8 < s.size := by omega
          have hd1 := diff32 hk8 ht (htb hk8)
          have hd2 := diff64 hk8 ht (htb hk8)
          have hts : t.size = s.size := by rw [Lib.size_eq, ht, List.length_set, ← Lib.size_eq]
          have HT : Hid (t.size = s.size) := hts
          clear ht htb hts
          go_wp2_with fail
          refine (crc32_any t _ (by rw [HT.out]; exact HM.out)).mono ?_
          rintro e w10 ⟨rfl, hb10⟩
          replace hb10 := hb9.trans (hb10.mono hb9.size)
          clear hb9
          go_wp2_with fail
          refine (crc64_any t _ (by rw [HT.out]; exact HM.out)).mono ?_
          rintro e w11 ⟨rfl, hb11⟩
          replace hb11 := hb10.trans (hb11.mono hb10.size)
          clear hb10
          go_wp2_with fail
          go_roundw
          case rel => exact ⟨k + 1, by omega, by go_num, hb11⟩
          case measure => simp [crcIntOf]; omega
        · go_wp2_with fail
          go_ret
          exact ⟨rfl, hb⟩
      · go_wp2_with fail
        go_ret
        exact ⟨rfl, hb⟩

set_option maxRecDepth 100000 in
theorem lifted (os : Os) (started : os.Started) (H : Type) (enc : TypeId × Value → H) :
    ReturnsInHanded {} Try.checked os 5 .any (Rows.fnSumsSpec.pre6 enc Try.prog Try.f5 Rows.fnSumsRow.domain false) (Rows.fnSumsSpec.post enc Try.prog Try.f5 false true false false) := by
  refine returnsInHanded_of_change (C := Try.checked) own started (by kernel_rfl) Try.func5
    (ChangeSpec.witness6 (enc := enc) (C := Try.checked) false ⟨#[], #[.slice none 0 0], []⟩ 8 (by kernel_rfl) (by kernel_rfl) (by kernel_rfl) (by kernel_rfl)) ?_
  intro W base args ds gs before hval0 hW hcnd _
  have hval : ∀ (j : Nat) t v, Try.f5.params[j]? = some t → args[j]? = some v → Value.okWide Try.prog W .any base t v := hval0
  have hW' := hW
  obtain ⟨p, q, hA0, hV, rfl, hfz, hnd⟩ := hW
  have hA : DataW.TrodAll enc Try.prog W 0 (fun _ => true) true Try.f5.params.toList args.toList ds p := hA0
  rw [Try.params5] at hA hval
  obtain ⟨v0, vs0, d0, ds0, p0, q0, hargs, rfl, rfl, h0, r0⟩ := trodAll_cons hA
  obtain ⟨rfl, rfl, rfl⟩ := trodAll_nil r0
  obtain rfl : args = #[v0] := by cases args; simp_all
  obtain ⟨rfl, rfl⟩ := trodVars_none hV
  obtain ⟨a0, len0, cap0, rfl⟩ := okWide_slice Try.underlying22 (hval 0 22 v0 rfl rfl)
  have k0 := h0
  have lt0 : ∀ x ∈ p0, x.block < W.heap.size := by obtain ⟨m, hm⟩ := k0; exact DataW.trod_lt m _ _ _ hm
  obtain ⟨z0, w0⟩ : ∃ zs, IsRow .u8 W a0 len0 cap0 zs := by
    obtain ⟨fuel, hf⟩ := h0
    rcases open_ints Try.underlying22 Try.underlying5 (by kernel_rfl) hf with ⟨hcs, _⟩ | ⟨x, l, c, zs, hcs, _, hl, hm, hz, _, hcell, hwz⟩
    · simp [Value.cells] at hcs
      obtain ⟨rfl, rfl, rfl⟩ := hcs
      exact ⟨[], .inl ⟨rfl, rfl, rfl, rfl⟩⟩
    · simp [Value.cells] at hcs
      obtain ⟨rfl, rfl, rfl⟩ := hcs
      exact ⟨zs, .inr ⟨_, rfl, hl, hm, by simpa using hz, hcell, hwz⟩⟩
  clear hA0 hval0
  refine (walk a0 len0 cap0 z0 W w0).mono fun e W' ⟨he, bel⟩ => ?_
  subst he
  exact ⟨_, rfl, _, _, _, [], _, [], hW', trodAll_mk1 (shut_bool Try.underlying4 _), (trodAll_cons_mk (Below.trod laidOut (by kernel_rfl) (of_decide_eq_true (by kernel_rfl)) k0 bel lt0) trodAll_mk0), rfl, bel.frame _, fun h => by cases h⟩

theorem over : Rows.fnSumsRow.holds Try.pinned (OpenSpec.ofChange Rows.fnSumsSpec) :=
  OpenClaim.holds_of_wide 5 Try.f5 rfl rfl rfl rfl rfl rfl rfl ⟨rfl, rfl, rfl, rfl, rfl⟩ rfl rfl rfl rfl rfl (by kernel_rfl) Try.func5 (by kernel_rfl)
    (of_decide_eq_true (by kernel_rfl)) (by unfold Func.isWrapper; first | (rw [if_pos (by decide +kernel)]; kernel_rfl) | (rw [if_neg (by decide +kernel)]; exact ⟨rfl, rfl⟩))
    (fun os started H enc _ => lifted os started H enc)

theorem proved : Rows.FnSumsSaid := over
#print axioms proved
end Go.Proofs.Ytfngknnjdcgciaa.fnSums
