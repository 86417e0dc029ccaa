/-
  No two blocks are made one by one key, and the words of a key begin with the key: at every code that is drawn from.
-/
import Derived.Test.YtnkahdidelhdaabRows
import Derived.Test.YtnkahdidelhdaabEncLaw
import Derived.Test.YtnkahdidelhdaabCipExp
import Derived.Test.YtnkahdidelhdaabBlkMath
import Derived.Test.YtnkahdidelhdaabTurned
import Derived.Test.YtnkahdidelhdaabDrwKey
import Derived.Test.YtnkahdidelhdaabBig
import Derived.BigQuiet
import Derived.Laws.Strings
import Derived.WalkKit
import Derived.ProofKit
import Derived.OpenShut
import Derived.ShutString
import Derived.ChangeOld
import Derived.Below
namespace Go.Proofs.Ytnkahdidelhdaab.fnBlocks
open Go.ChangeShapes Go.WideShapes Go.ChangeAt Go.RowKit
open Go.ChangeMaps (open_string shut_string)
set_option linter.unusedVariables false

theorem own : ownKnob Try.prog.godebug = none := by kernel_rfl
theorem laidOut : laidOutB Try.prog = true := by kernel_rfl

/-- WHAT THE WALK IS TOLD OF A SLICE OF INTEGERS THAT CAME IN: it is nil; or it leads to a row of 'cap' cells, the numbers 'zs' (the first 'len' are its elements, the rest its spare room), each fitting its kind. -/
def IsRow (k : IntKind) (w : World) (a : Option Addr) (len cap : Nat) (zs : List Int) : Prop :=
  (a = none ∧ len = 0 ∧ cap = 0 ∧ zs = []) ∨
  ∃ x, a = some x ∧ len ≤ cap ∧ cap ≤ maxLen ∧ zs.length = cap ∧ (∀ i, i < zs.length → w.cell? (x.add i) = some (.int k (zs.getD i 0))) ∧ ∀ n ∈ zs, (Lit.int k n).wf = true

theorem toList_ne {a b : ByteArray} (h : a ≠ b) : ¬ a.toList = b.toList := fun e => h (by
  rw [ByteArray.toList_eq, ByteArray.toList_eq] at e
  exact ByteArray.ext (Array.toList_inj.1 e))
theorem ext_bytes {s : ByteArray} {j c : Nat} (h : bsOf s j = c) (hj : j < s.size) : s[j].toNat = c := by rw [← h]; exact bsOf_at s j hj

set_option maxRecDepth 100000 in
set_option maxHeartbeats 1000000 in
theorem walk (a0 : Option Addr) (len0 cap0 : Nat) (z0 : List Int) (w : World) (w0 : IsRow .u8 w a0 len0 cap0 z0) :
    Calls Try.prog 5 #[.slice a0 len0 cap0] w fun e w' => e = .returned (.bool true) ∧ Below w.heap.size w w' := by
  by_cases hbig : 1048576 < len0
  · go_enter Try.func5, Try.ntmps5
    go_wp2_with fail
    refine (big_yes a0 len0 cap0 _ hbig).mono ?_
    rintro e w1 ⟨rfl, rfl⟩
    go_wp2_with fail
    go_ret
    exact ⟨rfl, Below.refl _ _⟩
  · have hS := src_of w0 (by omega)
    clear w0
    go_enter Try.func5, Try.ntmps5
    go_wp2_with fail
    refine (big_no a0 len0 cap0 _ hbig).mono ?_
    rintro e w1 ⟨rfl, hw1⟩
    subst w1
    go_wp2_with fail
    refine (drawEncrypt hS (Below.refl _ _)).mono ?_
    rintro e w2 ⟨⟨k, s, hk, hs, rfl⟩, hb2⟩
    by_cases h : k.size = 32 ∧ s.size = 16
    · have HE : Hid (∀ w b, b.size = 16 → Calls Try.prog 15 #[.string k, .string b] w fun e w' => e = .returned (.tuple #[.string (encB (bsOf b) (kw (bsOf k))), .bool true]) ∧ Below w.heap.size w w') := fun w b hb => encrypt_any k b w h.1 hb
      have HA : Hid (∀ w, Calls Try.prog 15 #[.string k, .string s] w fun e w' => e = .returned (.tuple #[.string (encB (bsOf s) (kw (bsOf k))), .bool true]) ∧ Below w.heap.size w w') := fun w => encrypt_any k s w h.1 h.2
      have HB : Hid (∀ w, Calls Try.prog 16 #[.string k, .string s] w fun e w' => e = .returned (.tuple #[.string (encB (bsOf s) (kw (bsOf k))), .bool true]) ∧ Below w.heap.size w w') := fun w => sencrypt_any k s w h.1 h.2
      have hz : (encB (bsOf s) (kw (bsOf k))).size = 16 := out_size _
      have HX : Hid (∀ w, Calls Try.prog 18 #[.string k] w fun e w' => (∃ b : Nat, e = .returned (.tuple #[.slice (some ⟨b, 0, none⟩) 60 60, .bool true]) ∧ EW w.heap.size w' b (kw (bsOf k)) ∧ ∀ j, j < 60 → w'.frozen? ⟨b, j, none⟩ = false) ∧ Below w.heap.size w w') := fun w => exp_any k w h.1
      have HT : Hid (∀ w (i : Nat), i < 128 → Calls Try.prog 17 #[.string s, .int .i64 (i : Int)] w fun e w' => (∃ t : ByteArray, t.size = 16 ∧ encB (bsOf t) (kw (bsOf k)) ≠ encB (bsOf s) (kw (bsOf k)) ∧ e = .returned (.string t)) ∧ Below w.heap.size w w') := fun w i hi => by
        refine (turned_any s i w (by omega) (by omega)).mono ?_
        rintro e w' ⟨⟨t, b, ht, htb, rfl⟩, hb⟩
        obtain ⟨h1, h2⟩ := enc_diff (W := kw (bsOf k)) h.2 (by omega : i / 8 < s.size) ht (htb (by omega))
        exact ⟨⟨t, h1, h2, rfl⟩, hb⟩
      have HK : Hid (k.size = 32) := h.1
      have HL : Hid (∀ j, j < 8 → kw (bsOf k) j = ((bsOf k (4 * j) * 256 + bsOf k (4 * j + 1)) * 256 + bsOf k (4 * j + 2)) * 256 + bsOf k (4 * j + 3)) := fun j hj => by
        rw [kw_low hj]; simp only [pt, Nat.zero_mul, Nat.zero_add, Nat.add_zero]
      have HW60 : Hid (∀ j, j < 60 → kw (bsOf k) j < 4294967296) := kw_lt (bsOf_lt k)
      generalize kw (bsOf k) = f at HE HA HB hz HX HT HL HW60
      clear h hk hs
      generalize hR : encB (bsOf s) f = R at HA HB HT hz
      clear hR
      go_wp2_with fail
      refine (HA.out _).mono ?_
      rintro e w3 ⟨rfl, hb3⟩
      replace hb3 := hb2.trans (hb3.mono hb2.size)
      clear hb2
      go_wp2_with fail
      refine (HB.out _).mono ?_
      rintro e w4 ⟨rfl, hb4⟩
      replace hb4 := hb3.trans (hb4.mono hb3.size)
      clear hb3
      obtain ⟨m, hm⟩ : ∃ m : Nat, (len0 : Int) % 128 = (m : Int) := ⟨len0 % 128, by omega⟩
      have hm2 : m < 128 := by omega
      go_wp2_with fail
      refine (HT.out _ m hm2).mono ?_
      rintro e w5 ⟨⟨t, ht, hd, rfl⟩, hb5⟩
      replace hb5 := hb4.trans (hb5.mono hb4.size)
      clear hb4
      have HF : Hid (∀ w, Calls Try.prog 15 #[.string k, .string t] w fun e w' => e = .returned (.tuple #[.string (encB (bsOf t) f), .bool true]) ∧ Below w.heap.size w w') := fun w => HE.out w t ht
      generalize encB (bsOf t) f = Q at hd HF
      have hq1 := toList_ne hd
      have hq2 : (Q.toList == R.toList) = false := beq_eq_false_iff_ne.2 hq1
      go_wp2_with fail
      refine (HF.out _).mono ?_
      rintro e w6 ⟨rfl, hb6⟩
      replace hb6 := hb5.trans (hb6.mono hb5.size)
      clear hb5
      go_wp2_with fail
      refine (HX.out _).mono ?_
      rintro e w7 ⟨⟨b, rfl, hew, hfz⟩, hb7⟩
      have HC : Hid (∀ j, j < 60 → w7.cell? ⟨b, j, none⟩ = some (.int .u32 (f j : Nat))) := hew.word
      have HBL : Hid (w6.heap.size ≤ b ∧ b < w7.heap.size) := ⟨hew.low, hew.lt⟩
      replace hb7 := hb6.trans (hb7.mono hb6.size)
      clear hb6 hew hfz
      go_wp2_with fail
      clear HA HB HT HF HE HX hd hz ht hm hm2
      go_loopw [13] (fun c wr => ∃ n : Nat, n ≤ 8 ∧ c = .int .i64 (n : Int) ∧ Hid (Below w7.heap.size w7 wr)) (fun c _ => 8 - (cipIntOf c).toNat)
      case atStart => exact ⟨0, by omega, rfl, Below.refl _ _⟩
      case round =>
        obtain ⟨n, hn, rfl, HQ⟩ := hrel
        by_cases hlt : n < 8
        · have hks : k.size = 32 := HK.out
          have hcell : wr.cell? ⟨b, n, none⟩ = some (.int .u32 (f n : Nat)) := (HQ.out.cell (p := ⟨b, n, none⟩) HBL.out.2).trans (HC.out n (by omega))
          have hn60 : (n : Int) < 60 := by omega
          have hfl := HW60.out n (by omega)
          have hkw := HL.out n hlt
          obtain ⟨i0, hi0⟩ : ∃ i : Nat, i = 4 * n := ⟨_, rfl⟩
          obtain ⟨i1, hi1⟩ : ∃ i : Nat, i = 4 * n + 1 := ⟨_, rfl⟩
          obtain ⟨i2, hi2⟩ : ∃ i : Nat, i = 4 * n + 2 := ⟨_, rfl⟩
          obtain ⟨i3, hi3⟩ : ∃ i : Nat, i = 4 * n + 3 := ⟨_, rfl⟩
          have e0 : 4 * (n : Int) = (i0 : Int) := by omega
          have e1 : (i0 : Int) + 1 = (i1 : Int) := by omega
          have e2 : (i0 : Int) + 2 = (i2 : Int) := by omega
          have e3 : (i0 : Int) + 3 = (i3 : Int) := by omega
          have hx0 : i0 < k.size := by omega
          have hx1 : i1 < k.size := by omega
          have hx2 : i2 < k.size := by omega
          have hx3 : i3 < k.size := by omega
          have hy0 : (i0 : Int) < (k.size : Int) := by omega
          have hy1 : (i1 : Int) < (k.size : Int) := by omega
          have hy2 : (i2 : Int) < (k.size : Int) := by omega
          have hy3 : (i3 : Int) < (k.size : Int) := by omega
          rw [← hi1, ← hi2, ← hi3, ← hi0] at hkw
          have b0 := bsOf_at k _ hx0
          have b1 := bsOf_at k _ hx1
          have b2 := bsOf_at k _ hx2
          have b3 := bsOf_at k _ hx3
          have l0 := bsOf_lt k i0
          have l1 := bsOf_lt k i1
          have l2 := bsOf_lt k i2
          have l3 := bsOf_lt k i3
          have hor := or_word _ _ _ _ l0 l1 l2 l3
          generalize bsOf k i0 = c0 at b0 l0 hor hkw
          generalize bsOf k i1 = c1 at b1 l1 hor hkw
          generalize bsOf k i2 = c2 at b2 l2 hor hkw
          generalize bsOf k i3 = c3 at b3 l3 hor hkw
          rw [← hkw] at hor
          generalize f n = z at hor hcell hfl
          clear hkw hi0 hi1 hi2 hi3
          go_wp2_with fail
          go_region
          go_wp2_with fail
          go_roundw
          case rel => exact ⟨n + 1, by omega, by go_num, HQ.out.drew⟩
          case measure => simp [cipIntOf]; omega
        · obtain rfl : n = 8 := by omega
          go_wp2_with fail
          go_ret
          exact ⟨rfl, bl_trans hb7 HQ.out hb7.size⟩
    · have HA : Hid (∀ w, Calls Try.prog 15 #[.string k, .string s] w fun e w' => e = .returned (.tuple #[.string ⟨#[]⟩, .bool false]) ∧ w' = w) := fun w => encrypt_no k s w h
      have HB : Hid (∀ w, Calls Try.prog 16 #[.string k, .string s] w fun e w' => e = .returned (.tuple #[.string ⟨#[]⟩, .bool false]) ∧ w' = w) := fun w => sencrypt_no k s w h
      clear h
      go_wp2_with fail
      refine (HA.out _).mono ?_
      rintro e w' ⟨rfl, hw⟩
      subst w'
      go_wp2_with fail
      refine (HB.out _).mono ?_
      rintro e w' ⟨rfl, hw⟩
      subst w'
      go_wp2_with fail
      go_ret
      exact ⟨rfl, hb2⟩

set_option maxRecDepth 100000 in
theorem lifted (os : Os) (started : os.Started) (H : Type) (enc : TypeId × Value → H) :
    ReturnsInHanded {} Try.checked os 5 .any (Rows.fnBlocksSpec.pre6 enc Try.prog Try.f5 Rows.fnBlocksRow.domain false) (Rows.fnBlocksSpec.post enc Try.prog Try.f5 false true false false) := by
  refine returnsInHanded_of_change (C := Try.checked) own started (by kernel_rfl) Try.func5
    (ChangeSpec.witness6 (enc := enc) (C := Try.checked) false ⟨#[], #[.slice none 0 0], []⟩ 8 (by kernel_rfl) (by kernel_rfl) (by kernel_rfl) (by kernel_rfl)) ?_
  intro W base args ds gs before hval0 hW hcnd _
  have hval : ∀ (j : Nat) t v, Try.f5.params[j]? = some t → args[j]? = some v → Value.okWide Try.prog W .any base t v := hval0
  have hW' := hW
  obtain ⟨p, q, hA0, hV, rfl, hfz, hnd⟩ := hW
  have hA : DataW.TrodAll enc Try.prog W 0 (fun _ => true) true Try.f5.params.toList args.toList ds p := hA0
  rw [Try.params5] at hA hval
  obtain ⟨v0, vs0, d0, ds0, p0, q0, hargs, rfl, rfl, h0, r0⟩ := trodAll_cons hA
  obtain ⟨rfl, rfl, rfl⟩ := trodAll_nil r0
  obtain rfl : args = #[v0] := by cases args; simp_all
  obtain ⟨rfl, rfl⟩ := trodVars_none hV
  obtain ⟨a0, len0, cap0, rfl⟩ := okWide_slice Try.underlying22 (hval 0 22 v0 rfl rfl)
  have k0 := h0
  have lt0 : ∀ x ∈ p0, x.block < W.heap.size := by obtain ⟨m, hm⟩ := k0; exact DataW.trod_lt m _ _ _ hm
  obtain ⟨z0, w0⟩ : ∃ zs, IsRow .u8 W a0 len0 cap0 zs := by
    obtain ⟨fuel, hf⟩ := h0
    rcases open_ints Try.underlying22 Try.underlying5 (by kernel_rfl) hf with ⟨hcs, _⟩ | ⟨x, l, c, zs, hcs, _, hl, hm, hz, _, hcell, hwz⟩
    · simp [Value.cells] at hcs
      obtain ⟨rfl, rfl, rfl⟩ := hcs
      exact ⟨[], .inl ⟨rfl, rfl, rfl, rfl⟩⟩
    · simp [Value.cells] at hcs
      obtain ⟨rfl, rfl, rfl⟩ := hcs
      exact ⟨zs, .inr ⟨_, rfl, hl, hm, by simpa using hz, hcell, hwz⟩⟩
  clear hA0 hval0
  refine (walk a0 len0 cap0 z0 W w0).mono fun e W' ⟨he, bel⟩ => ?_
  subst he
  exact ⟨_, rfl, _, _, _, [], _, [], hW', trodAll_mk1 (shut_bool Try.underlying4 _), (trodAll_cons_mk (Below.trod laidOut (by kernel_rfl) (of_decide_eq_true (by kernel_rfl)) k0 bel lt0) trodAll_mk0), rfl, bel.frame _, fun h => by cases h⟩

theorem over : Rows.fnBlocksRow.holds Try.pinned (OpenSpec.ofChange Rows.fnBlocksSpec) :=
  OpenClaim.holds_of_wide 5 Try.f5 rfl rfl rfl rfl rfl rfl rfl ⟨rfl, rfl, rfl, rfl, rfl⟩ rfl rfl rfl rfl rfl (by kernel_rfl) Try.func5 (by kernel_rfl)
    (of_decide_eq_true (by kernel_rfl)) (by unfold Func.isWrapper; first | (rw [if_pos (by decide +kernel)]; kernel_rfl) | (rw [if_neg (by decide +kernel)]; exact ⟨rfl, rfl⟩))
    (fun os started H enc _ => lifted os started H enc)

theorem proved : Rows.FnBlocksSaid := over
#print axioms proved
end Go.Proofs.Ytnkahdidelhdaab.fnBlocks
