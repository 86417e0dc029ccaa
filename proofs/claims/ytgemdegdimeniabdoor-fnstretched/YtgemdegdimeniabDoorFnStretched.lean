/-
  With a round more a key is the one ahead, xored with one digest more. Of every code. The words of the rounds are as the program lays them.
-/
import Derived.Test.YtgemdegdimeniabDoorRows
import Derived.Test.YtgemdegdimeniabDoorTie
import Derived.Test.YtgemdegdimeniabDoorCards
import Derived.Test.YtgemdegdimeniabDoorCardKit
import Derived.SevenTiedAt
import Derived.Stop.Joined
import Derived.Test.YtgemdegdimeniabDoorStS
import Derived.Test.YtgemdegdimeniabDoorStC
import Derived.Test.YtgemdegdimeniabDoorOff
import Derived.Test.YtgemdegdimeniabDoorBig
import Derived.WalkKit
import Derived.ProofKit
import Derived.OpenShut
import Derived.ShutString
import Derived.ChangeOld
import Derived.Below
namespace Go.Proofs.YtgemdegdimeniabDoor.fnStretched
open Go.ChangeShapes Go.WideShapes Go.ChangeAt Go.RowKit
open Go.ChangeMaps (open_string shut_string)
set_option linter.unusedVariables false

theorem own : ownKnob Tryd.prog.godebug = none := by kernel_rfl
theorem laidOut : laidOutB Tryd.prog = true := by kernel_rfl

/-- what the walk is told of a slice of integers that came in -/
def IsRow (k : IntKind) (w : World) (a : Option Addr) (len cap : Nat) (zs : List Int) : Prop :=
  (a = none ∧ len = 0 ∧ cap = 0 ∧ zs = []) ∨
  ∃ x, a = some x ∧ len ≤ cap ∧ cap ≤ maxLen ∧ zs.length = cap ∧ (∀ i, i < zs.length → w.cell? (x.add i) = some (.int k (zs.getD i 0))) ∧ ∀ n ∈ zs, (Lit.int k n).wf = true

theorem stB_size (p s : ByteArray) (n : Nat) : (stB p s n).size = 32 := by show (stL p s n).toArray.size = 32; rw [List.size_toArray, stL_len]
theorem stB_bs (p s : ByteArray) (n i : Nat) (h : i < 32) : bsOf (stB p s n) i = stX p s n i := by
  have hl : i < (stL p s n).length := by rw [stL_len]; exact h
  have e := stL_at p s n i hl
  unfold bsOf
  show ((stL p s n).toArray.toList.getD i 0).toNat = _
  rw [List.getD_eq_getElem?_getD, List.getElem?_eq_getElem (by simpa using hl)]
  have e2 : ((stL p s n)[i]).toNat = stX p s n i := by omega
  simpa using e2
theorem st0 (p s : ByteArray) : stB p s 0 = stU p s 0 := by
  apply ByteArray.ext
  apply Array.ext
  · have h1 := stB_size p s 0
    have h2 := stU_size p s 0
    exact h1.trans h2.symm
  · intro i h1 h2
    have hs : (stB p s 0).data.size = 32 := stB_size p s 0
    have h32 : i < 32 := by omega
    have e := stB_bs p s 0 i h32
    have e2 : bsOf (stB p s 0) i = bsOf (stU p s 0) i := e
    rw [← bsOf_at _ i h1, ← bsOf_at _ i h2] at e2
    exact UInt8.toNat_inj.1 e2

set_option maxRecDepth 100000 in
set_option maxHeartbeats 4000000 in
theorem walk (a0 : Option Addr) (len0 cap0 : Nat) (z0 : List Int) (w : World) (w0 : IsRow .u8 w a0 len0 cap0 z0) (hK : ∀ j, j < 64 → w.cell? ⟨1, j, none⟩ = some (.int .u32 (kF j))) (h0 : 1 < w.heap.size) :
    Calls Tryd.prog 3 #[.slice a0 len0 cap0] w fun e w' => e = .returned (.bool true) ∧ Below w.heap.size w w' := by
  have HK : Hid (∀ j, j < 64 → w.cell? ⟨1, j, none⟩ = some (.int .u32 (kF j))) := hK
  clear hK
  by_cases hbig : 1048576 < len0
  · go_enter Tryd.func3, Tryd.ntmps3
    go_wp2_with fail
    refine (big_yes a0 len0 cap0 _ hbig).mono ?_
    rintro e w1 ⟨rfl, rfl⟩
    go_wp2_with fail
    go_ret
    exact ⟨rfl, Below.refl _ _⟩
  · have hS := src_of w0 (by omega)
    clear w0
    go_enter Tryd.func3, Tryd.ntmps3
    go_wp2_with fail
    refine (big_no a0 len0 cap0 _ hbig).mono ?_
    rintro e w1 ⟨rfl, hw1⟩
    subst w1
    go_wp2_with fail
    refine (drawStretch hS (Below.refl _ _)).mono ?_
    rintro e w2 ⟨⟨p, s, n, hp, hs, hn1, hn2, rfl⟩, hb2⟩
    have HS : Hid (∀ w, Calls Tryd.prog 8 #[.string p, .string s, .int .i64 n] w fun e w' => e = .returned (if 1 ≤ n ∧ n ≤ 50 then .tuple #[.string (stB p s (n - 1).toNat), .bool true] else .tuple #[.string ⟨#[]⟩, .bool false]) ∧ Below w.heap.size w w') := fun w => sstretch_any p s n w (by omega) (by omega) hn1 hn2
    have HC : Hid (∀ w1 n, Below w.heap.size w w1 → -9223372036854775808 ≤ n → n ≤ 9223372036854775807 → Calls Tryd.prog 7 #[.string p, .string s, .int .i64 n] w1 fun e w' => e = .returned (if 1 ≤ n ∧ n ≤ 50 then .tuple #[.string (stB p s (n - 1).toNat), .bool true] else .tuple #[.string ⟨#[]⟩, .bool false]) ∧ Below w1.heap.size w1 w') := fun w1 n hb h1 h2 =>
      stretch_any p s n w1 (by omega) (by omega) h1 h2 (fun j hj => (hb.cell (p := ⟨1, j, none⟩) h0).trans (HK.out j hj)) (by have := hb.size; omega)
    have HC0 : Hid (∀ w1, Below w.heap.size w w1 → Calls Tryd.prog 7 #[.string p, .string s, .int .i64 n] w1 fun e w' => e = .returned (if 1 ≤ n ∧ n ≤ 50 then .tuple #[.string (stB p s (n - 1).toNat), .bool true] else .tuple #[.string ⟨#[]⟩, .bool false]) ∧ Below w1.heap.size w1 w') := fun w1 hb => HC.out w1 n hb hn1 hn2
    by_cases hr : 1 ≤ n ∧ n ≤ 50
    · rw [if_pos hr] at HS HC0
      have hsz := stB_size p s (n - 1).toNat
      have hs1 := stB_size p s 0
      have hs2 := stB_size p s 1
      have HC1 : Hid (∀ w1, Below w.heap.size w w1 → Calls Tryd.prog 7 #[.string p, .string s, .int .i64 1] w1 fun e w' => e = .returned (.tuple #[.string (stB p s 0), .bool true]) ∧ Below w1.heap.size w1 w') := fun w1 hb => by
        have := HC.out w1 1 hb (by decide) (by decide)
        rwa [if_pos (by decide)] at this
      have HC2 : Hid (∀ w1, Below w.heap.size w w1 → Calls Tryd.prog 7 #[.string p, .string s, .int .i64 2] w1 fun e w' => e = .returned (.tuple #[.string (stB p s 1), .bool true]) ∧ Below w1.heap.size w1 w') := fun w1 hb => by
        have := HC.out w1 2 hb (by decide) (by decide)
        rwa [if_pos (by decide)] at this
      have hs3 := stU_size p s 1
      have HM : Hid (∀ w1, Below w.heap.size w w1 → Calls Tryd.prog 9 #[.string p, .string (stB p s 0)] w1 fun e w' => e = .returned (.string (stU p s 1)) ∧ Below w1.heap.size w1 w') := fun w1 hb => by
        rw [st0]
        exact hmac_any p (stU p s 0) w1 (by omega) (by rw [stU_size]; omega) (fun j hj => (hb.cell (p := ⟨1, j, none⟩) h0).trans (HK.out j hj)) (by have := hb.size; omega)
      have HB1 : Hid (∀ i, i < 32 → bsOf (stB p s 0) i < 256 ∧ bsOf (stU p s 1) i < 256 ∧ bsOf (stB p s 1) i = bsOf (stB p s 0) i ^^^ bsOf (stU p s 1) i) := fun i hi =>
        ⟨bsOf_lt _ _, bsOf_lt _ _, by rw [stB_bs p s 1 i hi, stB_bs p s 0 i hi]; rfl⟩
      clear HC
      generalize stB p s (n - 1).toNat = K0 at hsz HS HC0
      generalize stB p s 0 = A0 at hs1 HC1 HM HB1
      generalize stB p s 1 = A1 at hs2 HC2 HB1
      generalize stU p s 1 = U1 at hs3 HM HB1
      go_wp2_with fail
      refine (HC0.out _ hb2).mono ?_
      rintro e w3 ⟨rfl, hb3⟩
      replace hb3 := hb2.trans (hb3.mono hb2.size)
      clear hb2
      go_wp2_with fail
      refine (HS.out _).mono ?_
      rintro e w4 ⟨rfl, hb4⟩
      replace hb4 := hb3.trans (hb4.mono hb3.size)
      clear hb3
      go_wp2_with fail
      refine (HC1.out _ hb4).mono ?_
      rintro e w5 ⟨rfl, hb5⟩
      replace hb5 := hb4.trans (hb5.mono hb4.size)
      clear hb4
      go_wp2_with fail
      refine (HC2.out _ hb5).mono ?_
      rintro e w6 ⟨rfl, hb6⟩
      replace hb6 := hb5.trans (hb6.mono hb5.size)
      clear hb5
      go_wp2_with fail
      refine (HM.out _ hb6).mono ?_
      rintro e w7 ⟨rfl, hb7⟩
      replace hb7 := hb6.trans (hb7.mono hb6.size)
      clear hb6
      go_wp2_with fail
      go_loopw [15] (fun c wr => ∃ i : Nat, i ≤ 32 ∧ c = .int .i64 (i : Int) ∧ Below w.heap.size w wr) (fun c _ => 32 - (shaIntOf c).toNat)
      case atStart => exact ⟨0, by omega, rfl, hb7⟩
      case round =>
        obtain ⟨i, hi, rfl, hb⟩ := hrel
        clear hb7
        by_cases hlt : i < 32
        · obtain ⟨ha1, ha2, ha3⟩ := HB1.out i hlt
          have hx1 : i < A0.size := by omega
          have hx2 : i < U1.size := by omega
          have hx3 : i < A1.size := by omega
          have hy1 : (i : Int) < (A0.size : Int) := by omega
          have hy2 : (i : Int) < (U1.size : Int) := by omega
          have hy3 : (i : Int) < (A1.size : Int) := by omega
          have e1 := bsOf_at A0 i hx1
          have e2 := bsOf_at U1 i hx2
          have e3 := bsOf_at A1 i hx3
          have hxo : bits .xor .u8 (bsOf A0 i : Int) (bsOf U1 i : Int) = ((bsOf A1 i : Nat) : Int) := by rw [ha3]; exact u8_xor_nat _ _ ha1 ha2
          clear ha3
          generalize bsOf A0 i = a at e1 ha1 hxo
          generalize bsOf U1 i = u at e2 ha2 hxo
          generalize bsOf A1 i = b at e3 hxo
          go_wp2_with fail
          go_region
          go_wp2_with fail
          go_roundw
          case rel => exact ⟨i + 1, by omega, by go_num, hb.drew⟩
          case measure => simp [shaIntOf]; omega
        · obtain rfl : i = 32 := by omega
          go_wp2_with fail
          go_ret
          exact ⟨rfl, hb⟩
    · rw [if_neg hr] at HS HC0
      clear HC
      go_wp2_with fail
      refine (HC0.out _ hb2).mono ?_
      rintro e w3 ⟨rfl, hb3⟩
      replace hb3 := hb2.trans (hb3.mono hb2.size)
      clear hb2
      go_wp2_with fail
      refine (HS.out _).mono ?_
      rintro e w4 ⟨rfl, hb4⟩
      replace hb4 := hb3.trans (hb4.mono hb3.size)
      clear hb3
      go_wp2_with fail
      go_ret
      exact ⟨rfl, hb4⟩

set_option maxRecDepth 100000 in
theorem lifted (os : Os) (started : os.Started) (H : Type) (enc : TypeId × Value → H) :
    ReturnsInHanded {} Tryd.checked os 3 .any (fun w args => (Rows.fnStretchedSpec.pre enc Tryd.prog Tryd.f3 [] false w args ∧ laidMetH Tryd.prog [("loop.example/g00228/impl.roundWords", Rows.laid_loop_example_g00228_impl_roundWords)] w) ∧ sizedMet enc Tryd.prog Tryd.f3 (OpenSpec.ofChange Rows.fnStretchedSpec) false w args) (Rows.fnStretchedSpec.post enc Tryd.prog Tryd.f3 false true false false) := by
  refine returnsInHanded_of_change_and (C := Tryd.checked) (X := fun w _ => laidMetH Tryd.prog [("loop.example/g00228/impl.roundWords", Rows.laid_loop_example_g00228_impl_roundWords)] w) (fun _ _ _ hh h => h.of_heap hh) own started (by kernel_rfl) Tryd.func3
    (ChangeSpec.witness_shaped (enc := enc) (C := Tryd.checked) (os := os) (X := fun w _ => laidMetH Tryd.prog [("loop.example/g00228/impl.roundWords", Rows.laid_loop_example_g00228_impl_roundWords)] w) false (World.doorLaid Tryd.prog 400 os) #[.slice none 0 0] 8 rfl (World.shaped_of_RefB (by kernel_rfl) (by kernel_rfl)) (by kernel_rfl) (by kernel_rfl) (by kernel_rfl) (door_met os _)) ?_
  intro W base args ds gs before hval0 hW _ _ hL _
  have hval : ∀ (j : Nat) t v, Tryd.f3.params[j]? = some t → args[j]? = some v → Value.okWide Tryd.prog W .any base t v := hval0
  have hW' := hW
  obtain ⟨p, q, hA0, hV, rfl, hfz, hnd⟩ := hW
  have hA : DataW.TrodAll enc Tryd.prog W 0 (fun _ => true) true Tryd.f3.params.toList args.toList ds p := hA0
  rw [Tryd.params3] at hA hval
  obtain ⟨v0, vs0, d0, ds0, p0, q0, hargs, rfl, rfl, h0, r0⟩ := trodAll_cons hA
  obtain ⟨rfl, rfl, rfl⟩ := trodAll_nil r0
  obtain rfl : args = #[v0] := by cases args; simp_all
  have hV1 : DataW.TrodVars enc Tryd.prog W (fun _ => true) ["loop.example/g00228/impl.roundWords"] gs q := hV
  obtain ⟨g, t, cs, fuelV, dV, pV, rfl, hgV, htV, hvar, hdV, rfl⟩ := trodVars_one hV1
  obtain rfl := Option.some.inj (gRW.symm.trans hgV)
  obtain rfl := Option.some.inj (tRW.symm.trans htV)
  have hltV : ∀ x ∈ pV, x.block < W.heap.size := fun x hx => hW'.lt x (List.mem_append_right _ (List.mem_append_right _ hx))
  obtain ⟨hK, hZ⟩ := of_laid hL
  obtain ⟨a0, len0, cap0, rfl⟩ := okWide_slice Tryd.underlying22 (hval 0 22 v0 rfl rfl)
  have k0 := h0
  have lt0 : ∀ x ∈ p0, x.block < W.heap.size := by obtain ⟨m, hm⟩ := k0; exact DataW.trod_lt m _ _ _ hm
  obtain ⟨z0, w0⟩ : ∃ zs, IsRow .u8 W a0 len0 cap0 zs := by
    obtain ⟨fuel, hf⟩ := h0
    rcases open_ints Tryd.underlying22 Tryd.underlying5 (by kernel_rfl) hf with ⟨hcs, _⟩ | ⟨x, l, c, zs, hcs, _, hl, hm, hz, _, hcell, hwz⟩
    · simp [Value.cells] at hcs
      obtain ⟨rfl, rfl, rfl⟩ := hcs
      exact ⟨[], .inl ⟨rfl, rfl, rfl, rfl⟩⟩
    · simp [Value.cells] at hcs
      obtain ⟨rfl, rfl, rfl⟩ := hcs
      exact ⟨zs, .inr ⟨_, rfl, hl, hm, by simpa using hz, hcell, hwz⟩⟩
  clear hA0 hval0
  refine (walk a0 len0 cap0 z0 W w0 hK hZ).mono fun e W' ⟨he, bel⟩ => ?_
  subst he
  exact ⟨_, rfl, _, _, _, [], _, _, hW', trodAll_mk1 (shut_bool Tryd.underlying4 _), (trodAll_cons_mk (Below.trod laidOut (by kernel_rfl) (of_decide_eq_true (by kernel_rfl)) k0 bel lt0) trodAll_mk0), kept hvar hdV hltV hZ bel, bel.frame _, fun h => by cases h⟩

theorem over : Rows.fnStretchedRow.holds Tryd.pinned (OpenSpec.ofChange Rows.fnStretchedSpec) :=
  OpenClaim.holds_of_wide 3 Tryd.f3 rfl rfl rfl rfl rfl rfl rfl ⟨rfl, rfl, rfl, rfl, rfl⟩ rfl rfl rfl rfl rfl (by kernel_rfl) Tryd.func3 (by kernel_rfl)
    (of_decide_eq_true (by kernel_rfl)) (by unfold Func.isWrapper; first | (rw [if_pos (by decide +kernel)]; kernel_rfl) | (rw [if_neg (by decide +kernel)]; exact ⟨rfl, rfl⟩))
    (fun os started H enc _ => lifted os started H enc)

theorem proved : Rows.FnStretchedCardSaid :=
  Claim7.holds_tied_plain_at .later [] [.data] true (true, "e2d9ff6f5b12b5eec3556f02db28a48c1f8579e30845a69b875e9a7b3f309247") true
    over (fun _ h => by cases h) (by kernel_rfl) (fun _ h => by cases h) fnStretched_row_tie rfl ⟨rfl, rfl⟩ (by kernel_rfl) rfl
    (fun f fn hf hfn => by
      obtain rfl : f = 3 := Option.some.inj ((show Tryd.prog.funcNamed "loop.example/g00228/laws.FnStretched" = some 3 by kernel_rfl).symm.trans hf) |>.symm
      obtain rfl : fn = Tryd.f3 := (Option.some.inj (Tryd.func3.symm.trans hfn)).symm
      exact ⟨by kernel_rfl, fun j t ht => by
        have hall : Tryd.f3.params.all (fun t => Tryd.prog.wantsStandIn t == false) = true := by kernel_rfl
        obtain ⟨hj, rfl⟩ := Array.getElem?_eq_some_iff.1 ht
        exact beq_iff_eq.1 (Array.all_eq_true.1 hall j hj)⟩)
    (by kernel_rfl)
#print axioms proved
end Go.Proofs.YtgemdegdimeniabDoor.fnStretched
