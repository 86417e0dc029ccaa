/-
  A key of more than 64 bytes is its digest, and noughts behind a shorter one change nothing. Of every code. The words of the rounds are as the program lays them.
-/
import Derived.Test.YtgemdegdimeniaaDoorRows
import Derived.Test.YtgemdegdimeniaaDoorTie
import Derived.Test.YtgemdegdimeniaaDoorCards
import Derived.Test.YtgemdegdimeniaaDoorCardKit
import Derived.SevenTiedAt
import Derived.Stop.Joined
import Derived.Test.YtgemdegdimeniaaDoorHmS
import Derived.Test.YtgemdegdimeniaaDoorHmC
import Derived.Test.YtgemdegdimeniaaDoorDrwHm
import Derived.Test.YtgemdegdimeniaaDoorBig
import Derived.WalkKit
import Derived.ProofKit
import Derived.OpenShut
import Derived.ShutString
import Derived.ChangeOld
import Derived.Below
namespace Go.Proofs.YtgemdegdimeniaaDoor.fnMacs
open Go.ChangeShapes Go.WideShapes Go.ChangeAt Go.RowKit
open Go.ChangeMaps (open_string shut_string)
set_option linter.unusedVariables false

theorem own : ownKnob Tryd.prog.godebug = none := by kernel_rfl
theorem laidOut : laidOutB Tryd.prog = true := by kernel_rfl

/-- what the walk is told of a slice of integers that came in -/
def IsRow (k : IntKind) (w : World) (a : Option Addr) (len cap : Nat) (zs : List Int) : Prop :=
  (a = none ∧ len = 0 ∧ cap = 0 ∧ zs = []) ∨
  ∃ x, a = some x ∧ len ≤ cap ∧ cap ≤ maxLen ∧ zs.length = cap ∧ (∀ i, i < zs.length → w.cell? (x.add i) = some (.int k (zs.getD i 0))) ∧ ∀ n ∈ zs, (Lit.int k n).wf = true

theorem keyB_sum (k : ByteArray) (h : 64 < k.size) : keyB (sumB k) = keyB k := by
  unfold keyB
  rw [if_neg (by rw [sumB_size]; omega), if_pos h]
theorem hmac_sum (k s : ByteArray) (h : 64 < k.size) : hmacB (sumB k) s = hmacB k s := by unfold hmacB; rw [keyB_sum k h]
theorem maskB_nought (k : ByteArray) (x : Nat) : maskB (k ++ ⟨#[0]⟩) x = maskB k x := by
  have e : ∀ i, bsOf (k ++ ⟨#[0]⟩) i = bsOf k i := fun i => by
    have hsz : (k ++ (⟨#[0]⟩ : ByteArray)).size = k.size + 1 := by rw [ByteArray.size_append]; rfl
    by_cases h : i < k.size
    · rw [bsOf_append_left _ _ _ h]
    · rw [bsOf_ge k i (by omega)]
      by_cases h2 : i < k.size + 1
      · rw [bsOf_append_right _ _ _ (by omega) (by show i < k.size + 1; omega), show i - k.size = 0 by omega]; rfl
      · rw [bsOf_ge _ _ (by omega)]
  unfold maskB maskL mk8
  have e2 : (fun i => UInt8.ofNat (bsOf (k ++ ⟨#[0]⟩) i ^^^ x)) = fun i => UInt8.ofNat (bsOf k i ^^^ x) := by funext i; rw [e]
  rw [e2]
theorem hmac_nought (k s : ByteArray) (h : k.size < 64) : hmacB (k ++ ⟨#[0]⟩) s = hmacB k s := by
  have hsz : (k ++ (⟨#[0]⟩ : ByteArray)).size = k.size + 1 := by rw [ByteArray.size_append]; rfl
  have e1 : keyB (k ++ ⟨#[0]⟩) = k ++ ⟨#[0]⟩ := by unfold keyB; rw [if_neg (by omega)]
  have e2 : keyB k = k := by unfold keyB; rw [if_neg (by omega)]
  unfold hmacB
  rw [e1, e2, maskB_nought, maskB_nought]

set_option maxRecDepth 100000 in
set_option maxHeartbeats 4000000 in
theorem walk (a0 : Option Addr) (len0 cap0 : Nat) (z0 : List Int) (w : World) (w0 : IsRow .u8 w a0 len0 cap0 z0) (hK : ∀ j, j < 64 → w.cell? ⟨0, j, none⟩ = some (.int .u32 (kF j))) (h0 : 0 < w.heap.size) :
    Calls Tryd.prog 4 #[.slice a0 len0 cap0] w fun e w' => e = .returned (.bool true) ∧ Below w.heap.size w w' := by
  have HK : Hid (∀ j, j < 64 → w.cell? ⟨0, j, none⟩ = some (.int .u32 (kF j))) := hK
  clear hK
  by_cases hbig : 1048576 < len0
  · go_enter Tryd.func4, Tryd.ntmps4
    go_wp2_with fail
    refine (big_yes a0 len0 cap0 _ hbig).mono ?_
    rintro e w1 ⟨rfl, rfl⟩
    go_wp2_with fail
    go_ret
    exact ⟨rfl, Below.refl _ _⟩
  · have hS := src_of w0 (by omega)
    clear w0
    go_enter Tryd.func4, Tryd.ntmps4
    go_wp2_with fail
    refine (big_no a0 len0 cap0 _ hbig).mono ?_
    rintro e w1 ⟨rfl, hw1⟩
    subst w1
    go_wp2_with fail
    refine (drawHmac hS (Below.refl _ _)).mono ?_
    rintro e w2 ⟨⟨k, s, hk, hs, rfl⟩, hb2⟩
    have hm := hmacB_size k s
    have HC : Hid (∀ k2 w1, k2.size ≤ 2000 → Below w.heap.size w w1 → Calls Tryd.prog 11 #[.string k2, .string s] w1 fun e w' => e = .returned (.string (hmacB k2 s)) ∧ Below w1.heap.size w1 w') := fun k2 w1 hk2 hb =>
      hmac_any k2 s w1 (by omega) (by omega) (fun j hj => (hb.cell (p := ⟨0, j, none⟩) h0).trans (HK.out j hj)) (by have := hb.size; omega)
    have HC1 : Hid (∀ w1, Below w.heap.size w w1 → Calls Tryd.prog 11 #[.string k, .string s] w1 fun e w' => e = .returned (.string (hmacB k s)) ∧ Below w1.heap.size w1 w') := fun w1 hb => HC.out k w1 (by omega) hb
    have HS : Hid (∀ w, Calls Tryd.prog 12 #[.string k, .string s] w fun e w' => e = .returned (.string (hmacB k s)) ∧ Below w.heap.size w w') := fun w => shmac_any k s w (by omega) (by omega)
    by_cases hk64 : 64 < k.size
    · have hks := sumB_size k
      have HU : Hid (∀ w1, Below w.heap.size w w1 → Calls Tryd.prog 7 #[.string k] w1 fun e w' => e = .returned (.string (sumB k)) ∧ Below w1.heap.size w1 w') := fun w1 hb =>
        sum_any k w1 (by omega) (fun j hj => (hb.cell (p := ⟨0, j, none⟩) h0).trans (HK.out j hj)) (by have := hb.size; omega)
      have HC2 : Hid (∀ w1, Below w.heap.size w w1 → Calls Tryd.prog 11 #[.string (sumB k), .string s] w1 fun e w' => e = .returned (.string (hmacB k s)) ∧ Below w1.heap.size w1 w') := fun w1 hb => by
        have := HC.out (sumB k) w1 (by omega) hb
        rwa [hmac_sum k s hk64] at this
      clear HC
      generalize hmacB k s = m at hm HC1 HS HC2
      generalize sumB k = d at hks HU HC2
      go_wp2_with fail
      refine (HC1.out _ hb2).mono ?_
      rintro e w3 ⟨rfl, hb3⟩
      replace hb3 := hb2.trans (hb3.mono hb2.size)
      clear hb2
      go_wp2_with fail
      refine (HS.out _).mono ?_
      rintro e w4 ⟨rfl, hb4⟩
      replace hb4 := hb3.trans (hb4.mono hb3.size)
      clear hb3
      go_wp2_with fail
      refine (HU.out _ hb4).mono ?_
      rintro e w5 ⟨rfl, hb5⟩
      replace hb5 := hb4.trans (hb5.mono hb4.size)
      clear hb4
      go_wp2_with fail
      refine (HC2.out _ hb5).mono ?_
      rintro e w6 ⟨rfl, hb6⟩
      replace hb6 := hb5.trans (hb6.mono hb5.size)
      clear hb5
      go_wp2_with fail
      go_ret
      exact ⟨rfl, hb6⟩
    · by_cases hk65 : k.size = 64
      · clear HC
        generalize hmacB k s = m at hm HC1 HS
        go_wp2_with fail
        refine (HC1.out _ hb2).mono ?_
        rintro e w3 ⟨rfl, hb3⟩
        replace hb3 := hb2.trans (hb3.mono hb2.size)
        clear hb2
        go_wp2_with fail
        refine (HS.out _).mono ?_
        rintro e w4 ⟨rfl, hb4⟩
        replace hb4 := hb3.trans (hb4.mono hb3.size)
        clear hb3
        go_wp2_with fail
        go_ret
        exact ⟨rfl, hb4⟩
      · have HC2 : Hid (∀ w1, Below w.heap.size w w1 → Calls Tryd.prog 11 #[.string (k ++ ⟨#[0]⟩), .string s] w1 fun e w' => e = .returned (.string (hmacB k s)) ∧ Below w1.heap.size w1 w') := fun w1 hb => by
          have := HC.out (k ++ ⟨#[0]⟩) w1 (by rw [ByteArray.size_append]; show k.size + 1 ≤ _; omega) hb
          rwa [hmac_nought k s (by omega)] at this
        have hne : ((k.size : Int) == 64) = false := by
          rw [beq_eq_false_iff_ne]; omega
        clear HC
        generalize hmacB k s = m at hm HC1 HS HC2
        go_wp2_with fail
        refine (HC1.out _ hb2).mono ?_
        rintro e w3 ⟨rfl, hb3⟩
        replace hb3 := hb2.trans (hb3.mono hb2.size)
        clear hb2
        go_wp2_with fail
        refine (HS.out _).mono ?_
        rintro e w4 ⟨rfl, hb4⟩
        replace hb4 := hb3.trans (hb4.mono hb3.size)
        clear hb3
        go_wp2_with fail
        refine (HC2.out _ hb4).mono ?_
        rintro e w5 ⟨rfl, hb5⟩
        replace hb5 := hb4.trans (hb5.mono hb4.size)
        clear hb4
        go_wp2_with fail
        go_ret
        exact ⟨rfl, hb5⟩

set_option maxRecDepth 100000 in
theorem lifted (os : Os) (started : os.Started) (H : Type) (enc : TypeId × Value → H) :
    ReturnsInHanded {} Tryd.checked os 4 .any (fun w args => (Rows.fnMacsSpec.pre enc Tryd.prog Tryd.f4 [] false w args ∧ laidMetH Tryd.prog [("loop.example/g00228/impl.roundWords", Rows.laid_loop_example_g00228_impl_roundWords)] w) ∧ sizedMet enc Tryd.prog Tryd.f4 (OpenSpec.ofChange Rows.fnMacsSpec) false w args) (Rows.fnMacsSpec.post enc Tryd.prog Tryd.f4 false true false false) := by
  refine returnsInHanded_of_change_and (C := Tryd.checked) (X := fun w _ => laidMetH Tryd.prog [("loop.example/g00228/impl.roundWords", Rows.laid_loop_example_g00228_impl_roundWords)] w) (fun _ _ _ hh h => h.of_heap hh) own started (by kernel_rfl) Tryd.func4
    (ChangeSpec.witness_shaped (enc := enc) (C := Tryd.checked) (os := os) (X := fun w _ => laidMetH Tryd.prog [("loop.example/g00228/impl.roundWords", Rows.laid_loop_example_g00228_impl_roundWords)] w) false (World.doorLaid Tryd.prog 400 os) #[.slice none 0 0] 8 rfl (World.shaped_of_RefB (by kernel_rfl) (by kernel_rfl)) (by kernel_rfl) (by kernel_rfl) (by kernel_rfl) (door_met os _)) ?_
  intro W base args ds gs before hval0 hW _ _ hL _
  have hval : ∀ (j : Nat) t v, Tryd.f4.params[j]? = some t → args[j]? = some v → Value.okWide Tryd.prog W .any base t v := hval0
  have hW' := hW
  obtain ⟨p, q, hA0, hV, rfl, hfz, hnd⟩ := hW
  have hA : DataW.TrodAll enc Tryd.prog W 0 (fun _ => true) true Tryd.f4.params.toList args.toList ds p := hA0
  rw [Tryd.params4] at hA hval
  obtain ⟨v0, vs0, d0, ds0, p0, q0, hargs, rfl, rfl, h0, r0⟩ := trodAll_cons hA
  obtain ⟨rfl, rfl, rfl⟩ := trodAll_nil r0
  obtain rfl : args = #[v0] := by cases args; simp_all
  have hV1 : DataW.TrodVars enc Tryd.prog W (fun _ => true) ["loop.example/g00228/impl.roundWords"] gs q := hV
  obtain ⟨g, t, cs, fuelV, dV, pV, rfl, hgV, htV, hvar, hdV, rfl⟩ := trodVars_one hV1
  obtain rfl := Option.some.inj (gRW.symm.trans hgV)
  obtain rfl := Option.some.inj (tRW.symm.trans htV)
  have hltV : ∀ x ∈ pV, x.block < W.heap.size := fun x hx => hW'.lt x (List.mem_append_right _ (List.mem_append_right _ hx))
  obtain ⟨hK, hZ⟩ := of_laid hL
  obtain ⟨a0, len0, cap0, rfl⟩ := okWide_slice Tryd.underlying22 (hval 0 22 v0 rfl rfl)
  have k0 := h0
  have lt0 : ∀ x ∈ p0, x.block < W.heap.size := by obtain ⟨m, hm⟩ := k0; exact DataW.trod_lt m _ _ _ hm
  obtain ⟨z0, w0⟩ : ∃ zs, IsRow .u8 W a0 len0 cap0 zs := by
    obtain ⟨fuel, hf⟩ := h0
    rcases open_ints Tryd.underlying22 Tryd.underlying5 (by kernel_rfl) hf with ⟨hcs, _⟩ | ⟨x, l, c, zs, hcs, _, hl, hm, hz, _, hcell, hwz⟩
    · simp [Value.cells] at hcs
      obtain ⟨rfl, rfl, rfl⟩ := hcs
      exact ⟨[], .inl ⟨rfl, rfl, rfl, rfl⟩⟩
    · simp [Value.cells] at hcs
      obtain ⟨rfl, rfl, rfl⟩ := hcs
      exact ⟨zs, .inr ⟨_, rfl, hl, hm, by simpa using hz, hcell, hwz⟩⟩
  clear hA0 hval0
  refine (walk a0 len0 cap0 z0 W w0 hK hZ).mono fun e W' ⟨he, bel⟩ => ?_
  subst he
  exact ⟨_, rfl, _, _, _, [], _, _, hW', trodAll_mk1 (shut_bool Tryd.underlying4 _), (trodAll_cons_mk (Below.trod laidOut (by kernel_rfl) (of_decide_eq_true (by kernel_rfl)) k0 bel lt0) trodAll_mk0), kept hvar hdV hltV hZ bel, bel.frame _, fun h => by cases h⟩

theorem over : Rows.fnMacsRow.holds Tryd.pinned (OpenSpec.ofChange Rows.fnMacsSpec) :=
  OpenClaim.holds_of_wide 4 Tryd.f4 rfl rfl rfl rfl rfl rfl rfl ⟨rfl, rfl, rfl, rfl, rfl⟩ rfl rfl rfl rfl rfl (by kernel_rfl) Tryd.func4 (by kernel_rfl)
    (of_decide_eq_true (by kernel_rfl)) (by unfold Func.isWrapper; first | (rw [if_pos (by decide +kernel)]; kernel_rfl) | (rw [if_neg (by decide +kernel)]; exact ⟨rfl, rfl⟩))
    (fun os started H enc _ => lifted os started H enc)

theorem proved : Rows.FnMacsCardSaid :=
  Claim7.holds_tied_plain_at .later [] [.data] true (true, "5ab6be7ec9fb1793854813935eeed2d9359cfae5b3139d8dced38138e6f1fa19") false
    over (fun _ h => by cases h) (by kernel_rfl) (fun _ h => by cases h) fnMacs_row_tie rfl ⟨rfl, rfl⟩ (by kernel_rfl) rfl
    (fun f fn hf hfn => by
      obtain rfl : f = 4 := Option.some.inj ((show Tryd.prog.funcNamed "loop.example/g00228/laws.FnMacs" = some 4 by kernel_rfl).symm.trans hf) |>.symm
      obtain rfl : fn = Tryd.f4 := (Option.some.inj (Tryd.func4.symm.trans hfn)).symm
      exact ⟨by kernel_rfl, fun j t ht => by
        have hall : Tryd.f4.params.all (fun t => Tryd.prog.wantsStandIn t == false) = true := by kernel_rfl
        obtain ⟨hj, rfl⟩ := Array.getElem?_eq_some_iff.1 ht
        exact beq_iff_eq.1 (Array.all_eq_true.1 hall j hj)⟩)
    (by kernel_rfl)
#print axioms proved
end Go.Proofs.YtgemdegdimeniaaDoor.fnMacs
