/-
  The longest that an old text holds of what comes: the code's function.
-/
import Derived.Test.YtpeddaljgmkomaaDlC
namespace Go.Proofs.Ytpeddaljgmkomaa
open Go.RowKit
open Go.Maps (Keyed)
set_option linter.unusedVariables false
set_option linter.unusedSimpArgs false
def lgM (N : Nat) (z : Value) : Value → Nat
  | .bool true => N + 1 - (lonIntOf z).toNat
  | _ => 0
set_option maxRecDepth 100000 in
set_option maxHeartbeats 1000000 in
theorem longest6_any (o s : ByteArray) (a B : Nat) (w : World) (ho : o.size ≤ 4000) (hs : s.size ≤ 4000) (ha : a ≤ s.size) (hP : PO6 o B w) :
    Calls Try.prog 99 #[.agg (opV o B), .string (s.extract a s.size)] w fun e w' => e = .returned (.tuple #[.int .i64 ((lg o s a).1 : Nat), .int .i64 ((lg o s a).2 : Nat)]) ∧ Below w.heap.size w w' := by
  have hRs : (s.extract a s.size).size = s.size - a := by rw [ByteArray.size_extract]; omega
  unfold opV
  by_cases h6 : a + 6 ≤ s.size
  · have hL : ∀ d n, IsB (g6 (fo o s a)) o.size d n → lg o s a = (d - 1, n) := fun d n h => lg_of h
    have HL := hid hL
    have HPO : Hid (∀ w', Below w.heap.size w w' → PO6 o B w') := fun w' hb => hP.below hb hP.lt
    have HKEY : Hid _ := keyOf_six arr6_key Try.underlying5 types_some (bsOf_lt s) a
    have HSM : Hid (∀ (p : Nat) w, p ≤ o.size → Calls Try.prog 105 #[.string (o.extract p o.size), .string ((s.extract a s.size).extract 0 (clM o s p a))] w fun e w' => (∃ n : Nat, fo o s a (p + 1) = n ∧ n ≤ s.size - a ∧ e = .returned (.int .i64 (n : Int))) ∧ Below w.heap.size w w') := fun p w hp => by
      have hc : clM o s p a = min (o.size - p) (s.size - a) := rfl
      have hy : ((s.extract a s.size).extract 0 (clM o s p a)).size = clM o s p a := by rw [ByteArray.size_extract, hRs]; omega
      have hx : (o.extract p o.size).size = o.size - p := by rw [ByteArray.size_extract]; omega
      refine (same_any (o.extract p o.size) ((s.extract a s.size).extract 0 (clM o s p a)) w (by omega) (by omega)).mono ?_
      rintro e w' ⟨⟨n, h1, h2, h3, rfl⟩, hb⟩
      rw [hy] at h1 h3
      exact ⟨⟨n, same_cl hp ha h1 h2 h3, by omega, rfl⟩, hb⟩
    obtain ⟨W4, hW4⟩ : ∃ W4, W4 = ((w.alloc (.cells #[.string o, .map (some (B + 1)), .slice (some ⟨B + 2, 0, none⟩) o.size o.size] 118)).alloc (.cells #[.int .u8 0, .int .u8 0, .int .u8 0, .int .u8 0, .int .u8 0, .int .u8 0] 129)).setCells (w.heap.size + 1) 0 [.int .u8 (bsOf s a : Nat), .int .u8 (bsOf s (a + 1) : Nat), .int .u8 (bsOf s (a + 2) : Nat), .int .u8 (bsOf s (a + 3) : Nat), .int .u8 (bsOf s (a + 4) : Nat), .int .u8 (bsOf s (a + 5) : Nat)] := ⟨_, rfl⟩
    have HCP : Hid (∀ ty, (Builtin.copy_ #[39, 9] ty #[.slice (some ⟨w.heap.size + 1, 0, none⟩) 6 6, .string (s.extract a s.size)]).run Try.prog ((w.alloc (.cells #[.string o, .map (some (B + 1)), .slice (some ⟨B + 2, 0, none⟩) o.size o.size] 118)).alloc (.cells #[.int .u8 0, .int .u8 0, .int .u8 0, .int .u8 0, .int .u8 0, .int .u8 0] 129)) = .ok (goInt 6) W4) := fun ty => by
      have hr : ((w.alloc (.cells #[.string o, .map (some (B + 1)), .slice (some ⟨B + 2, 0, none⟩) o.size o.size] 118)).alloc (.cells #[.int .u8 0, .int .u8 0, .int .u8 0, .int .u8 0, .int .u8 0, .int .u8 0] 129)).heap[w.heap.size + 1]? = some (.cells #[.int .u8 0, .int .u8 0, .int .u8 0, .int .u8 0, .int .u8 0, .int .u8 0] 129 (0, 0)) := by
        have h := heap_alloc_new (w.alloc (.cells #[.string o, .map (some (B + 1)), .slice (some ⟨B + 2, 0, none⟩) o.size o.size] 118)) (.cells #[.int .u8 0, .int .u8 0, .int .u8 0, .int .u8 0, .int .u8 0, .int .u8 0] 129)
        simpa using h
      have h := copy_six _ ty (w.heap.size + 1) (s.extract a s.size) #[.int .u8 0, .int .u8 0, .int .u8 0, .int .u8 0, .int .u8 0, .int .u8 0] (by omega) rfl hr
      rw [bsOf_ext _ _ _ _ (by omega), bsOf_ext _ _ _ _ (by omega), bsOf_ext _ _ _ _ (by omega), bsOf_ext _ _ _ _ (by omega), bsOf_ext _ _ _ _ (by omega), bsOf_ext _ _ _ _ (by omega)] at h
      rw [hW4]; exact h
    have HWA : Hid (Below w.heap.size w W4 ∧ W4.heap[w.heap.size]? = some (.cells #[.string o, .map (some (B + 1)), .slice (some ⟨B + 2, 0, none⟩) o.size o.size] 118 (0, 0)) ∧ W4.heap[w.heap.size + 1]? = some (.cells #[.int .u8 (bsOf s a : Nat), .int .u8 (bsOf s (a + 1) : Nat), .int .u8 (bsOf s (a + 2) : Nat), .int .u8 (bsOf s (a + 3) : Nat), .int .u8 (bsOf s (a + 4) : Nat), .int .u8 (bsOf s (a + 5) : Nat)] 129 (0, 0))) := by
      rw [hW4]
      have e : ∀ (W : World) (k t : Nat) (v : Value), k ≠ w.heap.size + 1 → (W.setCell ⟨w.heap.size + 1, t, none⟩ v).heap[k]? = W.heap[k]? := fun W k t v hk => heap_setCell_other W ⟨w.heap.size + 1, t, none⟩ k v hk
      refine ⟨?_, ?_, ?_⟩
      · exact ((((((((Below.refl _ _).alloc (Nat.le_refl _) _).alloc (by simp) _).setCell (p := ⟨w.heap.size + 1, 0, none⟩) (by show _ ≤ w.heap.size + 1; omega) _).setCell (p := ⟨w.heap.size + 1, 1, none⟩) (by show _ ≤ w.heap.size + 1; omega) _).setCell (p := ⟨w.heap.size + 1, 2, none⟩) (by show _ ≤ w.heap.size + 1; omega) _).setCell (p := ⟨w.heap.size + 1, 3, none⟩) (by show _ ≤ w.heap.size + 1; omega) _).setCell (p := ⟨w.heap.size + 1, 4, none⟩) (by show _ ≤ w.heap.size + 1; omega) _).setCell (p := ⟨w.heap.size + 1, 5, none⟩) (by show _ ≤ w.heap.size + 1; omega) _
      · show ((((((World.setCell _ ⟨w.heap.size + 1, 0, none⟩ _).setCell ⟨w.heap.size + 1, 1, none⟩ _).setCell ⟨w.heap.size + 1, 2, none⟩ _).setCell ⟨w.heap.size + 1, 3, none⟩ _).setCell ⟨w.heap.size + 1, 4, none⟩ _).setCell ⟨w.heap.size + 1, 5, none⟩ _).heap[w.heap.size]? = _
        rw [e _ _ _ _ (by omega), e _ _ _ _ (by omega), e _ _ _ _ (by omega), e _ _ _ _ (by omega), e _ _ _ _ (by omega), e _ _ _ _ (by omega), Below.heap_alloc _ _ _ (by simp)]
        exact heap_alloc_new w _
      · have h := heap_alloc_new (w.alloc (.cells #[.string o, .map (some (B + 1)), .slice (some ⟨B + 2, 0, none⟩) o.size o.size] 118)) (.cells #[.int .u8 0, .int .u8 0, .int .u8 0, .int .u8 0, .int .u8 0, .int .u8 0] 129)
        have h : ((w.alloc (.cells #[.string o, .map (some (B + 1)), .slice (some ⟨B + 2, 0, none⟩) o.size o.size] 118)).alloc (.cells #[.int .u8 0, .int .u8 0, .int .u8 0, .int .u8 0, .int .u8 0, .int .u8 0] 129)).heap[w.heap.size + 1]? = some (.cells #[.int .u8 0, .int .u8 0, .int .u8 0, .int .u8 0, .int .u8 0, .int .u8 0] 129 (0, 0)) := by simpa using h
        exact heap_setCell_same _ _ _ _ _ _ (heap_setCell_same _ _ _ _ _ _ (heap_setCell_same _ _ _ _ _ _ (heap_setCell_same _ _ _ _ _ _ (heap_setCell_same _ _ _ _ _ _ (heap_setCell_same _ _ _ _ _ _ h)))))
    have HOWN := hid (hP.below HWA.out.1 hP.lt).own
    have HROW := hid HWA.out.2.2
    have HCC : Hid (∃ (b : Bool) (p : Nat), Maps.has (C6 (bsOf o) (o.size - 5) (o.size - 5)) (kl6 (bsOf s) a) = b ∧ p ≤ 4000 ∧ (C6 (bsOf o) (o.size - 5) (o.size - 5)).atKey (kl6 (bsOf s) a) (.lit (.int .i64 0)) = .lit (.int .i64 (p : Int)) ∧ LS o s a 0 0 p b) := by
      rcases C6_cases (bsOf o) (o.size - 5) (kl6 (bsOf s) a) (o.size - 5) (Nat.le_refl _) with h | ⟨q, h1, h2, h3, h4⟩
      · have hh := C6_none (bs := bsOf o) (o.size - 5) (Nat.le_refl _) h
        exact ⟨false, 0, hh, by omega, Maps.atKey_of_not_has hh _, (fun c => by cases c), fun _ => isB_skip h6 (IsB.zero _) (Nat.zero_le _) fun q q1 q2 q3 => h q (by omega) q3⟩
      · have hh := C6_some (bs := bsOf o) (o.size - 5) (Nat.le_refl _) h1 h2 h3 h4
        exact ⟨true, q, hh.1, by omega, hh.2 _, (fun _ => ⟨h2, h3, isB_skip h6 (IsB.zero _) (Nat.zero_le _) fun r q1 q2 q3 => h4 r (by omega) q2⟩), fun c => by cases c⟩
    have x1 : W4.cell? ⟨w.heap.size, 1, none⟩ = some (.map (some (B + 1))) := cell_of_row W4 _ 1 _ _ _ HWA.out.2.1
    have hR6 : ¬ ((s.extract a s.size).size : Int) < 6 := by omega
    have hsl := arr6_slice
    have info6 : Option.map (·.size) (Try.prog.info? 129) = some 6 := by kernel_rfl
    clear hW4 hL hP
    generalize bsOf s a = c0 at HKEY HCP HWA HROW
    generalize bsOf s (a + 1) = c1 at HKEY HCP HWA HROW
    generalize bsOf s (a + 2) = c2 at HKEY HCP HWA HROW
    generalize bsOf s (a + 3) = c3 at HKEY HCP HWA HROW
    generalize bsOf s (a + 4) = c4 at HKEY HCP HWA HROW
    generalize bsOf s (a + 5) = c5 at HKEY HCP HWA HROW
    generalize hRR : s.extract a s.size = R at HCP HSM hRs hR6 ⊢
    clear hRR
    have HRS := hid hRs
    clear hRs
    have hcp := HCP.out 3
    go_enter Try.func99, Try.ntmps99
    go_wp2_with (first
      | (at_builtin; refine Lib.wpList_copy_run _ rfl _ _ 39 9 rfl _ _ rfl rfl (HCP.out _) ?_)
      | (refine wpList_load_row rfl 129 _ rfl (w.heap.size + 1) rfl 129 #[.int .u8 (c0 : Nat), .int .u8 (c1 : Nat), .int .u8 (c2 : Nat), .int .u8 (c3 : Nat), .int .u8 (c4 : Nat), .int .u8 (c5 : Nat)] (0, 0) _ HROW.out Try.underlying129 rfl info6 ?_)
      | (at_lookup; refine wpList_lookup_own_ok_int _ rfl _ _ 115 rfl 129 3 .i64 arr6_law Try.underlying115 Try.underlying3 (zeroI _) (B + 1) (o.size - 5) (C6 (bsOf o) (o.size - 5) (o.size - 5)) rfl HOWN.out _ _ rfl HKEY.out ?_; intro c hat hwc; refine hold_goal ?_))
    obtain ⟨b, p, hh, hp4, hat2, hLS⟩ := HCC.out
    rw [hh]
    rw [hat2] at hat
    obtain rfl : (p : Int) = c := by injection hat with h; injection h
    have HLS := hid hLS
    clear hat hat2 hwc hh hLS HCC HOWN HROW HKEY HCP x1 info6 hsl hcp
    refine id ?_
    unfold Hid
    go_wp2_with fail
    have HB0 := hid HWA.out.1
    have HR0 := hid HWA.out.2.1
    clear HWA
    go_loopw [7, 8, 9, 10] (fun x y z m wr => ∃ (d n p : Nat) (b : Bool), n ≤ s.size - a ∧ p ≤ 4000 ∧ x = .int .i64 ((d - 1 : Nat) : Int) ∧ y = .int .i64 (n : Int) ∧ z = .int .i64 (p : Int) ∧ m = .bool b ∧ Hid (LS o s a d n p b) ∧ Hid (Below w.heap.size w wr) ∧ Hid (wr.heap[w.heap.size]? = some (.cells #[.string o, .map (some (B + 1)), .slice (some ⟨B + 2, 0, none⟩) o.size o.size] 118 (0, 0)))) (fun _ _ z m _ => lgM o.size z m)
    case atStart => exact ⟨0, 0, p, b, by omega, hp4, rfl, rfl, rfl, rfl, HLS, HB0, HR0⟩
    case round =>
      clear HLS HB0 HR0 hp4
      obtain ⟨d, n, p, b, hn, hp4, rfl, rfl, rfl, rfl, HLS, HB, HR⟩ := hrel
      cases b with
      | false =>
        have hl := HL.out d n (HLS.out.2 rfl)
        have HLL := hid hl
        clear hl
        go_wp2_with fail
        go_ret2
        exact ⟨by rw [HLL.out]; rfl, HB.out⟩
      | true =>
        have hRs := HRS.out
        by_cases hnM : n < s.size - a
        · obtain ⟨hp, hk, hI⟩ := HLS.out.1 rfl
          have hnI : (n : Int) < (R.size : Int) := by omega
          have hcm : clM o s p a = min (o.size - p) (s.size - a) := rfl
          obtain ⟨m, hm⟩ : ∃ m, m = clM o s p a := ⟨_, rfl⟩
          have HSM2 : Hid _ := fun w => HSM.out p w (by omega)
          rw [← hm] at HSM2 hcm
          have hDs : (o.extract p o.size).size = o.size - p := by rw [ByteArray.size_extract]; omega
          have hmin : min (R.size : Int) ((o.extract p o.size).size : Int) = (m : Int) := by omega
          have hmin2 : min (R.size : Int) ((o.size - p : Nat) : Int) = (m : Int) := by omega
          have hmR : (m : Int) ≤ (R.size : Int) := by omega
          have hmR2 : m ≤ R.size := by omega
          have hpI : (p : Int) ≤ (o.size : Int) := by omega
          have hpN : p ≤ o.size := by omega
          have hpI2 : (p : Int) < (o.size : Int) := by omega
          have y0 : wr.cell? ⟨w.heap.size, 0, none⟩ = some (.string o) := cell_of_row wr _ 0 _ _ _ HR.out
          obtain ⟨v, _, hvl, hNX⟩ := (HPO.out wr HB.out).nx p hp
          have HV : Hid (∀ w', Below w.heap.size w w' → w'.cell? ⟨B + 2, p, none⟩ = some (.int .i64 (v : Int))) := fun w' hb => by
            obtain ⟨v', h1, _, h3⟩ := (HPO.out w' hb).nx p hp
            have e : v' = v := by
              rcases h3 with ⟨q1, q2⟩ | ⟨q1, q2, q3, q4⟩ <;> rcases hNX with ⟨r1, r2⟩ | ⟨r1, r2, r3, r4⟩
              · omega
              · exact absurd r3 (q2 v r1 r2)
              · exact absurd q3 (r2 v' q1 q2)
              · rcases Nat.lt_trichotomy v v' with c | c | c
                · exact absurd r3 (q4 v r1 c)
                · exact c.symm
                · exact absurd q3 (r4 v' q1 c)
            rw [← e]; exact h1
          have HK : Hid (6 ≤ fo o s a (p + 1)) := fo_key h6 hp hk
          have HI := hid hI
          have HNX := hid hNX
          have HP := hid hp
          have HKK := hid hk
          have hvI : v ≤ 4000 := by omega
          have HVP : Hid (v = 0 ∨ p < v) := by
            rcases hNX with ⟨q1, _⟩ | ⟨q1, _⟩
            · exact Or.inl q1
            · exact Or.inr q1
          clear hm hcm hI hNX hk hDs hRs
          go_wp2_with fail
          refine (HSM2.out _).mono ?_
          rintro e w5 ⟨⟨q, hq, hqn, rfl⟩, hb5⟩
          have HB5 := hid (bl3 HB.out hb5 HB.out.size)
          have HR5 := hid ((hb5.block _ (Array.getElem?_eq_some_iff.1 HR.out).1).trans HR.out)
          have y2 := cell_of_row w5 _ 2 _ _ _ HR5.out
          simp only [List.getElem?_toArray, List.getElem?_cons_zero, List.getElem?_cons_succ] at y2
          have yv := HV.out w5 HB5.out
          have hg6 : g6 (fo o s a) (p + 1) = q := by unfold g6; rw [if_pos HK.out, hq]
          have hvb : decide ((0 : Int) < (v : Int)) = decide (0 < v) := by
            by_cases c : 0 < v
            · rw [decide_eq_true c, decide_eq_true (by omega)]
            · rw [decide_eq_false c, decide_eq_false (by omega)]
          have hmz : ∀ b, b = decide (0 < v) → lgM o.size (.int .i64 (v : Int)) (.bool b) < lgM o.size (.int .i64 (p : Int)) (.bool true) := fun b hb => by
            have hp := HP.out
            subst hb
            rcases HVP.out with c | c
            · subst c
              show 0 < o.size + 1 - (p : Int).toNat
              omega
            · rw [decide_eq_true (by omega : 0 < v)]
              show o.size + 1 - (v : Int).toNat < o.size + 1 - (p : Int).toNat
              omega
          have HMZ := hid hmz
          have HVB := hid hvb
          by_cases hg : n < q
          · have hgI : (n : Int) < (q : Int) := by omega
            have HN := hid (LS.next (d := 0) (n := 0) h6 HP.out HKK.out (HI.out.more (by rw [hg6]; exact hg)) HNX.out)
            rw [hg6] at HN
            clear hq hg6 hb5 HSM2 HV HI HNX HLS HB HR hmz hvb HVP
            go_wp2_with fail
            go_roundw
            case rel => exact ⟨p + 1, q, v, decide (0 < v), hqn, hvI, by first | rfl | (rw [Nat.add_sub_cancel]) | simp, rfl, rfl, by first | rfl | rw [HVB.out], HN, HB5, HR5⟩
            case measure => first | exact HMZ.out _ rfl | (rw [HVB.out]; exact HMZ.out _ rfl)
          · have hgI : ¬ (n : Int) < (q : Int) := by omega
            have HN := hid (LS.next (d := 0) (n := 0) h6 HP.out HKK.out (HI.out.less (by rw [hg6]; omega)) HNX.out)
            clear hq hg6 hb5 HSM2 HV HI HNX HLS HB HR hmz hvb HVP
            go_wp2_with fail
            go_roundw
            case rel => exact ⟨d, n, v, decide (0 < v), hn, hvI, rfl, rfl, rfl, by first | rfl | rw [HVB.out], HN, HB5, HR5⟩
            case measure => first | exact HMZ.out _ rfl | (rw [HVB.out]; exact HMZ.out _ rfl)
        · have hl := HL.out d n (HLS.out.full ha (by omega))
          have HLL := hid hl
          have hnI : ¬ (n : Int) < (R.size : Int) := by omega
          clear hl hRs
          go_wp2_with fail
          go_ret2
          exact ⟨by rw [HLL.out]; rfl, HB.out⟩
  · have hl : lg o s a = (0, 0) := by
      unfold lg
      rw [if_pos (by have := (bo_le o s a).2.1; omega)]
    rw [hl]
    have hR6 : ((s.extract a s.size).size : Int) < 6 := by omega
    generalize s.extract a s.size = R at hRs hR6 ⊢
    clear hl hP
    go_enter Try.func99, Try.ntmps99
    go_wp2_with fail
    go_ret2
    exact ⟨rfl, (Below.refl _ _).alloc (Nat.le_refl _) _⟩
end Go.Proofs.Ytpeddaljgmkomaa
