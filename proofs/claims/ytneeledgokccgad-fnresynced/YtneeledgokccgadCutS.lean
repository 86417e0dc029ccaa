/-
  Cuts of the specification.
-/
import Derived.Test.YtneeledgokccgadCutP
import Derived.Laws.MakeOwn
namespace Go.Proofs.Ytneeledgokccgad
open Go.RowKit
set_option linter.unusedVariables false
theorem bl_transC {B C : Nat} {a b c : World} (h : Below B a b) (k : Below C b c) (hBC : B ≤ C) : Below B a c :=
  ⟨k.os.trans h.os, k.tape.trans h.tape, k.output.trans h.output, Nat.le_trans h.size k.size, fun i hi => (k.block i (Nat.lt_of_lt_of_le hi hBC)).trans (h.block i hi)⟩
theorem scut_dec {L B M n h : Nat} : ((M : Int) ≤ (n : Int) ∨ ((L : Int) ≤ (n : Int) ∧ ((h : Int) / 2 ^ (64 - B) == 0) = true)) ↔ endsN L B M n h := by
  unfold endsN
  rw [shr_nat, decide_eq_true_iff]
  constructor
  · rintro (h | ⟨h, k⟩)
    · exact .inl (by omega)
    · exact .inr ⟨by omega, k⟩
  · rintro (h | ⟨h, k⟩)
    · exact .inl (by omega)
    · exact .inr ⟨by omega, k⟩
set_option maxRecDepth 100000 in
set_option maxHeartbeats 4000000 in
theorem scuts_any (L B M : Nat) (s : ByteArray) (hs4 : s.size ≤ 4000) (hL : 1 ≤ L ∧ L ≤ 1000) (hB : 1 ≤ B ∧ B ≤ 12) (hM : L ≤ M ∧ M ≤ 4000) (w : World) :
    Calls Try.prog 23 #[.string s, shpV L B M] w fun e w' => (∃ v, e = .returned (.tuple #[v, .bool true]) ∧ w'.ownsRow w.heap.size 2 1 v (cutL L B M 0 0 0 (lst s)).length (cutC (cutL L B M 0 0 0 (lst s)))) ∧ Below w.heap.size w w' := by
  obtain ⟨i0, hi, hz0, hz1, hz2⟩ := info_parts Try.infI
  have HA : Hid (∀ w, Calls Try.prog 47 #[shpV L B M] w fun e w' => e = .returned (.bool true) ∧ Below w.heap.size w w') := fun w => sshp_yes L B M w ⟨by omega, by omega, by omega⟩
  have HG : Hid (∀ (x : Nat) (w : World), Calls Try.prog 50 #[.int .i64 (x : Int)] w fun e w' => e = .returned (.int .u64 (gearN x : Int)) ∧ w' = w) := fun x w => by rw [← (gear_nat x).1]; exact sgear_any _ w
  unfold shpV at HA ⊢
  have hr1 := heap_alloc_new w (.cells #[.int .i64 L, .int .i64 B, .int .i64 M] 34)
  have hp0 := cell_of_row _ w.heap.size 0 _ _ _ hr1
  have hp1 := cell_of_row _ w.heap.size 1 _ _ _ hr1
  have hp2 := cell_of_row _ w.heap.size 2 _ _ _ hr1
  have hs4I : (s.size : Int) ≤ 4000 := by omega
  generalize htot : cutL L B M 0 0 0 (lst s) = tot
  go_enter Try.func23, Try.ntmps23
  go_wp2_with fail
  refine (HA.out _).mono ?_
  rintro e w2 ⟨rfl, hb⟩
  have hr2 := (hb.block _ (by simp)).trans hr1
  have hB2 : Below w.heap.size w w2 := ((Below.refl _ w).alloc (Nat.le_refl _) _).trans (hb.mono (by simp))
  have HR2 : Hid (w2.heap[w.heap.size]? = some (.cells #[.int .i64 L, .int .i64 B, .int .i64 M] 34 (0, 0)) ∧ Below w.heap.size w w2) := ⟨hr2, hB2⟩
  clear hr1 hp0 hp1 hp2 hb hr2 hB2
  go_wp2_with fail
  go_loopw [6, 7, 8, 9] (fun v f h i wr => ∃ (k fr hh : Nat) (pre : List Nat), k ≤ s.size ∧ i = .int .i64 (k : Int) ∧ f = .int .i64 (fr : Int) ∧ h = .int .u64 (hh : Int) ∧ hh < 18446744073709551616 ∧ fr ≤ k ∧ pre.length ≤ k ∧ Hid (pre ++ cutL L B M k (k - fr) hh ((lst s).drop k) = tot) ∧ wr.ownsRow w.heap.size 2 1 v pre.length (cutC pre) ∧ Hid (wr.heap[w.heap.size]? = some (.cells #[.int .i64 L, .int .i64 B, .int .i64 M] 34 (0, 0)) ∧ Below w.heap.size w wr)) (fun _ _ _ i _ => s.size - natOf i)
  case atStart => exact ⟨0, 0, 0, [], by omega, rfl, rfl, rfl, by omega, by omega, by simp, by show _ = _; simpa using htot, World.ownsRow_made w2 #[] 0 HR2.out.2.size (by unfold maxLen; omega) rfl, (Below.heap_alloc _ _ _ (lt_of_row HR2.out.1)).trans HR2.out.1, HR2.out.2.alloc HR2.out.2.size _⟩
  case round =>
    obtain ⟨k, fr, hh, pre, hk, rfl, rfl, rfl, hhl, hfr, hpl, HC, hown, HW⟩ := hrel
    by_cases hlt : k < s.size
    · have hltI : (k : Int) < (s.size : Int) := by omega
      have hp0 : wr.cell? ⟨w.heap.size, 0, none⟩ = some (.int .i64 L) := cell_of_row _ w.heap.size 0 _ _ _ HW.out.1
      have hp1 : wr.cell? ⟨w.heap.size, 1, none⟩ = some (.int .i64 B) := cell_of_row _ w.heap.size 1 _ _ _ HW.out.1
      have hp2 : wr.cell? ⟨w.heap.size, 2, none⟩ = some (.int .i64 M) := cell_of_row _ w.heap.size 2 _ _ _ HW.out.1
      have hc : s[k].toNat < 256 := s[k].toNat_lt
      have HD : Hid _ := lst_drop s k hlt
      have HE : Hid _ := lst_end s k hlt
      have hwx : wrap64 (s[k].toNat : Int) = (s[k].toNat : Int) := (by unfold wrap64; omega)
      obtain ⟨x, hx⟩ : ∃ x, x = s[k].toNat := ⟨_, rfl⟩
      have HD : Hid ((lst s).drop k = x :: (lst s).drop (k + 1)) := by rw [hx]; exact HD.out
      have HX : Hid (x = s[k].toNat ∧ gearN x < 18446744073709551616) := ⟨hx, (gear_nat x).2⟩
      clear hx
      go_wp2_with fail
      rw [hwx, ← HX.out.1]
      refine (HG.out x _).mono ?_
      rintro e w' ⟨rfl, hw⟩
      subst w'
      obtain ⟨h', hh'⟩ : ∃ h', h' = hashN hh x := ⟨_, rfl⟩
      have hwh : IntKind.u64.wrap (IntKind.u64.wrap ((hh : Int) * 2) + (gearN x : Int)) = (h' : Int) := by
        have := HX.out.2
        rw [IntKind.wrap_u64, IntKind.wrap_u64, hh']; unfold hashN; omega
      have hhl' : h' < 18446744073709551616 := by rw [hh']; exact hashN_lt _ _
      obtain ⟨m, hm⟩ : ∃ m, m = k - fr + 1 := ⟨_, rfl⟩
      have hmI : (k : Int) - (fr : Int) + 1 = (m : Int) := by omega
      have HH : Hid (h' = hashN hh x ∧ m = k - fr + 1) := ⟨hh', hm⟩
      clear hwx hh' hm
      generalize gearN x = G at hwh
      have HEN : Hid (endsN L B M m h' ↔ endsN L B M (k - fr + 1) (hashN hh x)) := by rw [HH.out.1, HH.out.2]; exact Iff.rfl
      have hsh := shr_nat h' (64 - B)
      obtain ⟨z, hz⟩ : ∃ z : Bool, ((h' : Int) / 2 ^ (64 - B) == 0) = z := ⟨_, rfl⟩
      have HZ : Hid (z = decide (h' / 2 ^ (64 - B) = 0)) := hz.symm.trans hsh
      clear hsh
      by_cases hA : (M : Int) ≤ (m : Int)
      · have HT : Hid (endsN L B M (k - fr + 1) (hashN hh x)) := HEN.out.1 (.inl (by omega))
        go_wp2_with (at_builtin; (refine wpList_append_own _ rfl _ _ 40 rfl w.heap.size 2 i0 _ 1 8 Try.underlying40 hi hz0 hz1 hz2 rfl (by decide) _ _ _ rfl (hown.alloc _) ⟨wr.heap.size, 0, none⟩ 1 1 [_] rfl rfl (cell_one_new _ _ _) ?c2 ?c3 ?c4 ?c5 ?_))
        case c2 => simp [Value.oneCell']
        case c3 => unfold maxLen; omega
        case c4 => omega
        case c5 => have := HW.out.2.size; simp; omega
        intro v' w4 hown' hgrow _
        have H4 : Hid (w4.ownsRow w.heap.size 2 1 v' (pre.length + 1) (cutC pre ++ [Value.int .i64 ((k : Int) + 1)]) ∧ w4.heap[w.heap.size]? = some (.cells #[.int .i64 L, .int .i64 B, .int .i64 M] 34 (0, 0)) ∧ Below w.heap.size w w4) :=
          ⟨hown', (hgrow.block _ (by have := lt_of_row HW.out.1; simp; omega) (row_apart (by decide) hown HW.out.1)).trans ((Below.heap_alloc _ _ _ (lt_of_row HW.out.1)).trans HW.out.1), (HW.out.2.alloc HW.out.2.size _).grown hgrow (by have := HW.out.2.size; simp; omega) (fun k hk => (hown.lt k hk).1)⟩
        clear hown' hgrow hown hp0 hp1 hp2
        go_wp2_with fail
        go_roundw
        case rel => exact ⟨k + 1, k + 1, 0, pre ++ [k + 1], by omega, by first | rfl | simp, by first | rfl | simp, rfl, by omega, by omega, by simp; omega, by
          show _ = _
          rw [← HC.out, HD.out, cutL_cut (.inr HT.out)]
          simp, by
          have e3 : cutC (pre ++ [k + 1]) = cutC pre ++ [Value.int .i64 ((k : Int) + 1)] := by simp [cutC]
          rw [e3, List.length_append]; exact H4.out.1, H4.out.2⟩
        case measure => simp [natOf]; omega
      · have hA' : (m : Int) < (M : Int) := by omega
        by_cases hL2 : (L : Int) ≤ (m : Int)
        · cases z with
          | true =>
            have HT : Hid (endsN L B M (k - fr + 1) (hashN hh x)) := HEN.out.1 (.inr ⟨by omega, of_decide_eq_true HZ.out.symm⟩)
            go_wp2_with (at_builtin; (refine wpList_append_own _ rfl _ _ 40 rfl w.heap.size 2 i0 _ 1 8 Try.underlying40 hi hz0 hz1 hz2 rfl (by decide) _ _ _ rfl (hown.alloc _) ⟨wr.heap.size, 0, none⟩ 1 1 [_] rfl rfl (cell_one_new _ _ _) ?c2 ?c3 ?c4 ?c5 ?_))
            case c2 => simp [Value.oneCell']
            case c3 => unfold maxLen; omega
            case c4 => omega
            case c5 => have := HW.out.2.size; simp; omega
            intro v' w4 hown' hgrow _
            have H4 : Hid (w4.ownsRow w.heap.size 2 1 v' (pre.length + 1) (cutC pre ++ [Value.int .i64 ((k : Int) + 1)]) ∧ w4.heap[w.heap.size]? = some (.cells #[.int .i64 L, .int .i64 B, .int .i64 M] 34 (0, 0)) ∧ Below w.heap.size w w4) :=
              ⟨hown', (hgrow.block _ (by have := lt_of_row HW.out.1; simp; omega) (row_apart (by decide) hown HW.out.1)).trans ((Below.heap_alloc _ _ _ (lt_of_row HW.out.1)).trans HW.out.1), (HW.out.2.alloc HW.out.2.size _).grown hgrow (by have := HW.out.2.size; simp; omega) (fun k hk => (hown.lt k hk).1)⟩
            clear hown' hgrow hown hp0 hp1 hp2
            go_wp2_with fail
            go_roundw
            case rel => exact ⟨k + 1, k + 1, 0, pre ++ [k + 1], by omega, by first | rfl | simp, by first | rfl | simp, rfl, by omega, by omega, by simp; omega, by
              show _ = _
              rw [← HC.out, HD.out, cutL_cut (.inr HT.out)]
              simp, by
              have e3 : cutC (pre ++ [k + 1]) = cutC pre ++ [Value.int .i64 ((k : Int) + 1)] := by simp [cutC]
              rw [e3, List.length_append]; exact H4.out.1, H4.out.2⟩
            case measure => simp [natOf]; omega
          | false =>
            have HF : Hid (¬ endsN L B M (k - fr + 1) (hashN hh x)) := fun c => (HEN.out.2 c).elim (fun q => (by omega)) (fun q => of_decide_eq_false HZ.out.symm q.2)
            by_cases hl : k + 1 = s.size
            · have hqe : ((k : Int) + 1 == (s.size : Int)) = true := beq_iff_eq.2 (by omega)
              have HT : Hid ((lst s).drop (k + 1) = []) := HE.out.2 hl
              clear hl
              go_wp2_with (at_builtin; (refine wpList_append_own _ rfl _ _ 40 rfl w.heap.size 2 i0 _ 1 8 Try.underlying40 hi hz0 hz1 hz2 rfl (by decide) _ _ _ rfl (hown.alloc _) ⟨wr.heap.size, 0, none⟩ 1 1 [_] rfl rfl (cell_one_new _ _ _) ?c2 ?c3 ?c4 ?c5 ?_))
              case c2 => simp [Value.oneCell']
              case c3 => unfold maxLen; omega
              case c4 => omega
              case c5 => have := HW.out.2.size; simp; omega
              intro v' w4 hown' hgrow _
              have H4 : Hid (w4.ownsRow w.heap.size 2 1 v' (pre.length + 1) (cutC pre ++ [Value.int .i64 ((k : Int) + 1)]) ∧ w4.heap[w.heap.size]? = some (.cells #[.int .i64 L, .int .i64 B, .int .i64 M] 34 (0, 0)) ∧ Below w.heap.size w w4) :=
                ⟨hown', (hgrow.block _ (by have := lt_of_row HW.out.1; simp; omega) (row_apart (by decide) hown HW.out.1)).trans ((Below.heap_alloc _ _ _ (lt_of_row HW.out.1)).trans HW.out.1), (HW.out.2.alloc HW.out.2.size _).grown hgrow (by have := HW.out.2.size; simp; omega) (fun k hk => (hown.lt k hk).1)⟩
              clear hown' hgrow hown hp0 hp1 hp2
              go_wp2_with fail
              go_roundw
              case rel => exact ⟨k + 1, k + 1, 0, pre ++ [k + 1], by omega, by first | rfl | simp, by first | rfl | simp, rfl, by omega, by omega, by simp; omega, by
                show _ = _
                rw [← HC.out, HD.out, cutL_cut (.inl HT.out)]
                simp, by
                have e3 : cutC (pre ++ [k + 1]) = cutC pre ++ [Value.int .i64 ((k : Int) + 1)] := by simp [cutC]
                rw [e3, List.length_append]; exact H4.out.1, H4.out.2⟩
              case measure => simp [natOf]; omega
            · have hqe : ((k : Int) + 1 == (s.size : Int)) = false := beq_eq_false_iff_ne.2 (by omega)
              have HN : Hid (¬ k + 1 = s.size) := hl
              clear hl
              go_wp2_with fail
              go_roundw
              case rel => exact ⟨k + 1, fr, h', pre, by omega, by first | rfl | simp, rfl, by first | rfl | simp, hhl', by omega, by omega, by
                show _ = _
                rw [← HC.out, HD.out, cutL_on (fun c => c.elim (fun e => HN.out (HE.out.1 e)) HF.out)]
                have e3 : k + 1 - fr = k - fr + 1 := by omega
                rw [e3, HH.out.1], hown, HW⟩
              case measure => simp [natOf]; omega
        · have HF : Hid (¬ endsN L B M (k - fr + 1) (hashN hh x)) := fun c => (HEN.out.2 c).elim (fun q => (by omega)) (fun q => (by have := q.1; omega))
          by_cases hl : k + 1 = s.size
          · have hqe : ((k : Int) + 1 == (s.size : Int)) = true := beq_iff_eq.2 (by omega)
            have HT : Hid ((lst s).drop (k + 1) = []) := HE.out.2 hl
            clear hl
            go_wp2_with (at_builtin; (refine wpList_append_own _ rfl _ _ 40 rfl w.heap.size 2 i0 _ 1 8 Try.underlying40 hi hz0 hz1 hz2 rfl (by decide) _ _ _ rfl (hown.alloc _) ⟨wr.heap.size, 0, none⟩ 1 1 [_] rfl rfl (cell_one_new _ _ _) ?c2 ?c3 ?c4 ?c5 ?_))
            case c2 => simp [Value.oneCell']
            case c3 => unfold maxLen; omega
            case c4 => omega
            case c5 => have := HW.out.2.size; simp; omega
            intro v' w4 hown' hgrow _
            have H4 : Hid (w4.ownsRow w.heap.size 2 1 v' (pre.length + 1) (cutC pre ++ [Value.int .i64 ((k : Int) + 1)]) ∧ w4.heap[w.heap.size]? = some (.cells #[.int .i64 L, .int .i64 B, .int .i64 M] 34 (0, 0)) ∧ Below w.heap.size w w4) :=
              ⟨hown', (hgrow.block _ (by have := lt_of_row HW.out.1; simp; omega) (row_apart (by decide) hown HW.out.1)).trans ((Below.heap_alloc _ _ _ (lt_of_row HW.out.1)).trans HW.out.1), (HW.out.2.alloc HW.out.2.size _).grown hgrow (by have := HW.out.2.size; simp; omega) (fun k hk => (hown.lt k hk).1)⟩
            clear hown' hgrow hown hp0 hp1 hp2
            go_wp2_with fail
            go_roundw
            case rel => exact ⟨k + 1, k + 1, 0, pre ++ [k + 1], by omega, by first | rfl | simp, by first | rfl | simp, rfl, by omega, by omega, by simp; omega, by
              show _ = _
              rw [← HC.out, HD.out, cutL_cut (.inl HT.out)]
              simp, by
              have e3 : cutC (pre ++ [k + 1]) = cutC pre ++ [Value.int .i64 ((k : Int) + 1)] := by simp [cutC]
              rw [e3, List.length_append]; exact H4.out.1, H4.out.2⟩
            case measure => simp [natOf]; omega
          · have hqe : ((k : Int) + 1 == (s.size : Int)) = false := beq_eq_false_iff_ne.2 (by omega)
            have HN : Hid (¬ k + 1 = s.size) := hl
            clear hl
            go_wp2_with fail
            go_roundw
            case rel => exact ⟨k + 1, fr, h', pre, by omega, by first | rfl | simp, rfl, by first | rfl | simp, hhl', by omega, by omega, by
              show _ = _
              rw [← HC.out, HD.out, cutL_on (fun c => c.elim (fun e => HN.out (HE.out.1 e)) HF.out)]
              have e3 : k + 1 - fr = k - fr + 1 := by omega
              rw [e3, HH.out.1], hown, HW⟩
            case measure => simp [natOf]; omega
    · obtain rfl : k = s.size := by omega
      have hnil : (lst s).drop s.size = [] := by rw [List.drop_eq_nil_iff, lst_len]; omega
      have hpt : pre = tot := by have := HC.out; rw [hnil] at this; simpa [cutL] using this
      subst hpt
      clear HC hnil
      go_wp2_with fail
      go_ret2
      exact ⟨⟨_, rfl, hown⟩, HW.out.2⟩
set_option maxRecDepth 100000 in
set_option maxHeartbeats 2000000 in
theorem scuts_no (l b m : Int) (s : ByteArray) (hs : s.size < 140737488351232) (hp : ¬ (shpP l b m ∧ s.size ≤ 4000)) (w : World) :
    Calls Try.prog 23 #[.string s, shpV l b m] w fun e w' => e = .returned (.tuple #[.slice none 0 0, .bool false]) ∧ Below w.heap.size w w' := by
  have hr1 := heap_alloc_new w (.cells #[.int .i64 l, .int .i64 b, .int .i64 m] 34)
  have hp0 := cell_of_row _ w.heap.size 0 _ _ _ hr1
  have hp1 := cell_of_row _ w.heap.size 1 _ _ _ hr1
  have hp2 := cell_of_row _ w.heap.size 2 _ _ _ hr1
  by_cases hq : shpP l b m
  · have h4 : (4000 : Int) < (s.size : Int) := by
      have : ¬ s.size ≤ 4000 := fun c => hp ⟨hq, c⟩
      omega
    have HA : Hid (∀ w, Calls Try.prog 47 #[shpV l b m] w fun e w' => e = .returned (.bool true) ∧ Below w.heap.size w w') := fun w => sshp_yes l b m w hq
    unfold shpV at HA ⊢
    clear hp hq
    go_enter Try.func23, Try.ntmps23
    go_wp2_with fail
    refine (HA.out _).mono ?_
    rintro e w2 ⟨rfl, hb⟩
    go_wp2_with fail
    go_ret2
    exact ⟨rfl, ((Below.refl _ w).alloc (Nat.le_refl _) _).trans (hb.mono (by simp))⟩
  · have HA : Hid (∀ w, Calls Try.prog 47 #[shpV l b m] w fun e w' => e = .returned (.bool false) ∧ Below w.heap.size w w') := fun w => sshp_no l b m w hq
    unfold shpV at HA ⊢
    clear hp hq
    go_enter Try.func23, Try.ntmps23
    go_wp2_with fail
    refine (HA.out _).mono ?_
    rintro e w2 ⟨rfl, hb⟩
    go_wp2_with fail
    go_ret2
    exact ⟨rfl, ((Below.refl _ w).alloc (Nat.le_refl _) _).trans (hb.mono (by simp))⟩
end Go.Proofs.Ytneeledgokccgad
