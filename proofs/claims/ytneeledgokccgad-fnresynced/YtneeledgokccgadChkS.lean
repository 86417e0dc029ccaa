/-
  Chunks of the specification.
-/
import Derived.Test.YtneeledgokccgadCutS
import Derived.Test.YtneeledgokccgadChkP
namespace Go.Proofs.Ytneeledgokccgad
open Go.RowKit
set_option linter.unusedVariables false
theorem own_formJ {w : World} {B n : Nat} {e : TypeId} {v : Value} {xs : List Value} (h : w.ownsRow B e 1 v n xs) (h0 : 0 < n) :
    ∃ g cap cur, v = .slice (some ⟨g, 0, none⟩) n cap ∧ B ≤ g ∧ w.heap[g]? = some (.cells cur e (0, 0)) ∧ n ≤ cur.size ∧ ∀ (j : Nat) (u : Value), xs[j]? = some u → cur[j]? = some u := by
  obtain ⟨hl, ⟨_, h1⟩ | ⟨g, cap, cur, h1, h2, h3, h4, h5, h6, h7⟩⟩ := h
  · omega
  · refine ⟨g, cap, cur, h1, h2, h3, by omega, fun j u hj => ?_⟩
    rw [← h7, List.getElem?_take] at hj
    split at hj
    · simpa using hj
    · cases hj
theorem own_cap {w : World} {B n : Nat} {e : TypeId} {a : Option Addr} {m c : Nat} {xs : List Value} (h : w.ownsRow B e 1 (.slice a m c) n xs) : m ≤ c := by
  obtain ⟨hl, ⟨h0, _⟩ | ⟨g, cap, cur, h1, h2, h3, h4, h5, h6, h7⟩⟩ := h
  · cases h0; exact Nat.le_refl _
  · cases h1; first | exact h4 | exact h5 | omega
theorem own_zeroJ {w : World} {B : Nat} {e : TypeId} {v : Value} {xs : List Value} (h : w.ownsRow B e 1 v 0 xs) : ∃ a c, v = .slice a 0 c := by
  obtain ⟨hl, ⟨h0, _⟩ | ⟨g, cap, cur, h1, _⟩⟩ := h
  · exact ⟨_, _, h0⟩
  · exact ⟨_, _, h1⟩
set_option maxRecDepth 100000 in
set_option maxHeartbeats 4000000 in
theorem l8_any (L B M : Nat) (s : ByteArray) (hs4 : s.size ≤ 4000) (hL : 1 ≤ L ∧ L ≤ 1000) (hB : 1 ≤ B ∧ B ≤ 12) (hM : L ≤ M ∧ M ≤ 4000) (w : World) :
    Calls Try.prog 48 #[.string s, shpV L B M] w fun e w' => (∃ v, e = .returned v ∧ w'.ownsRow w.heap.size 9 1 v (cutL L B M 0 0 0 (lst s)).length (chkC (chkL s 0 (cutL L B M 0 0 0 (lst s))))) ∧ Below w.heap.size w w' := by
  obtain ⟨i0, hi, hz0, hz1, hz2⟩ := info_parts Try.infS
  have HC : Hid (∀ w, Calls Try.prog 23 #[.string s, shpV L B M] w fun e w' => (∃ v, e = .returned (.tuple #[v, .bool true]) ∧ w'.ownsRow w.heap.size 2 1 v (cutL L B M 0 0 0 (lst s)).length (cutC (cutL L B M 0 0 0 (lst s)))) ∧ Below w.heap.size w w') := fun w => scuts_any L B M s hs4 hL hB hM w
  have HO : Hid (∀ k, (hk : k < (cutL L B M 0 0 0 (lst s)).length) → lastC 0 ((cutL L B M 0 0 0 (lst s)).take k) < (cutL L B M 0 0 0 (lst s))[k] ∧ (cutL L B M 0 0 0 (lst s))[k] ≤ s.size) := fun k hk => by
    have h := cut_order (L := L) (B := B) (M := M) (l := lst s) (pre := (cutL L B M 0 0 0 (lst s)).take k) (x := (cutL L B M 0 0 0 (lst s))[k]) (by rw [← List.take_succ_eq_append_getElem hk]; exact List.take_prefix _ _)
    rw [lst_len] at h; exact h
  have HLn : Hid ((cutL L B M 0 0 0 (lst s)).length ≤ 4000) := by
    show _ ≤ _
    have := cutL_len (L := L) (B := B) (M := M) 0 0 0 (lst s)
    rw [lst_len] at this; omega
  unfold shpV at HC ⊢
  generalize cutL L B M 0 0 0 (lst s) = tot at *
  have hr1 := heap_alloc_new w (.cells #[.int .i64 L, .int .i64 B, .int .i64 M] 34)
  have hp0 := cell_of_row _ w.heap.size 0 _ _ _ hr1
  have hp1 := cell_of_row _ w.heap.size 1 _ _ _ hr1
  have hp2 := cell_of_row _ w.heap.size 2 _ _ _ hr1
  go_enter Try.func48, Try.ntmps48
  go_wp2_with fail
  refine (HC.out _).mono ?_
  rintro e w2 ⟨⟨v, rfl, hown⟩, hb⟩
  have hB2 : Below w.heap.size w w2 := ((Below.refl _ w).alloc (Nat.le_refl _) _).trans (hb.mono (by simp))
  clear hr1 hp0 hp1 hp2 hb
  obtain ⟨n, hn⟩ : ∃ n, tot.length = n := ⟨_, rfl⟩
  rw [hn] at hown
  by_cases hn0 : n = 0
  · subst hn0
    obtain ⟨a5, c5, rfl⟩ := own_zeroJ hown
    have htot : tot = [] := List.eq_nil_of_length_eq_zero hn
    subst htot
    clear hown
    go_wp2_with fail
    refine wp_loop_rounds 1 ?_
    rw [rounds_succ]
    go_wp2_with fail
    go_ret
    exact ⟨⟨_, rfl, World.ownsRow_made w2 #[] 0 hB2.size (by unfold maxLen; omega) rfl⟩, hB2.alloc hB2.size _⟩
  · obtain ⟨g5, c5, cur5, rfl, hg5, hr5, hs5, hx5⟩ := own_formJ hown (by omega)
    have HX5 : Hid (∀ k, (hk : k < tot.length) → cur5[k]? = some (.int .i64 ((tot[k] : Nat) : Int))) := fun k hk => hx5 k _ (by simp [cutC, hk])
    have HR5 : Hid (w2.heap[g5]? = some (.cells cur5 2 (0, 0)) ∧ Below w.heap.size w w2) := ⟨hr5, hB2⟩
    clear hown hg5 hr5 hs5 hx5 hB2
    go_wp2_with fail
    go_loopw [7, 8, 9] (fun v f i wr => ∃ k : Nat, k ≤ n ∧ i = .int .i64 (k : Int) ∧ f = .int .i64 ((lastC 0 (tot.take k) : Nat) : Int) ∧ wr.ownsRow w.heap.size 9 1 v k (chkC (chkL s 0 (tot.take k))) ∧ Hid (wr.heap[g5]? = some (.cells cur5 2 (0, 0)) ∧ Below w.heap.size w wr)) (fun _ _ i _ => n - natOf i)
    case atStart => exact ⟨0, by omega, rfl, rfl, World.ownsRow_made w2 #[] 0 HR5.out.2.size (by unfold maxLen; omega) rfl, (Below.heap_alloc _ _ _ (lt_of_row HR5.out.1)).trans HR5.out.1, HR5.out.2.alloc HR5.out.2.size _⟩
    case round =>
      obtain ⟨k, hk, rfl, rfl, hown, HW⟩ := hrel
      by_cases hlt : k < n
      · have hltI : (k : Int) < (n : Int) := by omega
        have hkt : k < tot.length := by omega
        have hx : wr.cell? ⟨g5, k, none⟩ = some (.int .i64 ((tot[k] : Nat) : Int)) := (cell_of_row wr _ k _ _ _ HW.out.1).trans (HX5.out k hkt)
        obtain ⟨ho1, ho2⟩ := HO.out k hkt
        have HT : Hid (tot.take (k + 1) = tot.take k ++ [tot[k]]) := List.take_succ_eq_append_getElem hkt
        have HTT : Hid _ := chkL_snoc s 0 (tot.take k) tot[k]
        have HL2 : Hid _ := lastC_snoc 0 (tot.take k) tot[k]
        generalize tot[k] = c at *
        generalize hfr : lastC 0 (tot.take k) = fr at *
        have h4k := HLn.out
        have hkn : k < 4000 := by omega
        have hcI : (c : Int) ≤ (s.size : Int) := by omega
        have hfc : (fr : Int) ≤ (c : Int) := by omega
        clear hfr
        go_wp2_with (at_builtin; (refine wpList_append_own _ rfl _ _ 37 rfl w.heap.size 9 i0 _ 1 16 Try.underlying37 hi hz0 hz1 hz2 rfl (by decide) _ _ _ rfl (hown.alloc _) ⟨wr.heap.size, 0, none⟩ 1 1 [_] rfl rfl (cell_one_new _ _ _) ?c2 ?c3 ?c4 ?c5 ?_))
        case c2 => simp [Value.oneCell']
        case c3 => unfold maxLen; omega
        case c4 => omega
        case c5 => have := HW.out.2.size; simp; omega
        intro v' w4 hown' hgrow _
        have H4 : Hid (w4.ownsRow w.heap.size 9 1 v' (k + 1) (chkC (chkL s 0 (tot.take k)) ++ [Value.string (s.extract fr c)]) ∧ w4.heap[g5]? = some (.cells cur5 2 (0, 0)) ∧ Below w.heap.size w w4) :=
          ⟨hown', (hgrow.block _ (by have := lt_of_row HW.out.1; simp; omega) (row_apart (by decide) hown HW.out.1)).trans ((Below.heap_alloc _ _ _ (lt_of_row HW.out.1)).trans HW.out.1), (HW.out.2.alloc HW.out.2.size _).grown hgrow (by have := HW.out.2.size; simp; omega) (fun k hk => (hown.lt k hk).1)⟩
        have hx4 : w4.cell? ⟨g5, k, none⟩ = some (.int .i64 ((c : Nat) : Int)) := by
          have e : w4.cell? ⟨g5, k, none⟩ = wr.cell? ⟨g5, k, none⟩ := by simp [World.cell?, H4.out.2.1, HW.out.1]
          rw [e]; exact hx
        clear hown' hgrow hown hx
        go_wp2_with fail
        go_roundw
        case rel => exact ⟨k + 1, by omega, by go_num, by rw [HT.out, HL2.out], by
          rw [HT.out, HTT.out]
          have e3 : chkC (chkL s 0 (tot.take k) ++ [s.extract fr c]) = chkC (chkL s 0 (tot.take k)) ++ [Value.string (s.extract fr c)] := by simp [chkC]
          rw [e3]; exact H4.out.1, H4.out.2⟩
        case measure => simp [natOf]; omega
      · obtain rfl : k = n := by omega
        have htk : tot.take k = tot := by rw [← hn]; exact List.take_length
        rw [htk] at hown
        go_wp2_with fail
        go_ret
        exact ⟨⟨_, rfl, by rw [hn]; exact hown⟩, HW.out.2⟩
set_option maxRecDepth 100000 in
set_option maxHeartbeats 4000000 in
theorem schunks_any (L B M : Nat) (s : ByteArray) (hs4 : s.size ≤ 4000) (hL : 1 ≤ L ∧ L ≤ 1000) (hB : 1 ≤ B ∧ B ≤ 12) (hM : L ≤ M ∧ M ≤ 4000) (w : World) :
    Calls Try.prog 19 #[.string s, shpV L B M] w fun e w' => (∃ v, e = .returned (.tuple #[v, .bool true]) ∧ w'.ownsRow w.heap.size 9 1 v (cutL L B M 0 0 0 (lst s)).length (chkC (chkL s 0 (cutL L B M 0 0 0 (lst s))))) ∧ Below w.heap.size w w' := by
  have HA : Hid (∀ w, Calls Try.prog 47 #[shpV L B M] w fun e w' => e = .returned (.bool true) ∧ Below w.heap.size w w') := fun w => sshp_yes L B M w ⟨by omega, by omega, by omega⟩
  have HC : Hid (∀ w, _) := fun w => l8_any L B M s hs4 hL hB hM w
  generalize cutL L B M 0 0 0 (lst s) = tot at *
  unfold shpV at HA HC ⊢
  have hr1 := heap_alloc_new w (.cells #[.int .i64 L, .int .i64 B, .int .i64 M] 34)
  have hp0 := cell_of_row _ w.heap.size 0 _ _ _ hr1
  have hp1 := cell_of_row _ w.heap.size 1 _ _ _ hr1
  have hp2 := cell_of_row _ w.heap.size 2 _ _ _ hr1
  have hs4I : (s.size : Int) ≤ 4000 := by omega
  go_enter Try.func19, Try.ntmps19
  go_wp2_with fail
  refine (HA.out _).mono ?_
  rintro e w2 ⟨rfl, hb⟩
  have hr2 := (hb.block _ (by simp)).trans hr1
  have hB2 : Below w.heap.size w w2 := ((Below.refl _ w).alloc (Nat.le_refl _) _).trans (hb.mono (by simp))
  have q0 := cell_of_row _ w.heap.size 0 _ _ _ hr2
  have q1 := cell_of_row _ w.heap.size 1 _ _ _ hr2
  have q2 := cell_of_row _ w.heap.size 2 _ _ _ hr2
  clear hr1 hp0 hp1 hp2 hr2 hb
  go_wp2_with fail
  refine (HC.out _).mono ?_
  rintro e w3 ⟨⟨v, rfl, hown⟩, hb3⟩
  go_wp2_with fail
  go_ret2
  exact ⟨⟨_, rfl, owns_baseJ hown hB2.size⟩, bl_transC hB2 hb3 hB2.size⟩
set_option maxRecDepth 100000 in
set_option maxHeartbeats 2000000 in
theorem schunks_no (l b m : Int) (s : ByteArray) (hs : s.size < 140737488351232) (hp : ¬ (shpP l b m ∧ s.size ≤ 4000)) (w : World) :
    Calls Try.prog 19 #[.string s, shpV l b m] w fun e w' => e = .returned (.tuple #[.slice none 0 0, .bool false]) ∧ Below w.heap.size w w' := by
  have hr1 := heap_alloc_new w (.cells #[.int .i64 l, .int .i64 b, .int .i64 m] 34)
  have hp0 := cell_of_row _ w.heap.size 0 _ _ _ hr1
  have hp1 := cell_of_row _ w.heap.size 1 _ _ _ hr1
  have hp2 := cell_of_row _ w.heap.size 2 _ _ _ hr1
  by_cases hq : shpP l b m
  · have h4 : (4000 : Int) < (s.size : Int) := by
      have : ¬ s.size ≤ 4000 := fun c => hp ⟨hq, c⟩
      omega
    have HA : Hid (∀ w, Calls Try.prog 47 #[shpV l b m] w fun e w' => e = .returned (.bool true) ∧ Below w.heap.size w w') := fun w => sshp_yes l b m w hq
    unfold shpV at HA ⊢
    clear hp hq
    go_enter Try.func19, Try.ntmps19
    go_wp2_with fail
    refine (HA.out _).mono ?_
    rintro e w2 ⟨rfl, hb⟩
    go_wp2_with fail
    go_ret2
    exact ⟨rfl, ((Below.refl _ w).alloc (Nat.le_refl _) _).trans (hb.mono (by simp))⟩
  · have HA : Hid (∀ w, Calls Try.prog 47 #[shpV l b m] w fun e w' => e = .returned (.bool false) ∧ Below w.heap.size w w') := fun w => sshp_no l b m w hq
    unfold shpV at HA ⊢
    clear hp hq
    go_enter Try.func19, Try.ntmps19
    go_wp2_with fail
    refine (HA.out _).mono ?_
    rintro e w2 ⟨rfl, hb⟩
    go_wp2_with fail
    go_ret2
    exact ⟨rfl, ((Below.refl _ w).alloc (Nat.le_refl _) _).trans (hb.mono (by simp))⟩
end Go.Proofs.Ytneeledgokccgad
