/-
  Cuts: the iterator that tells them.
-/
import Derived.RangeFuncNested
import Derived.RangeFuncBound
import Derived.RangeFuncCalls
import Derived.RangeFuncLeaves
import Derived.Shelf.Abstract
import Derived.Shelf.RegionOpen
import Derived.WalkKit
import Derived.OwnWalkIn
import Derived.TacticsInMore
import Derived.LoopNIn
import Derived.LoopIn
import Derived.Test.YtneeledgokccgadCutC
import Derived.Test.YtneeledgokccgadRgT
namespace Go.Proofs.Ytneeledgokccgad
open Go.RowKit Go.Shelf
attribute [local go_sem] Oper.semAt_some
set_option linter.unusedVariables false
/-- a text's bytes as numbers -/
def lst (s : ByteArray) : List Nat := s.data.toList.map (·.toNat)
theorem lst_len (s : ByteArray) : (lst s).length = s.size := by simp [lst]
theorem lst_drop (s : ByteArray) (k : Nat) (h : k < s.size) : (lst s).drop k = s[k].toNat :: (lst s).drop (k + 1) := by
  have hk : k < (lst s).length := by rw [lst_len]; exact h
  rw [List.drop_eq_getElem_cons hk]
  congr 1
  simp [lst]; rfl
theorem lst_end (s : ByteArray) (k : Nat) (h : k < s.size) : ((lst s).drop (k + 1) = []) ↔ k + 1 = s.size := by
  rw [List.drop_eq_nil_iff, lst_len]; omega
/-- what a round that goes on keeps: the two boxes -/
structure Kq (b p : Nat) (W W' : World) : Prop where
  one : W'.heap[b]? = W.heap[b]?
  two : W'.heap[p]? = W.heap[p]?
theorem Kq.refl (b p : Nat) (W : World) : Kq b p W W := ⟨rfl, rfl⟩
theorem Kq.trans {b p : Nat} {A B C : World} (h : Kq b p A B) (k : Kq b p B C) : Kq b p A C := ⟨k.one.trans h.one, k.two.trans h.two⟩
theorem lt_of_row {W : World} {b : Nat} {o : Obj} (h : W.heap[b]? = some o) : b < W.heap.size := (Array.getElem?_eq_some_iff.1 h).1
def natOf : Value → Nat
  | .int _ i => i.toNat
  | _ => 0
set_option maxRecDepth 100000 in
set_option maxHeartbeats 4000000 in
theorem cuts1_in (n : Nat) (l Bs Bp L B M : Nat) (s : ByteArray) (hs4 : s.size ≤ 4000) (hL : 1 ≤ L ∧ L ≤ 1000) (hB : 1 ≤ B ∧ B ≤ 12) (hM : L ≤ M ∧ M ≤ 4000) (J Jx : List Nat → World → Prop)
    (hJA : ∀ t W W', J t W → W.grownBy W' none → J t W')
    (hY : ∀ (pre : List Nat) (x : Nat) (W : World), J pre W → pre ++ [x] <+: cutL L B M 0 0 0 (lst s) → YieldAt Fence.wide (n - 1) Try.prog l #[.int .i64 (x : Int)] W fun e W' =>
      (e = .returned (.bool true) ∧ J (pre ++ [x]) W' ∧ Kq Bs Bp W W') ∨ (e = .returned (.bool false) ∧ Jx (pre ++ [x]) W'))
    (W : World) (hBs : W.heap[Bs]? = some (.cells #[.string s] 9 (0, 0))) (hBp : W.heap[Bp]? = some (.cells #[.int .i64 L, .int .i64 B, .int .i64 M] 34 (0, 0))) (h0 : J [] W) :
    CallsIn Fence.wide n Try.prog 74 #[.func (.yield l) #[] #[], .pointer (some ⟨Bs, 0, none⟩), .pointer (some ⟨Bp, 0, none⟩)] W fun e W' => (∃ v, e = .returned v) ∧
      ((∃ ys, ys = cutL L B M 0 0 0 (lst s) ∧ J ys W') ∨ (∃ pre, pre <+: cutL L B M 0 0 0 (lst s) ∧ Jx pre W')) := by
  have HG : Hid (∀ (x : Nat) (w : World), Calls Try.prog 75 #[.int .i64 (x : Int)] w fun e w' => e = .returned (.int .u64 (gearN x : Int)) ∧ w' = w) := fun x w => by rw [← (gear_nat x).1]; exact gear_any _ w
  have hi : Option.map (·.size) (Try.prog.info? 34) = some 3 := by kernel_rfl
  generalize htot : cutL L B M 0 0 0 (lst s) = tot at hY ⊢
  refine callsIn_of_wp Try.func74 rfl trivial ?_ rfl
  simp only [Try.ntmps74, List.size_toArray, List.length_cons, List.length_nil, Nat.reduceAdd, Nat.reduceSub, Array.replicate_succ, Array.replicate_zero, List.push_toArray, List.append_toArray, List.nil_append, List.cons_append]
  have hBsC : W.cell? ⟨Bs, 0, none⟩ = some (.string s) := cell_of_row W Bs 0 _ _ _ hBs
  gi_wp2
  clear hBsC
  gi_loopw [4, 5, 10] (fun f h i wr => ∃ (k fr hh : Nat) (pre : List Nat), k ≤ s.size ∧ i = .int .i64 (k : Int) ∧ f = .int .i64 (fr : Int) ∧ h = .int .u64 (hh : Int) ∧ hh < 18446744073709551616 ∧ fr ≤ k ∧ k - fr < M ∧ pre ++ cutL L B M k (k - fr) hh ((lst s).drop k) = tot ∧ pre.length ≤ k ∧ J pre wr ∧ Kq Bs Bp W wr)
    (fun _ _ i _ => s.size - natOf i)
  case atStart => exact ⟨0, 0, 0, [], by omega, rfl, rfl, rfl, by omega, by omega, by omega, by simpa using htot, by simp, h0, Kq.refl _ _ _⟩
  case round =>
    obtain ⟨k, fr, hh, pre, hk, rfl, rfl, rfl, hhl, hfr, hkM, hcut, hpl, hJ, hbl⟩ := hrel
    have hBs0 := hbl.one.trans hBs
    have hBs1 : wr.cell? ⟨Bs, 0, none⟩ = some (.string s) := cell_of_row wr Bs 0 _ _ _ hBs0
    have hBp1 : (wr.heap[Bp]? = some (.cells #[.int .i64 L, .int .i64 B, .int .i64 M] 34 (0, 0))) := hbl.two.trans hBp
    have hp0 : wr.cell? ⟨Bp, 0, none⟩ = some (.int .i64 L) := cell_of_row wr Bp 0 _ _ _ hBp1
    have hp1 : wr.cell? ⟨Bp, 1, none⟩ = some (.int .i64 B) := cell_of_row wr Bp 1 _ _ _ hBp1
    have hp2 : wr.cell? ⟨Bp, 2, none⟩ = some (.int .i64 M) := cell_of_row wr Bp 2 _ _ _ hBp1
    have HLT : Hid (Bs < wr.heap.size ∧ Bp < wr.heap.size) := ⟨lt_of_row hBs0, lt_of_row hBp1⟩
    clear hBp1 hBs0
    by_cases hlt : k < s.size
    · have hc : s[k].toNat < 256 := s[k].toNat_lt
      have hdr := lst_drop s k hlt
      have hend := lst_end s k hlt
      have hwx : wrap64 (s[k].toNat : Int) = (s[k].toNat : Int) := (by unfold wrap64; omega)
      obtain ⟨x, hx⟩ : ∃ x, x = s[k].toNat := ⟨_, rfl⟩
      rw [← hx] at hdr
      have HX : Hid (x = s[k].toNat ∧ gearN x < 18446744073709551616) := ⟨hx, (gear_nat x).2⟩
      gi_wp2_with fail
      rw [hwx, ← HX.out.1]
      refine ⟨trivial, fun h => (by cases h), callsIn_wide.2 ((HG.out x _).mono ?_)⟩
      rintro e w' ⟨rfl, hw⟩
      subst w'
      obtain ⟨h', hh'⟩ : ∃ h', h' = hashN hh x := ⟨_, rfl⟩
      have hwh : IntKind.u64.wrap (IntKind.u64.wrap (2 * (hh : Int)) + (gearN x : Int)) = (h' : Int) := by
        have := HX.out.2
        rw [IntKind.wrap_u64, IntKind.wrap_u64, hh']; unfold hashN; omega
      have hhl' : h' < 18446744073709551616 := by rw [hh']; exact hashN_lt _ _
      obtain ⟨m, hm⟩ : ∃ m, m = k + 1 - fr := ⟨_, rfl⟩
      have hmI : (k : Int) + 1 - (fr : Int) = (m : Int) := by omega
      have hm2 : m < 100000 := by omega
      have hmM : m ≤ M := by omega
      have HH : Hid (h' = hashN hh x ∧ m = k + 1 - fr) := ⟨hh', hm⟩
      have HD : Hid _ := hdr
      have HE : Hid _ := hend
      have HC : Hid _ := hcut
      have HJ : Hid (J pre wr ∧ Kq Bs Bp W wr) := ⟨hJ, hbl⟩
      have HN : Hid (∀ w, Calls Try.prog 76 #[.int .i64 (m : Int), .int .u64 (h' : Int), shpV L B M] w fun e w' => e = .returned (.bool (endsB L B M m h')) ∧ Below w.heap.size w w') := fun w => ends_any L B M m h' w hm2 hB hL.2 hM.2 hhl'
      clear hx hwx hh' hm hdr hend hcut
      generalize gearN x = G at hwh
      by_cases hl1 : k + 1 < s.size
      · unfold shpV at HN
        gi_wp2_with fail
        refine ⟨trivial, fun h => (by cases h), callsIn_wide.2 ((HN.out _).mono ?_)⟩
        rintro e w2 ⟨rfl, hb⟩
        have hJ2 : J pre w2 := hJA pre wr w2 HJ.out.1 ⟨hb.os, hb.tape, hb.output, hb.size, fun k hk _ => hb.block k hk⟩
        have hb2 : Kq Bs Bp W w2 := HJ.out.2.trans ⟨hb.block _ HLT.out.1, hb.block _ HLT.out.2⟩
        cases hq : endsB L B M m h' with
        | false =>
          have HF : Hid (¬ endsN L B M (k - fr + 1) (hashN hh x)) := by
            obtain ⟨e1, e2⟩ := HH.out
            have e3 : k - fr + 1 = m := by omega
            rw [e3, ← e1]
            intro c
            rw [(endsB_iff hmM).2 c] at hq
            cases hq
          have HJ2 : Hid (J pre w2 ∧ Kq Bs Bp W w2) := ⟨hJ2, hb2⟩
          have hmlt : k + 1 - fr < M := by
            by_cases c : k + 1 - fr < M
            · exact c
            · exact absurd (Or.inl (by omega)) HF.out
          clear hb hJ2 hb2 hq
          gi_wp2_with fail
          go_roundw
          case rel => exact ⟨k + 1, fr, h', pre, by omega, by simp, rfl, rfl, hhl', by omega, hmlt, by
            rw [← HC.out, HD.out, cutL_on (fun c => c.elim (fun e => (by have := HE.out.1 e; omega)) HF.out)]
            have e3 : k + 1 - fr = k - fr + 1 := by omega
            rw [e3, HH.out.1], by omega, HJ2.out.1, HJ2.out.2⟩
          case measure => simp [natOf]; omega
        | true =>
          have HT : Hid (endsN L B M (k - fr + 1) (hashN hh x)) := by
            obtain ⟨e1, e2⟩ := HH.out
            have e3 : k - fr + 1 = m := by omega
            rw [e3, ← e1]
            exact (endsB_iff hmM).1 hq
          obtain ⟨fn, tmps, assign, body, hy, hR⟩ := hY pre (k + 1) w2 hJ2 ⟨cutL L B M (k + 1) 0 0 ((lst s).drop (k + 1)), by
            rw [← HC.out, HD.out, cutL_cut (.inr HT.out)]
            simp⟩
          rw [show ((k + 1 : Nat) : Int) = (k : Int) + 1 from rfl] at hy
          clear hb hJ2 hq
          gi_wp2_with fail
          refine ⟨fun h => (by cases h), hR.mono ?_⟩
          rintro e W3 (⟨rfl, hJ3, hk3⟩ | ⟨rfl, hJx3⟩)
          · have HJ3 : Hid (J (pre ++ [k + 1]) W3 ∧ Kq Bs Bp W W3) := ⟨hJ3, hb2.trans hk3⟩
            gi_wp2_with fail
            go_roundw
            case rel => exact ⟨k + 1, k + 1, 0, pre ++ [k + 1], by omega, by simp, by simp, rfl, by omega, by omega, by omega, by
              rw [← HC.out, HD.out, cutL_cut (.inr HT.out)]
              simp, by simp; omega, HJ3.out.1, HJ3.out.2⟩
            case measure => simp [natOf]; omega
          · have HJ3 : Hid _ := hJx3
            gi_wp2_with fail
            refine bodyPost_ret (results_none rfl _ _ _) rfl ?_
            exact ⟨⟨_, rfl⟩, .inr ⟨pre ++ [k + 1], ⟨cutL L B M (k + 1) 0 0 ((lst s).drop (k + 1)), by
              rw [← HC.out, HD.out, cutL_cut (.inr HT.out)]
              simp⟩, HJ3.out⟩⟩
      · have hk1 : k + 1 = s.size := by omega
        have HT : Hid ((lst s).drop (k + 1) = []) := HE.out.2 hk1
        have hb2 : Kq Bs Bp W wr := HJ.out.2
        obtain ⟨fn, tmps, assign, body, hy, hR⟩ := hY pre (k + 1) wr HJ.out.1 ⟨cutL L B M (k + 1) 0 0 ((lst s).drop (k + 1)), by
          rw [← HC.out, HD.out, cutL_cut (.inl HT.out)]
          simp⟩
        rw [show ((k + 1 : Nat) : Int) = (k : Int) + 1 from rfl] at hy
        gi_wp2_with fail
        refine ⟨trivial, ?_⟩
        gi_wp2_with fail
        refine ⟨fun h => (by cases h), hR.mono ?_⟩
        rintro e W3 (⟨rfl, hJ3, hk3⟩ | ⟨rfl, hJx3⟩)
        · have HJ3 : Hid (J (pre ++ [k + 1]) W3 ∧ Kq Bs Bp W W3) := ⟨hJ3, hb2.trans hk3⟩
          gi_wp2_with fail
          go_roundw
          case rel => exact ⟨k + 1, k + 1, 0, pre ++ [k + 1], by omega, by simp, by simp, rfl, by omega, by omega, by omega, by
            rw [← HC.out, HD.out, cutL_cut (.inl HT.out)]
            simp, by simp; omega, HJ3.out.1, HJ3.out.2⟩
          case measure => simp [natOf]; omega
        · have HJ3 : Hid _ := hJx3
          gi_wp2_with fail
          refine bodyPost_ret (results_none rfl _ _ _) rfl ?_
          exact ⟨⟨_, rfl⟩, .inr ⟨pre ++ [k + 1], ⟨cutL L B M (k + 1) 0 0 ((lst s).drop (k + 1)), by
            rw [← HC.out, HD.out, cutL_cut (.inl HT.out)]
            simp⟩, HJ3.out⟩⟩
    · have hks : k = s.size := by omega
      have hnil : (lst s).drop k = [] := by rw [List.drop_eq_nil_iff, lst_len]; omega
      rw [hnil] at hcut
      have hpt : pre = tot := by simpa [cutL] using hcut
      have HJ : Hid (J tot wr) := by rw [← hpt]; exact hJ
      clear hcut hJ hnil hpt hpl
      gi_wp2_with fail
      go_end0
      exact ⟨⟨_, rfl⟩, .inl ⟨tot, rfl, HJ.out⟩⟩
/-- the iterator as a contract -/
theorem cuts_stops (n : Nat) (Bs Bp L B M : Nat) (s : ByteArray) (hs4 : s.size ≤ 4000) (hL : 1 ≤ L ∧ L ≤ 1000) (hB : 1 ≤ B ∧ B ≤ 12) (hM : L ≤ M ∧ M ≤ 4000)
    (w : World) (hBs : w.heap[Bs]? = some (.cells #[.string s] 9 (0, 0))) (hBp : w.heap[Bp]? = some (.cells #[.int .i64 L, .int .i64 B, .int .i64 M] 34 (0, 0))) :
    SeqStopsK Fence.wide n Try.prog 74 #[.pointer (some ⟨Bs, 0, none⟩), .pointer (some ⟨Bp, 0, none⟩)] (fun x : Nat => #[Value.int .i64 (x : Int)]) (Kq Bs Bp) (fun ys => ys = cutL L B M 0 0 0 (lst s)) (fun pre => pre <+: cutL L B M 0 0 0 (lst s)) s.size w := fun l J Jx W hW hJ _ hY h0 =>
  cuts1_in n l Bs Bp L B M s hs4 hL hB hM J Jx (fun t W W' h1 h2 => hJ t W W' none h1 h2 (fun r e => (by cases e))) (fun pre x W h ht => hY pre x W h (by
    have h1 := ht.length_le
    have h2 := cutL_len (L := L) (B := B) (M := M) 0 0 0 (lst s)
    rw [lst_len] at h2
    simp at h1; omega)) W ((hW.block Bs (lt_of_row hBs)).trans hBs) ((hW.block Bp (lt_of_row hBp)).trans hBp) h0
/-- .. told with what came ahead -/
theorem cuts_tells (n : Nat) (Bs Bp L B M : Nat) (s : ByteArray) (hs4 : s.size ≤ 4000) (hL : 1 ≤ L ∧ L ≤ 1000) (hB : 1 ≤ B ∧ B ≤ 12) (hM : L ≤ M ∧ M ≤ 4000)
    (w : World) (hBs : w.heap[Bs]? = some (.cells #[.string s] 9 (0, 0))) (hBp : w.heap[Bp]? = some (.cells #[.int .i64 L, .int .i64 B, .int .i64 M] 34 (0, 0))) :
    Tells Try.prog n 74 #[.pointer (some ⟨Bs, 0, none⟩), .pointer (some ⟨Bp, 0, none⟩)] (fun x : Nat => Value.int .i64 (x : Int)) (Kq Bs Bp) (cutL L B M 0 0 0 (lst s)) w := fun l J W hW hJ hY h0 =>
  (cuts1_in n l Bs Bp L B M s hs4 hL hB hM J (fun _ _ => False) hJ (fun pre x W h ht => (hY pre x W h ht).mono (fun e W' h => .inl h)) W ((hW.block Bs (lt_of_row hBs)).trans hBs) ((hW.block Bp (lt_of_row hBp)).trans hBp) h0).mono
    (by
      rintro e W' ⟨hv, ⟨ys, rfl, hj⟩ | ⟨pre, _, hf⟩⟩
      · exact ⟨hv, hj⟩
      · exact hf.elim)
set_option maxRecDepth 100000 in
set_option maxHeartbeats 1000000 in
theorem cutsOf_any (s : ByteArray) (l b m : Int) (w : World) :
    Calls Try.prog 45 #[.string s, shpV l b m] w fun e w' => e = .returned (.func (.func 74) #[] #[.pointer (some ⟨w.heap.size, 0, none⟩), .pointer (some ⟨w.heap.size + 1, 0, none⟩)]) ∧ w' = (w.alloc (.cells #[.string s] 9)).alloc (.cells #[.int .i64 l, .int .i64 b, .int .i64 m] 34) := by
  unfold shpV
  go_enter Try.func45, Try.ntmps45
  go_wp2_with fail
  go_ret
  exact ⟨rfl, rfl⟩
end Go.Proofs.Ytneeledgokccgad
