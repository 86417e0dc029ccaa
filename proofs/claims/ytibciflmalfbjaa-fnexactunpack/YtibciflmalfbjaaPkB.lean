/-
  Several texts of this seat as one: UnWK, Take, Read, NumMath, NumBack.
-/
import Derived.Test.YtibciflmalfbjaaUnW
import Derived.Test.YtibciflmalfbjaaClone
import Derived.Test.YtibciflmalfbjaaNum
import Derived.WalkSpells
import Derived.Laws.BitsAllLaws

/-!   One token more: the code's. -/
namespace Go.Proofs.Ytibciflmalfbjaa
open Go.RowKit
set_option linter.unusedVariables false
set_option linter.unusedSimpArgs false

structure UWK (o : List Nat) (d j B g0 : Nat) (l : Int) (w wr : World) (v : Value) : Prop where
  own : wr.ownsRow B 5 1 v (o.length + j) (bL (cpI d o j))
  below : Below B w wr
  box : wr.heap[g0]? = some (.cells #[.int .i64 1, .int .i64 0, .int .i64 (d : Int), .int .i64 l] 95 (0, 0))
  tok : ∀ (k : Nat) (cs : Array Value), w.heap[k]? = some (.cells cs 95 (0, 0)) → wr.heap[k]? = some (.cells cs 95 (0, 0))
theorem UWK.put {o : List Nat} {d j B g0 : Nat} {l : Int} {w wr w4 : World} {v v' : Value} (h : UWK o d j B g0 l w wr v) (hB : B ≤ wr.heap.size) (X : Obj)
    (h1 : w4.ownsRow B 5 1 v' (o.length + j + 1) (bL (cpI d o j) ++ [.int .u8 (((cpI d o j).getD ((cpI d o j).length - d) 0 : Nat) : Int)]))
    (h2 : (wr.alloc X).grownBy w4 v.ownBlock) : UWK o d (j + 1) B g0 l w w4 v' := by
  have hl := (Array.getElem?_eq_some_iff.1 h.box).1
  refine ⟨?_, (h.below.alloc hB _).grown h2 (by simp; omega) (fun k hk => (h.own.lt k hk).1), ?_, fun k cs hk => ?_⟩
  · rw [bL_snoc] at h1; exact h1
  · rw [h2.block g0 (by simp; omega) (own_apart h.own h.box), Below.heap_alloc _ _ _ hl]; exact h.box
  · have h3 := h.tok k cs hk
    have hl3 := (Array.getElem?_eq_some_iff.1 h3).1
    rw [h2.block k (by simp; omega) (own_apart h.own h3), Below.heap_alloc _ _ _ hl3]; exact h3
set_option maxRecDepth 100000 in
set_option maxHeartbeats 2000000 in
theorem withK_byte (o : List Nat) (b B : Nat) (v : Value) (w : World) (hlen : o.length ≤ 4000) (hb : b < 256) (hown : w.ownsRow B 5 1 v o.length (bL o)) (hB : B ≤ w.heap.size) :
    Calls Try.prog 55 #[v, tokV 0 (b : Int) 0 0] w fun e w' => ∃ v', e = .returned v' ∧ w'.ownsRow B 5 1 v' (o.length + 1) (bL (o ++ [b])) ∧ Below B w w' ∧ (∀ (k : Nat) (cs : Array Value), w.heap[k]? = some (.cells cs 95 (0, 0)) → w'.heap[k]? = some (.cells cs 95 (0, 0))) := by
  unfold tokV
  obtain ⟨i0, hi, hz0, hz1, hz2⟩ := info_parts Try.infb8
  have hwb : IntKind.u8.wrap (b : Int) = (b : Int) := by rw [IntKind.wrap_u8]; omega
  go_enter Try.func55, Try.ntmps55
  go_wp2_with (at_builtin; (refine wpList_append_own _ rfl _ _ 25 rfl B 5 i0 _ 1 1 Try.underlying25 hi hz0 hz1 hz2 rfl (by decide) v o.length (bL o) rfl ((hown.alloc _).alloc _) ⟨w.heap.size + 1, 0, none⟩ 1 1 [_] rfl rfl (cell_at_new _ _ _ _ ?c1) ?c2 ?c3 ?c4 ?c5 ?_))
  case c1 => simp
  case c2 => exact byte_one _
  case c3 => unfold maxLen; omega
  case c4 => omega
  case c5 => simp; omega
  intro v' w4 hown' hgrow _
  have hb4 : Below B w w4 := (((Below.refl _ _).alloc hB _).alloc (by simp; omega) _).grown hgrow (by simp; omega) (fun k hk => (hown.lt k hk).1)
  rw [bL_snoc] at hown'
  have hkt : ∀ (k : Nat) (cs : Array Value), w.heap[k]? = some (.cells cs 95 (0, 0)) → w4.heap[k]? = some (.cells cs 95 (0, 0)) := fun k cs hk => by
    have hl3 := (Array.getElem?_eq_some_iff.1 hk).1
    rw [hgrow.block k (by simp; omega) (own_apart hown hk), Below.heap_alloc _ _ _ (by simp; omega), Below.heap_alloc _ _ _ hl3]; exact hk
  have H4 : Hid (w4.ownsRow B 5 1 v' (o.length + 1) (bL (o ++ [b])) ∧ Below B w w4 ∧ _) := ⟨hown', hb4, hkt⟩
  clear hown' hgrow hown hb4 hkt
  go_wp2_with fail
  go_ret
  exact ⟨_, rfl, H4.out⟩
set_option maxRecDepth 100000 in
set_option maxHeartbeats 2000000 in
theorem withK_copy (o : List Nat) (d l B : Nat) (v : Value) (w : World) (hlen : o.length ≤ 4000) (hd1 : 1 ≤ d) (hd : d ≤ o.length) (hl : l ≤ 66) (ho : AllB o) (hown : w.ownsRow B 5 1 v o.length (bL o)) (hB : B ≤ w.heap.size) :
    Calls Try.prog 55 #[v, tokV 1 0 (d : Int) (l : Int)] w fun e w' => ∃ v', e = .returned v' ∧ w'.ownsRow B 5 1 v' (o.length + l) (bL (cpI d o l)) ∧ Below B w w' ∧ (∀ (k : Nat) (cs : Array Value), w.heap[k]? = some (.cells cs 95 (0, 0)) → w'.heap[k]? = some (.cells cs 95 (0, 0))) := by
  unfold tokV
  obtain ⟨i0, hi, hz0, hz1, hz2⟩ := info_parts Try.infb8
  have HU : Hid (UWK o d 0 B w.heap.size l w (w.alloc (.cells #[.int .i64 1, .int .i64 0, .int .i64 (d : Int), .int .i64 (l : Int)] 95)) v) :=
    ⟨hown.alloc _, (Below.refl _ _).alloc hB _, heap_alloc_new w _, fun k cs hk => (Below.heap_alloc _ _ _ (Array.getElem?_eq_some_iff.1 hk).1).trans hk⟩
  go_enter Try.func55, Try.ntmps55
  go_wp2_with fail
  go_loopw [0, 16] (fun v c wr => ∃ (j : Nat), j ≤ l ∧ c = .int .i64 (j : Int) ∧ Hid (UWK o d j B w.heap.size l w wr v)) (fun _ c _ => l - (lonIntOf c).toNat)
  case atStart => exact ⟨0, by omega, rfl, HU⟩
  case round =>
    clear HU hown
    obtain ⟨j, hj, rfl, HU⟩ := hrel
    by_cases hlt : j < l
    · have hltI : (j : Int) < (l : Int) := by omega
      have hBw : B ≤ wr.heap.size := Nat.le_trans hB (by have := HU.out.below.size; omega)
      obtain ⟨g, cap, cur, rfl, _, _, hcell⟩ := own_form1 HU.out.own (by omega)
      obtain ⟨q, hq⟩ : ∃ q, o.length + j = q + d := ⟨o.length + j - d, by omega⟩
      have hcl := cpI_len d o j
      have x0 := hcell q _ (bL_at (cpI d o j) q (by omega))
      have x1 : wr.cell? ⟨w.heap.size, 2, none⟩ = some (.int .i64 (d : Int)) := cell_of_row wr _ 2 _ _ _ HU.out.box
      have hqe : (cpI d o j).length - d = q := by omega
      have HOW := HU.out.own
      have HNX : Hid (∀ v' w4, w4.ownsRow B 5 1 v' (o.length + j + 1) (bL (cpI d o j) ++ [.int .u8 (((cpI d o j).getD q 0 : Nat) : Int)]) → (wr.alloc (.cells #[.int .u8 (((cpI d o j).getD q 0 : Nat) : Int)] 5)).grownBy w4 (Value.slice (some ⟨g, 0, none⟩) (o.length + j) cap).ownBlock → UWK o d (j + 1) B w.heap.size l w w4 v') := fun v' w4 h1 h2 => by
        refine HU.out.put hBw _ ?_ h2
        rw [hqe]; exact h1
      have hn4 : o.length + j ≤ 4066 := by omega
      generalize (cpI d o j).getD q 0 = c at x0 HNX
      generalize o.length + j = n at HOW hq x0 HNX hn4
      have hwn : IntKind.i64.wrap ((n : Int) - (d : Int)) = (q : Int) := by rw [IntKind.wrap_i64]; omega
      have hqn : (q : Int) < (n : Int) := by omega
      have hqN : q < n := by omega
      clear hcell hcl hqe hq
      go_wp2_with (at_builtin; (refine wpList_append_own _ rfl _ _ 25 rfl B 5 i0 _ 1 1 Try.underlying25 hi hz0 hz1 hz2 rfl (by decide) _ _ _ rfl (HOW.alloc _) ⟨wr.heap.size, 0, none⟩ 1 1 [_] rfl rfl (cell_at_new _ _ _ _ ?c1) ?c2 ?c3 ?c4 ?c5 ?_))
      case c1 => rfl
      case c2 => exact byte_one _
      case c3 => unfold maxLen; omega
      case c4 => omega
      case c5 => simp; omega
      intro v' w4 hown' hgrow _
      have H4 : Hid _ := HNX.out v' w4 hown' hgrow
      clear hown' hgrow HOW HNX
      go_wp2_with fail
      go_roundw
      case rel => exact ⟨j + 1, by omega, by go_num, H4⟩
      case measure => simp [lonIntOf]; omega
    · obtain rfl : j = l := by omega
      go_wp2_with fail
      go_ret
      exact ⟨_, rfl, HU.out.own, HU.out.below, HU.out.tok⟩
theorem withK_any (o : List Nat) (t : TkI) (B : Nat) (v : Value) (w : World) (hlen : o.length ≤ 4000) (ho : AllB o) (hp : tokP t.k t.b t.d t.l (o.length : Int)) (hown : w.ownsRow B 5 1 v o.length (bL o)) (hB : B ≤ w.heap.size) :
    Calls Try.prog 55 #[v, tokV t.k t.b t.d t.l] w fun e w' => ∃ v', e = .returned v' ∧ w'.ownsRow B 5 1 v' (tkOut o t).length (bL (tkOut o t)) ∧ Below B w w' ∧ (∀ (k : Nat) (cs : Array Value), w.heap[k]? = some (.cells cs 95 (0, 0)) → w'.heap[k]? = some (.cells cs 95 (0, 0))) := by
  obtain ⟨k, b, d, l⟩ := t
  obtain ⟨_, ⟨hk, h1, h2, hd, hl⟩ | ⟨hk, hb, h1, h2, h3, h4, h5⟩⟩ := hp
  · simp only at hk h1 h2 hd hl
    subst hk hd hl
    obtain ⟨n, rfl⟩ := Int.eq_ofNat_of_zero_le h1
    have := withK_byte o n B v w hlen (by omega) hown hB
    simpa [tkOut] using this
  · simp only at hk hb h1 h2 h3 h4 h5
    subst hk hb
    obtain ⟨n, rfl⟩ := Int.eq_ofNat_of_zero_le (a := d) (by omega)
    obtain ⟨m, rfl⟩ := Int.eq_ofNat_of_zero_le (a := l) (by omega)
    have := withK_copy o n m B v w hlen (by omega) (by omega) (by omega) ho hown hB
    simpa [tkOut, cpI_len] using this
end Go.Proofs.Ytibciflmalfbjaa

/-!   What TakeNum answers, the code's and the specification's, in plain words. -/
namespace Go.Proofs.Ytibciflmalfbjaa
open Go.RowKit

set_option maxRecDepth 100000 in
set_option maxHeartbeats 1000000 in
theorem stake_any (s : ByteArray) (w : World) (hs : s.size ≤ maxLen) :
    Calls Try.prog 44 #[.string s] w fun e w' => e = .returned (takeOut s) ∧ Below w.heap.size w w' := by
  unfold maxLen at hs
  go_enter Try.func44, Try.ntmps44
  go_wp2
  go_loop [5, 6] (fun n i => ∃ (k : Nat) (X : Int), k ≤ s.size ∧ k ≤ 10 ∧ i = .int .i64 k ∧ n = .int .u64 X ∧ num s = rd X k (s.data.toList.drop k)) (fun _ i => s.size - (intOf i).toNat)
  case atStart => exact ⟨0, 0, by omega, by omega, rfl, rfl, rfl⟩
  case round =>
    obtain ⟨k, X, hk, hk10, rfl, rfl, hd⟩ := hrel
    have HD : Hid (num s = rd X k (s.data.toList.drop k)) := hd
    clear hd
    by_cases hlt : k < s.size
    · go_wp2
      · have h9 : (k : Int) = 9 := by assumption
        obtain rfl : k = 9 := by omega
        go_ret3
        exact ⟨by rw [takeOut_none (num_none HD.out hlt (by omega))]; rfl, Below.refl _ _⟩
      · have h9 : (k : Int) = 9 := by assumption
        obtain rfl : k = 9 := by omega
        have hz : ((s[9].toNat : Int) == 0) = true := by assumption
        have hz' := WalkArith.int_eq hz
        go_ret3
        exact ⟨by rw [takeOut_none (num_none HD.out hlt (by omega))]; rfl, Below.refl _ _⟩
      · have h9 : (k : Int) = 9 := by assumption
        obtain rfl : k = 9 := by omega
        have hz : ((s[9].toNat : Int) == 0) = false := by assumption
        have hz' := WalkArith.int_ne hz
        have H3 : Hid (takeOut s = _) := (takeOut_some (num_some HD.out hlt (by omega) (by omega) (by omega) (by omega))).trans (by rw [grp_nine _ _ (by omega)])
        clear HD
        go_region
        all_goals (go_wp2; go_ret3; exact ⟨by rw [H3.out]; rfl, (Below.refl _ _).drew⟩)
      · have hz : ((s[k].toNat : Int) == 0) = true := by assumption
        have hz' := WalkArith.int_eq hz
        go_ret3
        exact ⟨by rw [takeOut_none (num_none HD.out hlt (by omega))]; rfl, Below.refl _ _⟩
      · have hz : ((s[k].toNat : Int) == 0) = false := by assumption
        have hz' := WalkArith.int_ne hz
        have H3 : Hid (takeOut s = _) := takeOut_some (num_some HD.out hlt (by omega) (by omega) (by omega) (by omega))
        clear HD
        go_region
        all_goals (go_wp2; go_ret3; exact ⟨by rw [H3.out]; rfl, (Below.refl _ _).drew⟩)
      · have H3 : Hid (takeOut s = _) := takeOut_some (num_some HD.out hlt (by omega) (by omega) (by omega) (by omega))
        clear HD
        go_region
        all_goals (go_wp2; go_ret3; exact ⟨by rw [H3.out]; rfl, (Below.refl _ _).drew⟩)
      · go_round
        case rel => exact ⟨k + 1, _, by omega, by omega, by go_num, rfl, num_go HD.out hlt (by omega) (by omega) (by omega)⟩
        case measure => simp [intOf]; omega
      · go_ret3
        exact ⟨by rw [takeOut_none (num_ten HD.out (by omega))]; rfl, Below.refl _ _⟩
    · go_wp2
      go_ret3
      exact ⟨by rw [takeOut_none (num_end HD.out (by omega))]; rfl, Below.refl _ _⟩
end Go.Proofs.Ytibciflmalfbjaa

/-!   What readNum and the code's TakeNum answer, in plain words. -/
namespace Go.Proofs.Ytibciflmalfbjaa
open Go.RowKit

/-- what readNum tells -/
def numOut (s : ByteArray) : Value := match num s with
  | none => .tuple #[.int .u64 0, .int .i64 0]
  | some (X, u) => .tuple #[.int .u64 X, .int .i64 u]
theorem numOut_none {s : ByteArray} (h : num s = none) : numOut s = .tuple #[.int .u64 0, .int .i64 0] := by unfold numOut; rw [h]
theorem numOut_some {s : ByteArray} {X : Int} {u : Nat} (h : num s = some (X, u)) : numOut s = .tuple #[.int .u64 X, .int .i64 u] := by unfold numOut; rw [h]

set_option maxRecDepth 100000 in
set_option maxHeartbeats 1000000 in
theorem read_any (s : ByteArray) (w : World) (hs : s.size ≤ maxLen) :
    Calls Try.prog 26 #[.string s] w fun e w' => e = .returned (numOut s) ∧ w' = w := by
  unfold maxLen at hs
  go_enter Try.func26, Try.ntmps26
  go_wp2
  go_loop [4, 10] (fun n i => ∃ (k : Nat) (X : Int), k ≤ s.size ∧ k ≤ 10 ∧ i = .int .i64 k ∧ n = .int .u64 X ∧ num s = rd X k (s.data.toList.drop k)) (fun _ i => s.size - (intOf i).toNat)
  case atStart => exact ⟨0, 0, by omega, by omega, rfl, rfl, rfl⟩
  case round =>
    obtain ⟨k, X, hk, hk10, rfl, rfl, hd⟩ := hrel
    have HD : Hid (num s = rd X k (s.data.toList.drop k)) := hd
    clear hd
    by_cases hlt : k < s.size
    · have m127 := mask127 (c := (s[k].toNat : Int)) (by omega) (by have := s[k].toNat_lt; omega)
      go_wp2
      · have h9 : (k : Int) = 9 := by assumption
        obtain rfl : k = 9 := by omega
        go_ret2
        exact ⟨by rw [numOut_none (num_none HD.out hlt (by omega))]; rfl, rfl⟩
      · have h9 : (k : Int) = 9 := by assumption
        obtain rfl : k = 9 := by omega
        go_ret2
        exact ⟨by rw [numOut_none (num_none HD.out hlt (by omega))]; rfl, rfl⟩
      · have h9 : (k : Int) = 9 := by assumption
        obtain rfl : k = 9 := by omega
        go_ret2
        exact ⟨by rw [numOut_some (num_some HD.out hlt (by omega) (by omega) (by omega) (by omega)), grp_nine _ _ (by omega)]; rfl, rfl⟩
      · go_round
        case rel => exact ⟨k + 1, _, by omega, by omega, by go_num, rfl, num_go HD.out hlt (by omega) (by omega) (by omega)⟩
        case measure => simp [intOf]; omega
      · go_ret2
        exact ⟨by rw [numOut_none (num_none HD.out hlt (by omega))]; rfl, rfl⟩
      · go_ret2
        exact ⟨by rw [numOut_some (num_some HD.out hlt (by omega) (by omega) (by omega) (by omega)), grp_zero _ _ _ (by assumption)]; rfl, rfl⟩
      · go_ret2
        exact ⟨by rw [numOut_some (num_some HD.out hlt (by omega) (by omega) (by omega) (by omega))]; rfl, rfl⟩
      · go_ret2
        exact ⟨by rw [numOut_none (num_ten HD.out (by omega))]; rfl, rfl⟩
    · go_wp2
      go_ret2
      exact ⟨by rw [numOut_none (num_end HD.out (by omega))]; rfl, rfl⟩

end Go.Proofs.Ytibciflmalfbjaa

/-!   Numbers in groups of seven bits: what is read of what was put, and what is put of what was read: plain mathematics. -/
namespace Go.Proofs.Ytibciflmalfbjaa
open Go.RowKit

theorem pow7_succ (k : Nat) : 2 ^ (7 * (k + 1)) = 128 * 2 ^ (7 * k) := by
  rw [show 7 * (k + 1) = 7 * k + 7 from by omega, Nat.pow_add]; omega
theorem pow7_le {k : Nat} (hk : k ≤ 8) : 2 ^ (7 * k) ≤ 72057594037927936 := by
  have : 2 ^ (7 * k) ≤ 2 ^ 56 := Nat.pow_le_pow_right (by omega) (by omega)
  omega
theorem grp_nat (x k : Nat) (c : UInt8) (hk : k ≤ 9) (hx : x < 2 ^ (7 * k)) (h9 : k = 9 → c.toNat % 128 ≤ 1) :
    grp (x : Int) k c = ((x + (c.toNat % 128) * 2 ^ (7 * k) : Nat) : Int) := by
  have hv : (c.toNat % 128) * 2 ^ (7 * k) < 18446744073709551616 := by
    by_cases h : k = 9
    · subst h
      have := h9 rfl
      have : c.toNat % 128 * 2 ^ (7 * 9) ≤ 1 * 2 ^ (7 * 9) := Nat.mul_le_mul_right _ this
      omega
    · have h1 := pow7_le (k := k) (by omega)
      have : c.toNat % 128 * 2 ^ (7 * k) ≤ 127 * 72057594037927936 := Nat.mul_le_mul (by omega) h1
      omega
  have hx2 : x < 18446744073709551616 := by
    have : 2 ^ (7 * k) ≤ 2 ^ 63 := Nat.pow_le_pow_right (by omega) (by omega)
    omega
  unfold grp
  have e : ((c.toNat : Int) % 128) * 2 ^ (7 * k) = (((c.toNat % 128) * 2 ^ (7 * k) : Nat) : Int) := by
    rw [Int.natCast_mul, Int.natCast_emod, Int.natCast_pow]; rfl
  rw [e, IntWalk.u64_in _ ⟨by omega, by omega⟩, u64_or_nat _ _ hx2 hv]
  congr 1
  rw [Nat.mul_comm (c.toNat % 128), Nat.or_comm, ← Nat.two_pow_add_eq_or_of_lt hx, Nat.add_comm]

theorem rd_put : ∀ (n x k : Nat) (rest : List UInt8), k ≤ 9 → x < 2 ^ (7 * k) → x + n * 2 ^ (7 * k) < 18446744073709551616 → (k = 0 ∨ 1 ≤ n) →
    rd (x : Int) k (put n ++ rest) = some (((x + n * 2 ^ (7 * k) : Nat) : Int), k + (put n).length) := by
  intro n
  induction n using Nat.strongRecOn with
  | ind n ih =>
    intro x k rest hk hx hb h0
    have h9n : k = 9 → n ≤ 1 := by
      intro e; subst e
      have : n * 2 ^ (7 * 9) < 2 * 2 ^ (7 * 9) := by omega
      have := Nat.lt_of_mul_lt_mul_right this
      omega
    by_cases hn : n < 128
    · have hc : (UInt8.ofNat n).toNat = n := by rw [UInt8.toNat_ofNat']; omega
      rw [put_low hn]
      simp only [List.cons_append, List.nil_append, rd]
      rw [if_neg (by omega), if_neg (by rw [hc]; omega), hc, if_pos hn, if_neg (by omega)]
      rw [grp_nat x k _ hk hx (by rw [hc]; omega), hc, Nat.mod_eq_of_lt hn]
      rfl
    · have hk8 : k ≤ 8 := by
        have : k ≠ 9 := fun e => by have := h9n e; omega
        omega
      have hc : (UInt8.ofNat (n % 128 + 128)).toNat = n % 128 + 128 := by rw [UInt8.toNat_ofNat']; omega
      have hcm : (n % 128 + 128) % 128 = n % 128 := by omega
      rw [put_high (by omega)]
      simp only [List.cons_append, rd]
      rw [if_neg (by omega), if_neg (by omega), hc, if_neg (by omega)]
      rw [grp_nat x k _ hk hx (by omega), hc, hcm]
      have hp := pow7_succ k
      have hsplit : n * 2 ^ (7 * k) = n % 128 * 2 ^ (7 * k) + n / 128 * 2 ^ (7 * (k + 1)) := by
        rw [hp, ← Nat.mul_assoc, ← Nat.add_mul]
        congr 1; omega
      have hx' : x + n % 128 * 2 ^ (7 * k) < 2 ^ (7 * (k + 1)) := by
        have : n % 128 * 2 ^ (7 * k) ≤ 127 * 2 ^ (7 * k) := Nat.mul_le_mul_right _ (by omega)
        omega
      rw [ih (n / 128) (by omega) _ (k + 1) rest (by omega) hx' (by omega) (Or.inr (by omega))]
      simp only [List.length_cons, Option.some.injEq, Prod.mk.injEq]
      exact ⟨by congr 1; omega, by omega⟩

theorem put_rd : ∀ (l : List UInt8) (x k : Nat) (Y : Int) (u : Nat), x < 2 ^ (7 * k) → rd (x : Int) k l = some (Y, u) →
    ∃ m : Nat, Y = ((x + m * 2 ^ (7 * k) : Nat) : Int) ∧ put m = l.take (u - k) ∧ k + 1 ≤ u ∧ (0 < k → 1 ≤ m) ∧ x + m * 2 ^ (7 * k) < 18446744073709551616
  | [], x, k, Y, u, _, h => by simp [rd] at h
  | c :: cs, x, k, Y, u, hx, h => by
    rw [rd] at h
    by_cases h10 : 10 ≤ k
    · rw [if_pos h10] at h; cases h
    rw [if_neg h10] at h
    by_cases h9 : k = 9 ∧ 1 < c.toNat
    · rw [if_pos h9] at h; cases h
    rw [if_neg h9] at h
    by_cases h1 : c.toNat < 128
    · rw [if_pos h1] at h
      by_cases h0 : 0 < k ∧ c.toNat = 0
      · rw [if_pos h0] at h; cases h
      · rw [if_neg h0] at h
        simp only [Option.some.injEq, Prod.mk.injEq] at h
        obtain ⟨rfl, rfl⟩ := h
        have hcm : c.toNat % 128 = c.toNat := Nat.mod_eq_of_lt h1
        refine ⟨c.toNat, by rw [grp_nat x k c (by omega) hx (by omega), hcm], ?_, by omega, by omega, ?_⟩
        · rw [put_low h1, show k + 1 - k = 1 from by omega]
          simp
        · by_cases e : k = 9
          · subst e
            have : c.toNat * 2 ^ (7 * 9) ≤ 1 * 2 ^ (7 * 9) := Nat.mul_le_mul_right _ (by omega)
            omega
          · have h2 := pow7_le (k := k) (by omega)
            have : c.toNat * 2 ^ (7 * k) ≤ 127 * 72057594037927936 := Nat.mul_le_mul (by omega) h2
            omega
    · rw [if_neg h1] at h
      have hc := c.toNat_lt
      have hk8 : k ≤ 8 := by omega
      rw [grp_nat x k c (by omega) hx (by omega)] at h
      have hp := pow7_succ k
      have hx' : x + c.toNat % 128 * 2 ^ (7 * k) < 2 ^ (7 * (k + 1)) := by
        have : c.toNat % 128 * 2 ^ (7 * k) ≤ 127 * 2 ^ (7 * k) := Nat.mul_le_mul_right _ (by omega)
        omega
      obtain ⟨m, rfl, hm2, hm3, hm4, hm5⟩ := put_rd cs _ _ _ _ hx' h
      have hm := hm4 (by omega)
      have hsplit : (c.toNat % 128 + 128 * m) * 2 ^ (7 * k) = c.toNat % 128 * 2 ^ (7 * k) + m * 2 ^ (7 * (k + 1)) := by
        rw [hp, ← Nat.mul_assoc, ← Nat.add_mul]
        congr 1; omega
      refine ⟨c.toNat % 128 + 128 * m, by congr 1; omega, ?_, by omega, by omega, by omega⟩
      rw [put_high (by omega)]
      have e1 : (c.toNat % 128 + 128 * m) % 128 + 128 = c.toNat := by omega
      have e2 : (c.toNat % 128 + 128 * m) / 128 = m := by omega
      rw [e1, e2, hm2]
      obtain ⟨q, hq⟩ : ∃ q, u - k = q + 1 := ⟨u - k - 1, by omega⟩
      rw [hq, List.take_succ_cons, show u - (k + 1) = q from by omega]
      simp
end Go.Proofs.Ytibciflmalfbjaa

/-!   A number is read back from its bytes; what is read has just its bytes: on texts of bytes, plain mathematics. -/
namespace Go.Proofs.Ytibciflmalfbjaa
open Go.RowKit

theorem put_mono : ∀ (n m : Nat), m ≤ n → (put m).length ≤ (put n).length := by
  intro n
  induction n using Nat.strongRecOn with
  | ind n ih =>
    intro m hm
    by_cases h : n < 128
    · rw [put_low h, put_low (by omega)]; simp
    · by_cases h2 : m < 128
      · rw [put_low h2]; have := put_pos n; simpa using this
      · rw [put_high (n := n) (by omega), put_high (n := m) (by omega)]
        have := ih (n / 128) (by omega) (m / 128) (by omega)
        simp only [List.length_cons]; omega
theorem num_put (n : Nat) (hn : n < 18446744073709551616) (r : ByteArray) : num ((⟨(put n).toArray⟩ : ByteArray) ++ r) = some ((n : Int), (put n).length) := by
  have h := rd_put n 0 0 r.data.toList (by omega) (by decide) (by omega) (Or.inl rfl)
  have e : ((⟨(put n).toArray⟩ : ByteArray) ++ r).data.toList = put n ++ r.data.toList := by simp [ByteArray.data_append]
  unfold num
  rw [e]
  simpa using h
theorem ext_tail2 (l : List UInt8) (r : ByteArray) : ((⟨l.toArray⟩ : ByteArray) ++ r).extract l.length ((⟨l.toArray⟩ : ByteArray) ++ r).size = r := by
  apply ByteArray.ext
  apply Array.ext'
  rw [Lib.extract_data, Lib.size_eq]
  have e : ((⟨l.toArray⟩ : ByteArray) ++ r).data.toList = l ++ r.data.toList := by simp [ByteArray.data_append]
  rw [e]
  simp
  exact List.take_of_length_le (Nat.le_of_eq (Lib.size_eq r).symm)
theorem take_put (n : Nat) (hn : n < 18446744073709551616) (r : ByteArray) : takeOut ((⟨(put n).toArray⟩ : ByteArray) ++ r) = .tuple #[.int .u64 (n : Int), .string r, .bool true] := by
  rw [takeOut_some (num_put n hn r), ext_tail2]
theorem num_back {s : ByteArray} {X : Int} {u : Nat} (h : num s = some (X, u)) :
    ∃ m : Nat, X = (m : Int) ∧ m < 18446744073709551616 ∧ (⟨(put m).toArray⟩ : ByteArray) ++ s.extract u s.size = s := by
  obtain ⟨m, h1, h2, _, _, h5⟩ := put_rd s.data.toList 0 0 X u (by decide) h
  refine ⟨m, by simpa using h1, by omega, ?_⟩
  rw [h2]
  apply ByteArray.ext
  apply Array.ext'
  have hb := num_bd h
  have hs : s.data.size = s.size := rfl
  simp [ByteArray.data_extract, ByteArray.data_append]
  have e : (s.data.toList.drop u).take (s.size - u) = s.data.toList.drop u := List.take_of_length_le (by rw [List.length_drop, ← Lib.size_eq]; exact Nat.le_refl _)
  rw [e, List.take_append_drop]
end Go.Proofs.Ytibciflmalfbjaa
