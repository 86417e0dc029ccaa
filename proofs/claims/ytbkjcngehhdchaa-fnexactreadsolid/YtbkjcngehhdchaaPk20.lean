/-
  Several texts of this seat as one: CrcMath, CrcA, CrcB.
-/
import Derived.WalkKit
import Derived.Test.YtbkjcngehhdchaaRows
import Derived.WalkSpells
import Derived.Laws.BitsAllLaws
import Derived.Deep.WholeRow

/-!   The two sums as plain mathematics: eight moves of the register for a byte, and the same by a table: no program is named here. -/
namespace Go.Proofs.Ytbkjcngehhdchaa

def crcIntOf : Value → Int | .int _ q => q | _ => 0
/-- one move of the register -/
def step (p r : Nat) : Nat := (r / 2) ^^^ (if r % 2 = 1 then p else 0)
/-- so many moves -/
def mv (p : Nat) : Nat → Nat → Nat
  | 0, r => r
  | k + 1, r => mv p k (step p r)
theorem mv_snoc (p : Nat) : ∀ (k r : Nat), mv p (k + 1) r = step p (mv p k r)
  | 0, r => rfl
  | k + 1, r => by
    have := mv_snoc p k (step p r)
    simpa [mv] using this
theorem step_odd {p r : Nat} (h : r % 2 = 1) : step p r = r / 2 ^^^ p := by unfold step; rw [if_pos h]
theorem step_even {p r : Nat} (h : ¬ r % 2 = 1) : step p r = r / 2 := by unfold step; rw [if_neg h]; simp
theorem step_lt {p r n : Nat} (hp : p < 2 ^ n) (hr : r < 2 ^ n) : step p r < 2 ^ n := by
  unfold step
  refine Nat.xor_lt_two_pow (by omega) ?_
  split
  · exact hp
  · exact Nat.two_pow_pos n
theorem mv_lt {p n : Nat} (hp : p < 2 ^ n) : ∀ (k r : Nat), r < 2 ^ n → mv p k r < 2 ^ n
  | 0, _, h => h
  | k + 1, _, h => mv_lt hp k _ (step_lt hp h)
theorem step_xor (p a b : Nat) : step p (a ^^^ b) = step p a ^^^ step p b := by
  unfold step
  have hd : (a ^^^ b) / 2 = a / 2 ^^^ b / 2 := Nat.xor_div_two
  have hm : (a ^^^ b) % 2 = 1 ↔ ¬ (a % 2 = 1 ↔ b % 2 = 1) := Nat.xor_mod_two_eq_one
  rw [hd]
  by_cases ha : a % 2 = 1 <;> by_cases hb : b % 2 = 1
  · rw [if_neg (by rw [hm]; simp [ha, hb]), if_pos ha, if_pos hb]
    rw [Nat.xor_zero, Nat.xor_assoc, ← Nat.xor_assoc p, Nat.xor_comm p, Nat.xor_assoc (b / 2), Nat.xor_self, Nat.xor_zero]
  · rw [if_pos (by rw [hm]; simp [ha, hb]), if_pos ha, if_neg hb]
    rw [Nat.xor_zero, Nat.xor_assoc, Nat.xor_assoc, Nat.xor_comm p]
  · rw [if_pos (by rw [hm]; simp [ha, hb]), if_neg ha, if_pos hb]
    rw [Nat.xor_zero, Nat.xor_assoc]
  · rw [if_neg (by rw [hm]; simp [ha, hb]), if_neg ha, if_neg hb]
    simp
theorem mv_xor (p : Nat) : ∀ (k a b : Nat), mv p k (a ^^^ b) = mv p k a ^^^ mv p k b
  | 0, _, _ => rfl
  | k + 1, a, b => by rw [mv, step_xor, mv_xor p k, mv, mv]
theorem mv_shift (p : Nat) : ∀ (k y : Nat), mv p k (2 ^ k * y) = y
  | 0, y => by simp [mv]
  | k + 1, y => by
    rw [mv, step_even (by rw [Nat.pow_succ, Nat.mul_comm (2 ^ k) 2, Nat.mul_assoc]; omega)]
    rw [Nat.pow_succ, Nat.mul_comm (2 ^ k) 2, Nat.mul_assoc, Nat.mul_div_cancel_left _ (by omega)]
    exact mv_shift p k y
/-- by the table -/
theorem mv_table (p c b : Nat) : mv p 8 (c ^^^ b) = c / 256 ^^^ mv p 8 (c % 256 ^^^ b) := by
  have h : c = 2 ^ 8 * (c / 256) ^^^ c % 256 := by
    apply Nat.eq_of_testBit_eq
    intro i
    have h256 : (256 : Nat) = 2 ^ 8 := rfl
    rw [Nat.testBit_xor, Nat.testBit_two_pow_mul, h256, Nat.testBit_mod_two_pow, Nat.testBit_div_two_pow]
    by_cases hi : i < 8
    · have h8 : ¬ 8 ≤ i := by omega
      simp [hi, h8]
    · have h8 : 8 ≤ i := by omega
      have : i - 8 + 8 = i := by omega
      simp [hi, h8, this]
  have e : c ^^^ b = 2 ^ 8 * (c / 256) ^^^ (c % 256 ^^^ b) := by
    conv => lhs; rw [h]
    rw [Nat.xor_assoc]
  rw [e, mv_xor, mv_shift]
/-- the register behind some bytes -/
def regs (p c : Nat) (l : List UInt8) : Nat := l.foldl (fun c b => mv p 8 (c ^^^ b.toNat)) c
theorem regs_nil (p c : Nat) : regs p c [] = c := rfl
theorem regs_snoc (p c : Nat) (l : List UInt8) (b : UInt8) : regs p c (l ++ [b]) = mv p 8 (regs p c l ^^^ b.toNat) := by
  unfold regs; rw [List.foldl_append]; rfl
theorem regs_lt {p c n : Nat} (hp : p < 2 ^ n) (hc : c < 2 ^ n) (h8 : 8 ≤ n) : ∀ (l : List UInt8) , regs p c l < 2 ^ n := by
  intro l
  have key : ∀ (l : List UInt8) (c : Nat), c < 2 ^ n → regs p c l < 2 ^ n := by
    intro l
    induction l with
    | nil => intro c hc; exact hc
    | cons b l ih =>
      intro c hc
      have hb : b.toNat < 2 ^ n := Nat.lt_of_lt_of_le b.toNat_lt (Nat.pow_le_pow_right (by omega) h8)
      exact ih _ (mv_lt hp 8 _ (Nat.xor_lt_two_pow hc hb))
  exact key l c hc
theorem take_snoc (s : ByteArray) (k : Nat) (h : k < s.size) : s.data.toList.take (k + 1) = s.data.toList.take k ++ [s[k]] := by
  rw [List.take_succ_eq_append_getElem (by simpa using h)]; rfl
end Go.Proofs.Ytbkjcngehhdchaa

/-!   What the specification's Crc32 answers, in plain words. -/
namespace Go.Proofs.Ytbkjcngehhdchaa
open Go.RowKit

/-- the sum of bytes -/
def crc32 (s : ByteArray) : Nat := regs 3988292384 4294967295 s.data.toList ^^^ 4294967295
theorem crc32_lt (l : List UInt8) : regs 3988292384 4294967295 l < 4294967296 := regs_lt (n := 32) (by decide) (by decide) (by decide) l

set_option maxRecDepth 100000 in
set_option maxHeartbeats 1000000 in
theorem scrc32_any (s : ByteArray) (w : World) (hs : s.size ≤ maxLen) :
    Calls Try.prog 30 #[.string s] w fun e w' => e = .returned (.int .u32 (crc32 s : Nat)) ∧ w' = w := by
  unfold maxLen at hs
  go_enter Try.func30, Try.ntmps30
  go_wp2
  go_loop [3, 4] (fun c i => ∃ k : Nat, k ≤ s.size ∧ i = .int .i64 k ∧ c = .int .u32 (regs 3988292384 4294967295 (s.data.toList.take k) : Nat)) (fun _ i => s.size - (crcIntOf i).toNat)
  case atStart => exact ⟨0, by omega, rfl, rfl⟩
  case round =>
    obtain ⟨k, hk, rfl, rfl⟩ := hrel
    by_cases hlt : k < s.size
    · have hr := crc32_lt (s.data.toList.take k)
      have hc : s[k].toNat < 256 := s[k].toNat_lt
      have hn : Hid (regs 3988292384 4294967295 (s.data.toList.take (k + 1)) = mv 3988292384 8 (regs 3988292384 4294967295 (s.data.toList.take k) ^^^ s[k].toNat)) := by rw [take_snoc s k hlt]; exact regs_snoc _ _ _ _
      generalize regs 3988292384 4294967295 (s.data.toList.take k) = r at hr hn
      have hx := u32_xor_nat r s[k].toNat hr (by omega)
      have hxl : r ^^^ s[k].toNat < 4294967296 := Nat.xor_lt_two_pow (n := 32) hr (by omega)
      generalize r ^^^ s[k].toNat = r1 at hx hxl hn
      go_wp2
      go_loop [3, 5] (fun c j => ∃ n : Nat, n ≤ 8 ∧ j = .int .i64 n ∧ c = .int .u32 (mv 3988292384 n r1 : Nat)) (fun _ j => 8 - (crcIntOf j).toNat)
      case atStart => exact ⟨0, by omega, rfl, rfl⟩
      case round =>
        obtain ⟨n, hn8, rfl, rfl⟩ := hrel
        by_cases hn9 : n < 8
        · have hm : mv 3988292384 n r1 < 4294967296 := mv_lt (n := 32) (by decide) n r1 hxl
          have hs1 : Hid (mv 3988292384 (n + 1) r1 = step 3988292384 (mv 3988292384 n r1)) := mv_snoc _ _ _
          generalize mv 3988292384 n r1 = q at hm hs1
          by_cases hq : q % 2 = 1
          · have hb : ((q : Int) % 2 == 1) = true := beq_iff_eq.2 (by omega)
            have hy : Hid (bits .xor .u32 ((q : Int) / 2) 3988292384 = ((q / 2 ^^^ 3988292384 : Nat) : Int)) := u32_xor_nat (q / 2) 3988292384 (by omega) (by omega)
            have ht : Hid (step 3988292384 q = q / 2 ^^^ 3988292384) := step_odd hq
            clear hq
            go_wp2
            go_round
            case rel => exact ⟨n + 1, by omega, by go_num, by rw [hs1.out, ht.out, hy.out]⟩
            case measure => simp [crcIntOf]; omega
          · have hb : ((q : Int) % 2 == 1) = false := beq_eq_false_iff_ne.2 (by omega)
            have ht : Hid (step 3988292384 q = q / 2) := step_even hq
            clear hq
            go_wp2
            go_round
            case rel => exact ⟨n + 1, by omega, by go_num, by rw [hs1.out, ht.out]; rfl⟩
            case measure => simp [crcIntOf]; omega
        · obtain rfl : n = 8 := by omega
          go_wp2
          go_round
          case rel => exact ⟨k + 1, by omega, by go_num, by rw [hn.out]⟩
          case measure => simp [crcIntOf]; omega
    · have hr := crc32_lt s.data.toList
      have hall : s.data.toList.take k = s.data.toList := List.take_of_length_le (by have : s.data.toList.length = s.size := rfl; omega)
      rw [hall]
      have hy : Hid (bits .xor .u32 ((regs 3988292384 4294967295 s.data.toList : Nat) : Int) 4294967295 = ((crc32 s : Nat) : Int)) := u32_xor_nat _ 4294967295 hr (by omega)
      clear hall
      generalize regs 3988292384 4294967295 s.data.toList = r at hr hy
      go_wp2
      go_ret
      exact ⟨by rw [← hy.out]; rfl, rfl⟩
end Go.Proofs.Ytbkjcngehhdchaa

/-!   What eightMoves answers: the table of the 256 bytes, each moved eight times (Crc32). -/
namespace Go.Proofs.Ytbkjcngehhdchaa
open Go.RowKit

/-- the table's cells -/
def crc32Tab : Array Value := Array.ofFn fun i : Fin 256 => Value.int .u32 (mv 3988292384 8 i.val : Nat)
theorem crc32Tab_size : crc32Tab.size = 256 := by simp [crc32Tab]
theorem crc32Tab_at (j : Nat) (h : j < 256) : crc32Tab[j]? = some (.int .u32 (mv 3988292384 8 j : Nat)) := by
  simp [crc32Tab, h]
theorem crc32Tab_one : crc32Tab.all (·.oneCell') = true := by
  rw [Array.all_eq_true]
  intro i hi
  simp only [crc32Tab, Array.getElem_ofFn]
  rfl
theorem crc32Tab_eq {cur : Array Value} (hs : cur.size = 256) (h : ∀ j, j < 256 → cur[j]? = some (.int .u32 (mv 3988292384 8 j : Nat))) : cur = crc32Tab := by
  apply Array.ext_getElem?
  intro i
  by_cases hi : i < 256
  · rw [h i hi, crc32Tab_at i hi]
  · rw [Array.getElem?_eq_none (by omega), Array.getElem?_eq_none (by rw [crc32Tab_size]; omega)]
theorem crc32_set {cur : Array Value} {k : Nat} (hs : cur.size = 256) (hk : k < 256) (h : ∀ j, j < k → cur[j]? = some (.int .u32 (mv 3988292384 8 j : Nat))) :
    ∀ j, j < k + 1 → (cur.setIfInBounds k (.int .u32 (mv 3988292384 8 k : Nat)))[j]? = some (.int .u32 (mv 3988292384 8 j : Nat)) := by
  intro j hj
  by_cases e : k = j
  · subst e
    rw [Array.getElem?_setIfInBounds_self_of_lt (by omega)]
  · rw [Array.getElem?_setIfInBounds_ne e]
    exact h j (by omega)

set_option maxRecDepth 100000 in
set_option maxHeartbeats 2000000 in
theorem crc32_moves (w : World) :
    Calls Try.prog 100 #[.int .u32 3988292384] w fun e w' => e = .returned (.agg crc32Tab) ∧ Below w.heap.size w w' := by
  obtain ⟨Z, hZ⟩ : ∃ Z : Array Value, Z = Array.replicate 256 (Value.int .u32 0) := ⟨_, rfl⟩
  have hz : ∀ w, (zeroValue 148).run Try.prog w = .ok (.agg Z) w := by rw [hZ]; exact (zero_of_info (n := 256) (by kernel_rfl)).1
  have hi41 : (Try.prog.info? 148).map (·.size) = some 256 := (zero_of_info (v := .agg (Array.replicate 256 (Value.int .u32 0))) (by kernel_rfl)).2
  have hZs : Z.size = 256 := by rw [hZ]; simp
  have hZc : (Value.agg Z).cells = Z := by rw [hZ]; kernel_rfl
  clear hZ
  have HI : Hid _ := hi41
  clear hi41
  go_enter Try.func100, Try.ntmps100
  go_wp2
  clear hz hZc
  go_loopw [7] (fun i wr => ∃ (k : Nat) (cur : Array Value), k ≤ 256 ∧ i = .int .i64 k ∧ wr = (w.alloc (.cells Z 148)).alloc (.cells cur 148) ∧ cur.size = 256 ∧ Hid (∀ j, j < k → cur[j]? = some (.int .u32 (mv 3988292384 8 j : Nat))))
    (fun i _ => 256 - (crcIntOf i).toNat)
  case atStart => exact ⟨0, Z, by omega, rfl, rfl, hZs, fun j hj => absurd hj (by omega)⟩
  case round =>
    obtain ⟨k, cur, hk, rfl, rfl, hcs, HC⟩ := hrel
    by_cases hlt : k < 256
    · obtain ⟨x, hx⟩ : ∃ x, cur[k]? = some x := ⟨_, Array.getElem?_eq_getElem (by omega)⟩
      go_wp2
      go_loop [5, 12] (fun c j => ∃ n : Nat, n ≤ 8 ∧ j = .int .i64 n ∧ c = .int .u32 (mv 3988292384 n k : Nat)) (fun _ j => 8 - (crcIntOf j).toNat)
      case atStart => exact ⟨0, by omega, rfl, rfl⟩
      case round =>
        obtain ⟨n, hn8, rfl, rfl⟩ := hrel
        by_cases hn9 : n < 8
        · have hm : mv 3988292384 n k < 4294967296 := mv_lt (n := 32) (by decide) n k (by omega)
          have hs1 : Hid (mv 3988292384 (n + 1) k = step 3988292384 (mv 3988292384 n k)) := mv_snoc _ _ _
          generalize mv 3988292384 n k = q at hm hs1
          have ha : bits .and .u32 (q : Int) 1 = (q : Int) % 2 := bits_mask .u32 32 (by decide) (fun n _ _ => by rw [IntKind.wrap_u32]; omega) 1 (by decide) (q : Int) (by omega) (by omega)
          by_cases hq : q % 2 = 1
          · have hb : ((q : Int) % 2 == 1) = true := beq_iff_eq.2 (by omega)
            have hy : Hid (bits .xor .u32 ((q : Int) / 2) 3988292384 = ((q / 2 ^^^ 3988292384 : Nat) : Int)) := u32_xor_nat (q / 2) 3988292384 (by omega) (by omega)
            have ht : Hid (step 3988292384 q = q / 2 ^^^ 3988292384) := step_odd hq
            clear hq
            go_wp2
            go_round
            case rel => exact ⟨n + 1, by omega, by go_num, by rw [hs1.out, ht.out, hy.out]⟩
            case measure => simp [crcIntOf]; omega
          · have hb : ((q : Int) % 2 == 1) = false := beq_eq_false_iff_ne.2 (by omega)
            have ht : Hid (step 3988292384 q = q / 2) := step_even hq
            clear hq
            go_wp2
            go_round
            case rel => exact ⟨n + 1, by omega, by go_num, by rw [hs1.out, ht.out]; rfl⟩
            case measure => simp [crcIntOf]; omega
        · obtain rfl : n = 8 := by omega
          go_wp2
          go_roundw
          case rel => exact ⟨k + 1, _, by omega, by go_num, rfl, by simpa using hcs, crc32_set hcs hlt HC.out⟩
          case measure => simp [crcIntOf]; omega
    · obtain rfl : k = 256 := by omega
      obtain rfl : cur = crc32Tab := crc32Tab_eq hcs HC.out
      clear HC hcs
      have hg1 := heap_alloc2_new w (.cells Z 148) (.cells crc32Tab 148)
      have hg2 := heap_alloc2_old w (.cells Z 148) (.cells crc32Tab 148)
      have hst : (Try.prog.info? 148).map (·.size) = some crc32Tab.size := by rw [crc32Tab_size]; exact HI.out
      have hzt : Z.size = crc32Tab.size := by rw [crc32Tab_size]; exact hZs
      have hg3 := setRow_heap ((w.alloc (.cells Z 148)).alloc (.cells crc32Tab 148)) w.heap.size Z crc32Tab 148 (0, 0) hg2
      have hb : Below w.heap.size w (((w.alloc (.cells Z 148)).alloc (.cells crc32Tab 148)).setRow w.heap.size crc32Tab) :=
        (((Below.refl _ w).alloc (Nat.le_refl _) _).alloc (by simp) _).trans ⟨rfl, rfl, rfl, by simp, fun k hk => setRow_other _ _ _ _ (by omega)⟩
      have H1 : Hid _ := hg1
      have H2 : Hid _ := hg2
      have H3 : Hid _ := hg3
      have H4 : Hid _ := hst
      have H5 : Hid _ := hzt
      have H6 : Hid _ := hb
      clear hg1 hg2 hg3 hst hzt hb hZs
      go_wp2_with (first
        | (refine wpList_load_row rfl 148 _ rfl (w.heap.size + 1) rfl 148 crc32Tab (0, 0) _ H1.out Try.underlying148 rfl H4.out ?_)
        | (refine wpList_store_row rfl 148 _ _ rfl w.heap.size crc32Tab rfl rfl 148 Z H2.out H4.out H5.out crc32Tab_one ?_))
      (try simp only [Exit.inBlock, Exit.then])
      exact bodyPost_ret (results_cell_row rfl _ _ w.heap.size 148 crc32Tab (0, 0) _ rfl H3.out Try.underlying148 rfl H4.out) rfl ⟨rfl, H6.out⟩
end Go.Proofs.Ytbkjcngehhdchaa
