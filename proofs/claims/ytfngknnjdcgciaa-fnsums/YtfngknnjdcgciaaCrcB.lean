/-
  What eightMoves answers: the table of the 256 bytes, each moved eight times (Crc32).
-/
import Derived.Test.YtfngknnjdcgciaaCrcA
import Derived.Deep.WholeRow
namespace Go.Proofs.Ytfngknnjdcgciaa
open Go.RowKit

/-- the table's cells -/
def crc32Tab : Array Value := Array.ofFn fun i : Fin 256 => Value.int .u32 (mv 3988292384 8 i.val : Nat)
theorem crc32Tab_size : crc32Tab.size = 256 := by simp [crc32Tab]
theorem crc32Tab_at (j : Nat) (h : j < 256) : crc32Tab[j]? = some (.int .u32 (mv 3988292384 8 j : Nat)) := by
  simp [crc32Tab, h]
theorem crc32Tab_one : crc32Tab.all (·.oneCell') = true := by
  rw [Array.all_eq_true]
  intro i hi
  simp only [crc32Tab, Array.getElem_ofFn]
  rfl
theorem crc32Tab_eq {cur : Array Value} (hs : cur.size = 256) (h : ∀ j, j < 256 → cur[j]? = some (.int .u32 (mv 3988292384 8 j : Nat))) : cur = crc32Tab := by
  apply Array.ext_getElem?
  intro i
  by_cases hi : i < 256
  · rw [h i hi, crc32Tab_at i hi]
  · rw [Array.getElem?_eq_none (by omega), Array.getElem?_eq_none (by rw [crc32Tab_size]; omega)]
theorem crc32_set {cur : Array Value} {k : Nat} (hs : cur.size = 256) (hk : k < 256) (h : ∀ j, j < k → cur[j]? = some (.int .u32 (mv 3988292384 8 j : Nat))) :
    ∀ j, j < k + 1 → (cur.setIfInBounds k (.int .u32 (mv 3988292384 8 k : Nat)))[j]? = some (.int .u32 (mv 3988292384 8 j : Nat)) := by
  intro j hj
  by_cases e : k = j
  · subst e
    rw [Array.getElem?_setIfInBounds_self_of_lt (by omega)]
  · rw [Array.getElem?_setIfInBounds_ne e]
    exact h j (by omega)

set_option maxRecDepth 100000 in
set_option maxHeartbeats 2000000 in
theorem crc32_moves (w : World) :
    Calls Try.prog 48 #[.int .u32 3988292384] w fun e w' => e = .returned (.agg crc32Tab) ∧ Below w.heap.size w w' := by
  obtain ⟨Z, hZ⟩ : ∃ Z : Array Value, Z = Array.replicate 256 (Value.int .u32 0) := ⟨_, rfl⟩
  have hz : ∀ w, (zeroValue 59).run Try.prog w = .ok (.agg Z) w := by rw [hZ]; exact (zero_of_info (n := 256) (by kernel_rfl)).1
  have hi41 : (Try.prog.info? 59).map (·.size) = some 256 := (zero_of_info (v := .agg (Array.replicate 256 (Value.int .u32 0))) (by kernel_rfl)).2
  have hZs : Z.size = 256 := by rw [hZ]; simp
  have hZc : (Value.agg Z).cells = Z := by rw [hZ]; kernel_rfl
  clear hZ
  have HI : Hid _ := hi41
  clear hi41
  go_enter Try.func48, Try.ntmps48
  go_wp2
  clear hz hZc
  go_loopw [7] (fun i wr => ∃ (k : Nat) (cur : Array Value), k ≤ 256 ∧ i = .int .i64 k ∧ wr = (w.alloc (.cells Z 59)).alloc (.cells cur 59) ∧ cur.size = 256 ∧ Hid (∀ j, j < k → cur[j]? = some (.int .u32 (mv 3988292384 8 j : Nat))))
    (fun i _ => 256 - (crcIntOf i).toNat)
  case atStart => exact ⟨0, Z, by omega, rfl, rfl, hZs, fun j hj => absurd hj (by omega)⟩
  case round =>
    obtain ⟨k, cur, hk, rfl, rfl, hcs, HC⟩ := hrel
    by_cases hlt : k < 256
    · obtain ⟨x, hx⟩ : ∃ x, cur[k]? = some x := ⟨_, Array.getElem?_eq_getElem (by omega)⟩
      go_wp2
      go_loop [5, 12] (fun c j => ∃ n : Nat, n ≤ 8 ∧ j = .int .i64 n ∧ c = .int .u32 (mv 3988292384 n k : Nat)) (fun _ j => 8 - (crcIntOf j).toNat)
      case atStart => exact ⟨0, by omega, rfl, rfl⟩
      case round =>
        obtain ⟨n, hn8, rfl, rfl⟩ := hrel
        by_cases hn9 : n < 8
        · have hm : mv 3988292384 n k < 4294967296 := mv_lt (n := 32) (by decide) n k (by omega)
          have hs1 : Hid (mv 3988292384 (n + 1) k = step 3988292384 (mv 3988292384 n k)) := mv_snoc _ _ _
          generalize mv 3988292384 n k = q at hm hs1
          have ha : bits .and .u32 (q : Int) 1 = (q : Int) % 2 := bits_mask .u32 32 (by decide) (fun n _ _ => by rw [IntKind.wrap_u32]; omega) 1 (by decide) (q : Int) (by omega) (by omega)
          by_cases hq : q % 2 = 1
          · have hb : ((q : Int) % 2 == 1) = true := beq_iff_eq.2 (by omega)
            have hy : Hid (bits .xor .u32 ((q : Int) / 2) 3988292384 = ((q / 2 ^^^ 3988292384 : Nat) : Int)) := u32_xor_nat (q / 2) 3988292384 (by omega) (by omega)
            have ht : Hid (step 3988292384 q = q / 2 ^^^ 3988292384) := step_odd hq
            clear hq
            go_wp2
            go_round
            case rel => exact ⟨n + 1, by omega, by go_num, by rw [hs1.out, ht.out, hy.out]⟩
            case measure => simp [crcIntOf]; omega
          · have hb : ((q : Int) % 2 == 1) = false := beq_eq_false_iff_ne.2 (by omega)
            have ht : Hid (step 3988292384 q = q / 2) := step_even hq
            clear hq
            go_wp2
            go_round
            case rel => exact ⟨n + 1, by omega, by go_num, by rw [hs1.out, ht.out]; rfl⟩
            case measure => simp [crcIntOf]; omega
        · obtain rfl : n = 8 := by omega
          go_wp2
          go_roundw
          case rel => exact ⟨k + 1, _, by omega, by go_num, rfl, by simpa using hcs, crc32_set hcs hlt HC.out⟩
          case measure => simp [crcIntOf]; omega
    · obtain rfl : k = 256 := by omega
      obtain rfl : cur = crc32Tab := crc32Tab_eq hcs HC.out
      clear HC hcs
      have hg1 := heap_alloc2_new w (.cells Z 59) (.cells crc32Tab 59)
      have hg2 := heap_alloc2_old w (.cells Z 59) (.cells crc32Tab 59)
      have hst : (Try.prog.info? 59).map (·.size) = some crc32Tab.size := by rw [crc32Tab_size]; exact HI.out
      have hzt : Z.size = crc32Tab.size := by rw [crc32Tab_size]; exact hZs
      have hg3 := setRow_heap ((w.alloc (.cells Z 59)).alloc (.cells crc32Tab 59)) w.heap.size Z crc32Tab 59 (0, 0) hg2
      have hb : Below w.heap.size w (((w.alloc (.cells Z 59)).alloc (.cells crc32Tab 59)).setRow w.heap.size crc32Tab) :=
        (((Below.refl _ w).alloc (Nat.le_refl _) _).alloc (by simp) _).trans ⟨rfl, rfl, rfl, by simp, fun k hk => setRow_other _ _ _ _ (by omega)⟩
      have H1 : Hid _ := hg1
      have H2 : Hid _ := hg2
      have H3 : Hid _ := hg3
      have H4 : Hid _ := hst
      have H5 : Hid _ := hzt
      have H6 : Hid _ := hb
      clear hg1 hg2 hg3 hst hzt hb hZs
      go_wp2_with (first
        | (refine wpList_load_row rfl 59 _ rfl (w.heap.size + 1) rfl 59 crc32Tab (0, 0) _ H1.out Try.underlying59 rfl H4.out ?_)
        | (refine wpList_store_row rfl 59 _ _ rfl w.heap.size crc32Tab rfl rfl 59 Z H2.out H4.out H5.out crc32Tab_one ?_))
      (try simp only [Exit.inBlock, Exit.then])
      exact bodyPost_ret (results_cell_row rfl _ _ w.heap.size 59 crc32Tab (0, 0) _ rfl H3.out Try.underlying59 rfl H4.out) rfl ⟨rfl, H6.out⟩
end Go.Proofs.Ytfngknnjdcgciaa
