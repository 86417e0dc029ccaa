/-
  Several texts of this seat as one: Put, Putc, PutText.
-/
import Derived.Test.YtpeddaljgmkomaaPk04
import Derived.WalkSpells
import Derived.Laws.IdiomStrings
import Derived.Laws.BytesArg

/-!   What PutNum answers, the specification's. -/
namespace Go.Proofs.Ytpeddaljgmkomaa
open Go.RowKit

theorem conv_own {w : World} {base : Nat} {v : Value} {l : List UInt8} (h : w.ownsRow base 5 1 v l.length (Lib.byteCells l)) :
    (convert 39 9 v).run Try.prog w = .ok (.string ⟨l.toArray⟩) w := by
  obtain ⟨_, ⟨rfl, h0⟩ | ⟨g, cap, cur, rfl, hb, hg, hn, hc, hs, ht⟩⟩ := h
  · have : l = [] := List.eq_nil_of_length_eq_zero h0
    subst this
    rw [run_convert_bytes_nil w 39 5 Try.underlying39 Try.underlying5 0 0 9 Try.underlying9]
    rfl
  · refine run_convert_bytes_back w 39 9 5 _ cap l Try.underlying39 Try.underlying5 Try.underlying9 ?_
    intro j hj
    have h1 : (Lib.byteCells l)[j]? = some (.int .u8 (l[j].toNat : Int)) := by
      simp [Lib.byteCells, hj]
    have h2 : cur[j]? = some (.int .u8 (l[j].toNat : Int)) := by
      rw [← ht] at h1
      rw [List.getElem?_take] at h1
      split at h1
      · simpa using h1
      · cases h1
    have ea : (⟨g, 0, none⟩ : Addr).add j = ⟨g, j, none⟩ := by
      unfold Addr.add
      by_cases h0 : j = 0
      · subst h0; simp
      · simp [h0]
    rw [ea]
    simp [World.cell?, hg, h2]
theorem snoc_high {acc : List UInt8} {m : Nat} : Lib.byteCells acc ++ [Value.int .u8 ((m : Int) % 128 + 128)] = Lib.byteCells (acc ++ [UInt8.ofNat (m % 128 + 128)]) := by
  rw [Lib.byteCells_append]
  have : (((UInt8.ofNat (m % 128 + 128)).toNat : Nat) : Int) = (m : Int) % 128 + 128 := by
    rw [UInt8.toNat_ofNat']; omega
  simp only [Lib.byteCells, List.map_cons, List.map_nil, this]
theorem snoc_low {acc : List UInt8} {m : Nat} (h : m < 128) : Lib.byteCells acc ++ [Value.int .u8 (m : Int)] = Lib.byteCells (acc ++ [UInt8.ofNat m]) := by
  rw [Lib.byteCells_append]
  have : (((UInt8.ofNat m).toNat : Nat) : Int) = (m : Int) := by
    rw [UInt8.toNat_ofNat']; omega
  simp only [Lib.byteCells, List.map_cons, List.map_nil, this]

set_option maxRecDepth 100000 in
set_option maxHeartbeats 1000000 in
theorem sput_any (n0 : Nat) (w : World) (hn : n0 < 18446744073709551616) :
    Calls Try.prog 97 #[.int .u64 (n0 : Int)] w fun e w' => e = .returned (.string ⟨(put n0).toArray⟩) ∧ Below w.heap.size w w' := by
  obtain ⟨i0, hi, hz0, hz1, hz2⟩ := info_parts Try.inf5
  go_enter Try.func97, Try.ntmps97
  go_wp2_with fail
  go_loopw [0, 3] (fun n v wr => ∃ (m : Nat) (acc : List UInt8), n = .int .u64 (m : Int) ∧ m ≤ n0 ∧ put n0 = acc ++ put m ∧ wr.ownsRow w.heap.size 5 1 v acc.length (Lib.byteCells acc) ∧ Below w.heap.size w wr)
    (fun n _ _ => (intOf n).toNat)
  case atStart => exact ⟨n0, [], rfl, Nat.le_refl _, rfl, World.ownsRow_made w #[] 0 (Nat.le_refl _) (by unfold maxLen; omega) rfl, (Below.refl _ _).alloc (Nat.le_refl _) _⟩
  case round =>
    obtain ⟨m, acc, rfl, hm, hp, hown, hb⟩ := hrel
    have hr := put_room hp hn
    have hsz := hb.size
    have HP : Hid (put n0 = acc ++ put m) := hp
    clear hp
    by_cases hlt : 128 ≤ m
    · have hl := hr.2 hlt
      clear hr
      go_wp2_with (at_builtin; go_loud (refine wpList_append_own _ rfl _ _ 39 rfl w.heap.size 5 i0 (.int .u8 0) 1 1 Try.underlying39 hi hz0 hz1 hz2 rfl (by decide) _ _ _ rfl (hown.alloc _) ⟨wr.heap.size, 0, none⟩ 1 1 [_] rfl rfl (cell_one_new _ _ _) ?c2 ?c3 ?c4 ?c5 ?_))
      case c2 => intro u hu; simp at hu; subst hu; rfl
      case c3 => unfold maxLen; omega
      case c4 => omega
      case c5 => simp; omega
      intro v' w1 hown' hgrow _
      rw [snoc_high] at hown'
      have hb2 : Below w.heap.size w w1 := (hb.alloc (by omega) _).grown hgrow (by simp; omega) (fun k hk => (hown.lt k hk).1)
      have H1 : Hid (w1.ownsRow w.heap.size 5 1 v' _ _ ∧ Below w.heap.size w w1) := ⟨hown', hb2⟩
      clear hown' hb2 hgrow hown hb
      go_wp2_with fail
      go_roundw
      case rel => exact ⟨m / 128, _, by go_num, by omega, put_step HP.out hlt, by simpa using H1.out.1, H1.out.2⟩
      case measure => simp [intOf]; omega
    · have hl := hr.1
      clear hr
      go_wp2_with (at_builtin; go_loud (refine wpList_append_own _ rfl _ _ 39 rfl w.heap.size 5 i0 (.int .u8 0) 1 1 Try.underlying39 hi hz0 hz1 hz2 rfl (by decide) _ _ _ rfl (hown.alloc _) ⟨wr.heap.size, 0, none⟩ 1 1 [_] rfl rfl (cell_one_new _ _ _) ?d2 ?d3 ?d4 ?d5 ?_))
      case d2 => intro u hu; simp at hu; subst hu; rfl
      case d3 => unfold maxLen; omega
      case d4 => omega
      case d5 => simp; omega
      intro v' w1 hown' hgrow _
      rw [snoc_low (by omega)] at hown'
      have hb2 : Below w.heap.size w w1 := (hb.alloc (by omega) _).grown hgrow (by simp; omega) (fun k hk => (hown.lt k hk).1)
      have hcv := conv_own (w := w1) (v := v') (l := acc ++ [UInt8.ofNat m]) (by simpa using hown')
      rw [← put_last HP.out (by omega)] at hcv
      have H1 : Hid (Below w.heap.size w w1) := hb2
      clear hown' hb2 hgrow hown hb
      go_wp2_with fail
      go_ret
      exact ⟨rfl, H1.out⟩
end Go.Proofs.Ytpeddaljgmkomaa

/-!   What the code's PutNum answers. -/
namespace Go.Proofs.Ytpeddaljgmkomaa
open Go.RowKit

theorem or128 (c : Nat) (h : c < 128) : bits .or .u8 (c : Int) 128 = (c : Int) + 128 := by
  have : ∀ c : Fin 128, bits .or .u8 ((c.val : Nat) : Int) 128 = ((c.val : Nat) : Int) + 128 := by decide +kernel
  exact this ⟨c, h⟩
theorem and127 (m : Nat) (h : m < 18446744073709551616) : bits .and .u64 (m : Int) 127 = (m : Int) % 128 :=
  bits_mask .u64 64 (by decide) (fun n _ _ => by rw [IntKind.wrap_u64]; omega) 7 (by decide) m (by omega) (by omega)

theorem arr_ty : Try.prog.underlying 125 = some (.array (Try.prog.arrayLen 125) (Try.prog.elem 125)) := by kernel_rfl
theorem arr_len : Try.prog.arrayLen 125 = 10 := by kernel_rfl
theorem arr_sz (w : World) : (sizeOf (Try.prog.elem 125)).run Try.prog w = .ok 1 w := by kernel_rfl
theorem arr_slice (W : World) (b : Nat) (n : Nat) (h : n ≤ 10) :
    (Instr.sliceAt 125 (.pointer (some ⟨b, 0, none⟩)) none (some (.int .i64 (n : Int))) none).run Try.prog W = .ok (.slice (some ⟨b, 0, none⟩) n 10) W := by
  rw [run_sliceAt_array_h W 125 _ arr_ty .i64 (n : Int) (by omega) (by rw [arr_len]; omega), arr_sz, arr_len]
  simp [slicedAt, Result.andThen, Addr.add]

theorem set_snoc {cur : Array Value} {k : Nat} {l : List Value} (v : Value) (hk : k < cur.size) (h : cur.toList.take k = l) :
    (cur.setIfInBounds k v).toList.take (k + 1) = l ++ [v] := by
  rw [Array.toList_setIfInBounds, List.take_succ_eq_append_getElem (by simpa using hk), List.take_set_of_le (Nat.le_refl k), h]
  simp
theorem conv_arr (w : World) (cur : Array Value) (l : List UInt8) (c : Nat) (hl : cur.toList.take l.length = Lib.byteCells l) :
    (convert 39 9 (.slice (some ⟨w.heap.size, 0, none⟩) l.length c)).run Try.prog (w.alloc (.cells cur 125)) = .ok (.string ⟨l.toArray⟩) (w.alloc (.cells cur 125)) := by
  refine run_convert_bytes_back _ 39 9 5 _ c l Try.underlying39 Try.underlying5 Try.underlying9 ?_
  intro j hj
  have h1 : (Lib.byteCells l)[j]? = some (.int .u8 (l[j].toNat : Int)) := by simp [Lib.byteCells, hj]
  have h2 : cur[j]? = some (.int .u8 (l[j].toNat : Int)) := by
    rw [← hl, List.getElem?_take, if_pos hj] at h1
    simpa using h1
  have ea : (⟨w.heap.size, 0, none⟩ : Addr).add j = ⟨w.heap.size, j, none⟩ := by
    unfold Addr.add
    by_cases h0 : j = 0
    · subst h0; simp
    · simp [h0]
  rw [ea, World.cell?_alloc_mark, h2]

set_option maxRecDepth 100000 in
set_option maxHeartbeats 1000000 in
theorem cput_any (n0 : Nat) (w : World) (hn : n0 < 18446744073709551616) :
    Calls Try.prog 86 #[.int .u64 (n0 : Int)] w fun e w' => e = .returned (.string ⟨(put n0).toArray⟩) ∧ Below w.heap.size w w' := by
  go_enter Try.func86, Try.ntmps86
  go_wp2_with fail
  go_loopw [0, 4] (fun n l wr => ∃ (m : Nat) (acc : List UInt8) (cur : Array Value), n = .int .u64 (m : Int) ∧ l = .int .i64 (acc.length : Int) ∧ m ≤ n0 ∧ put n0 = acc ++ put m ∧
      wr = w.alloc (.cells cur 125) ∧ cur.size = 10 ∧ cur.toList.take acc.length = Lib.byteCells acc)
    (fun n _ _ => (intOf n).toNat)
  case atStart => exact ⟨n0, [], _, rfl, rfl, Nat.le_refl _, rfl, rfl, rfl, rfl⟩
  case round =>
    obtain ⟨m, acc, cur, rfl, rfl, hm, hp, rfl, hcs, hct⟩ := hrel
    have hr := put_room hp hn
    have ha := and127 m (by omega)
    have ho := or128 (m % 128) (by omega)
    have ho' : bits .or .u8 ((m : Int) % 128) 128 = (m : Int) % 128 + 128 := by simpa using ho
    clear ho
    have HP : Hid (put n0 = acc ++ put m) := hp
    clear hp
    obtain ⟨x, hx⟩ : ∃ x, cur[acc.length]? = some x := ⟨_, Array.getElem?_eq_getElem (by omega)⟩
    by_cases hlt : 128 ≤ m
    · have hl := hr.2 hlt
      clear hr
      have H1 : Hid _ := set_snoc (.int .u8 ((m : Int) % 128 + 128)) (by omega) hct
      go_wp2_with fail
      go_roundw
      case rel => exact ⟨m / 128, acc ++ [UInt8.ofNat (m % 128 + 128)], _, by go_num, by simp, by omega, put_step HP.out hlt, rfl, by simpa using hcs, by rw [List.length_append]; exact H1.out.trans snoc_high⟩
      case measure => simp [intOf]; omega
    · have hl := hr.1
      clear hr
      have H1 := set_snoc (.int .u8 (m : Int)) (by omega) hct
      rw [snoc_low (by omega)] at H1
      have hcv := conv_arr w (cur.setIfInBounds acc.length (.int .u8 (m : Int))) (acc ++ [UInt8.ofNat m]) 10 (by rw [List.length_append]; exact H1)
      rw [← put_last HP.out (by omega)] at hcv
      have hpl : (put n0).length = acc.length + 1 := by rw [put_last HP.out (by omega)]; simp
      rw [hpl] at hcv
      have hsl := fun W b => arr_slice W b (acc.length + 1) (by omega)
      have e1 : ((acc.length + 1 : Nat) : Int) = (acc.length : Int) + 1 := by omega
      rw [e1] at hsl
      clear hpl H1 HP ho' ha hct
      go_wp2_with fail
      go_ret
      exact ⟨rfl, (Below.refl _ _).alloc (Nat.le_refl _) _⟩
end Go.Proofs.Ytpeddaljgmkomaa

/-!   What PutText answers, the code's and the specification's. -/
namespace Go.Proofs.Ytpeddaljgmkomaa
open Go.RowKit

def putTextOut (s : ByteArray) : ByteArray := ⟨(put s.size).toArray⟩ ++ s
set_option maxRecDepth 100000 in
set_option maxHeartbeats 1000000 in
theorem sputText_any (s : ByteArray) (w : World) (hs : s.size ≤ 70368744177664) :
    Calls Try.prog 74 #[.string s] w fun e w' => e = .returned (.string (putTextOut s)) ∧ Below w.heap.size w w' := by
  have hpt := put_ten (n := s.size) (by omega)
  go_enter Try.func74, Try.ntmps74
  go_wp2_with fail
  refine (sput_any s.size _ (by omega)).mono ?_
  rintro e w1 ⟨rfl, hb1⟩
  go_wp2_with fail
  go_ret
  exact ⟨rfl, hb1⟩
set_option maxRecDepth 100000 in
set_option maxHeartbeats 1000000 in
theorem cputText_any (s : ByteArray) (w : World) (hs : s.size ≤ 70368744177664) :
    Calls Try.prog 87 #[.string s] w fun e w' => e = .returned (.string (putTextOut s)) ∧ Below w.heap.size w w' := by
  have hpt := put_ten (n := s.size) (by omega)
  go_enter Try.func87, Try.ntmps87
  go_wp2_with fail
  refine (cput_any s.size _ (by omega)).mono ?_
  rintro e w1 ⟨rfl, hb1⟩
  go_wp2_with fail
  go_ret
  exact ⟨rfl, hb1⟩
end Go.Proofs.Ytpeddaljgmkomaa
