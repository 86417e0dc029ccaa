/-
  Several texts of this seat as one: Num, Put, Putc.
-/
import Derived.WalkKit
import Derived.Lib.Strings
import Derived.Test.YtbkjcngehhdchaaPk01
import Derived.WalkSpells
import Derived.Laws.IdiomStrings
import Derived.Laws.BytesArg

/-!   The numbers in groups of seven bits, as plain mathematics: no program is named here. -/
namespace Go.Proofs.Ytbkjcngehhdchaa
open Go.RowKit

def intOf : Value → Int | .int _ q => q | _ => 0

/-- one group more -/
def grp (X : Int) (k : Nat) (c : UInt8) : Int := bits .or .u64 X (IntKind.u64.wrap (((c.toNat : Int) % 128) * 2 ^ (7 * k)))

/-- what a text that is read from the place k on says, behind X -/
def rd (X : Int) (k : Nat) : List UInt8 → Option (Int × Nat)
  | [] => none
  | c :: cs => if 10 ≤ k then none else if k = 9 ∧ 1 < c.toNat then none else
    if c.toNat < 128 then (if 0 < k ∧ c.toNat = 0 then none else some (grp X k c, k + 1)) else rd (grp X k c) (k + 1) cs

theorem drop_step (s : ByteArray) (k : Nat) (h : k < s.size) : s.data.toList.drop k = s[k] :: s.data.toList.drop (k + 1) := by
  rw [List.drop_eq_getElem_cons (by simpa using h)]; rfl
theorem drop_end (s : ByteArray) (k : Nat) (h : s.size ≤ k) : s.data.toList.drop k = [] := by
  apply List.drop_eq_nil_of_le
  rw [← Lib.size_eq]; exact h
theorem mask127 {c : Int} (h₀ : 0 ≤ c) (h₁ : c ≤ 255) : bits .and .u8 c 127 = c % 128 := bits_mask .u8 8 (by decide) wraps_u8 7 (by decide) c h₀ (by omega)

theorem grp_nine (X : Int) (c : UInt8) (h : c.toNat ≤ 1) : grp X 9 c = bits .or .u64 X ((c.toNat : Int) % 128 * 9223372036854775808) := by
  unfold grp
  rw [IntWalk.u64_in]
  · rfl
  · constructor <;> omega
theorem grp_zero (X : Int) (k : Nat) (c : UInt8) (h : c.toNat = 0) : grp X k c = bits .or .u64 X (IntKind.u64.wrap 0) := by
  unfold grp; rw [h]; simp
/-- the number and the bytes that it takes up -/
def num (s : ByteArray) : Option (Int × Nat) := rd 0 0 s.data.toList

theorem num_none {s : ByteArray} {X : Int} {k : Nat} (h : num s = rd X k (s.data.toList.drop k)) (hk : k < s.size)
    (hn : 10 ≤ k ∨ (k = 9 ∧ 1 < s[k].toNat) ∨ (s[k].toNat < 128 ∧ 0 < k ∧ s[k].toNat = 0)) : num s = none := by
  rw [h, drop_step s k hk, rd]
  rcases hn with hn | hn | ⟨h1, h2⟩
  · rw [if_pos hn]
  · rw [if_pos hn]; split <;> rfl
  · rw [if_pos h1, if_pos h2]; split <;> (try split) <;> rfl
theorem num_some {s : ByteArray} {X : Int} {k : Nat} (h : num s = rd X k (s.data.toList.drop k)) (hk : k < s.size)
    (h10 : k < 10) (h9 : ¬ (k = 9 ∧ 1 < s[k].toNat)) (h1 : s[k].toNat < 128) (h0 : ¬ (0 < k ∧ s[k].toNat = 0)) : num s = some (grp X k s[k], k + 1) := by
  rw [h, drop_step s k hk, rd, if_neg (by omega), if_neg h9, if_pos h1, if_neg h0]
theorem num_end {s : ByteArray} {X : Int} {k : Nat} (h : num s = rd X k (s.data.toList.drop k)) (hk : s.size ≤ k) : num s = none := by
  rw [h, drop_end s k hk, rd]
theorem num_go {s : ByteArray} {X : Int} {k : Nat} (h : num s = rd X k (s.data.toList.drop k)) (hk : k < s.size)
    (h10 : k < 10) (h9 : ¬ (k = 9 ∧ 1 < s[k].toNat)) (h1 : ¬ s[k].toNat < 128) : num s = rd (grp X k s[k]) (k + 1) (s.data.toList.drop (k + 1)) := by
  rw [h, drop_step s k hk, rd, if_neg (by omega), if_neg h9, if_neg h1]
theorem num_ten {s : ByteArray} {X : Int} {k : Nat} (h : num s = rd X k (s.data.toList.drop k)) (hk : 10 ≤ k) : num s = none := by
  by_cases hl : k < s.size
  · exact num_none h hl (Or.inl hk)
  · exact num_end h (by omega)

theorem rd_bd : ∀ (l : List UInt8) (X : Int) (k : Nat) (Y : Int) (u : Nat), rd X k l = some (Y, u) → k + 1 ≤ u ∧ u ≤ k + l.length ∧ u ≤ 10
  | [], X, k, Y, u, h => by simp [rd] at h
  | c :: cs, X, k, Y, u, h => by
    rw [rd] at h
    by_cases h10 : 10 ≤ k
    · rw [if_pos h10] at h; cases h
    rw [if_neg h10] at h
    by_cases h9 : k = 9 ∧ 1 < c.toNat
    · rw [if_pos h9] at h; cases h
    rw [if_neg h9] at h
    by_cases h1 : c.toNat < 128
    · rw [if_pos h1] at h
      by_cases h0 : 0 < k ∧ c.toNat = 0
      · rw [if_pos h0] at h; cases h
      · rw [if_neg h0] at h
        simp only [Option.some.injEq, Prod.mk.injEq] at h
        simp only [List.length_cons]
        omega
    · rw [if_neg h1] at h
      have := rd_bd cs _ _ _ _ h
      simp only [List.length_cons]
      have : u ≤ 10 := this.2.2
      omega
theorem num_bd {s : ByteArray} {X : Int} {u : Nat} (h : num s = some (X, u)) : 1 ≤ u ∧ u ≤ s.size ∧ u ≤ 10 := by
  have := rd_bd _ _ _ _ _ h
  rw [← Lib.size_eq] at this
  omega

/-- what TakeNum tells -/
def takeOut (s : ByteArray) : Value := match num s with
  | none => .tuple #[.int .u64 0, .string ⟨#[]⟩, .bool false]
  | some (X, u) => .tuple #[.int .u64 X, .string (s.extract u s.size), .bool true]
theorem takeOut_none {s : ByteArray} (h : num s = none) : takeOut s = .tuple #[.int .u64 0, .string ⟨#[]⟩, .bool false] := by unfold takeOut; rw [h]
theorem takeOut_some {s : ByteArray} {X : Int} {u : Nat} (h : num s = some (X, u)) : takeOut s = .tuple #[.int .u64 X, .string (s.extract u s.size), .bool true] := by unfold takeOut; rw [h]

/-- a number's bytes -/
def put (n : Nat) : List UInt8 := if h : n < 128 then [UInt8.ofNat n] else UInt8.ofNat (n % 128 + 128) :: put (n / 128)
  termination_by n
  decreasing_by omega
theorem put_low {n : Nat} (h : n < 128) : put n = [UInt8.ofNat n] := by rw [put, dif_pos h]
theorem put_high {n : Nat} (h : 128 ≤ n) : put n = UInt8.ofNat (n % 128 + 128) :: put (n / 128) := by rw [put, dif_neg (by omega)]
theorem put_pos (n : Nat) : 1 ≤ (put n).length := by
  by_cases h : n < 128
  · rw [put_low h]; simp
  · rw [put_high (by omega)]; simp
theorem put_pos2 {n : Nat} (h : 128 ≤ n) : 2 ≤ (put n).length := by
  rw [put_high h]; have := put_pos (n / 128); simp only [List.length_cons]; omega
theorem put_len : ∀ (k n : Nat), n < 128 ^ (k + 1) → (put n).length ≤ k + 1
  | 0, n, h => by rw [put_low (by simpa using h)]; simp
  | k + 1, n, h => by
    by_cases hl : n < 128
    · rw [put_low hl]; simp
    · rw [put_high (by omega)]
      have := put_len k (n / 128) (by
        apply Nat.div_lt_of_lt_mul
        rw [Nat.pow_succ] at h
        rw [Nat.mul_comm]; exact h)
      simp only [List.length_cons]; omega
theorem put_ten {n : Nat} (h : n < 18446744073709551616) : (put n).length ≤ 10 := put_len 9 n (by omega)
theorem put_step {n0 m : Nat} {acc : List UInt8} (h : put n0 = acc ++ put m) (hm : 128 ≤ m) : put n0 = (acc ++ [UInt8.ofNat (m % 128 + 128)]) ++ put (m / 128) := by
  rw [h, put_high hm]; simp
theorem put_last {n0 m : Nat} {acc : List UInt8} (h : put n0 = acc ++ put m) (hm : m < 128) : put n0 = acc ++ [UInt8.ofNat m] := by
  rw [h, put_low hm]
theorem put_room {n0 m : Nat} {acc : List UInt8} (h : put n0 = acc ++ put m) (hn : n0 < 18446744073709551616) : acc.length ≤ 9 ∧ (128 ≤ m → acc.length ≤ 8) := by
  have h1 := put_ten hn
  rw [h, List.length_append] at h1
  have h2 := put_pos m
  exact ⟨by omega, fun hm => by have := put_pos2 hm; omega⟩
end Go.Proofs.Ytbkjcngehhdchaa

/-!   What PutNum answers, the specification's. -/
namespace Go.Proofs.Ytbkjcngehhdchaa
open Go.RowKit

theorem conv_own {w : World} {base : Nat} {v : Value} {l : List UInt8} (h : w.ownsRow base 5 1 v l.length (Lib.byteCells l)) :
    (convert 36 9 v).run Try.prog w = .ok (.string ⟨l.toArray⟩) w := by
  obtain ⟨_, ⟨rfl, h0⟩ | ⟨g, cap, cur, rfl, hb, hg, hn, hc, hs, ht⟩⟩ := h
  · have : l = [] := List.eq_nil_of_length_eq_zero h0
    subst this
    rw [run_convert_bytes_nil w 36 5 Try.underlying36 Try.underlying5 0 0 9 Try.underlying9]
    rfl
  · refine run_convert_bytes_back w 36 9 5 _ cap l Try.underlying36 Try.underlying5 Try.underlying9 ?_
    intro j hj
    have h1 : (Lib.byteCells l)[j]? = some (.int .u8 (l[j].toNat : Int)) := by
      simp [Lib.byteCells, hj]
    have h2 : cur[j]? = some (.int .u8 (l[j].toNat : Int)) := by
      rw [← ht] at h1
      rw [List.getElem?_take] at h1
      split at h1
      · simpa using h1
      · cases h1
    have ea : (⟨g, 0, none⟩ : Addr).add j = ⟨g, j, none⟩ := by
      unfold Addr.add
      by_cases h0 : j = 0
      · subst h0; simp
      · simp [h0]
    rw [ea]
    simp [World.cell?, hg, h2]
theorem snoc_high {acc : List UInt8} {m : Nat} : Lib.byteCells acc ++ [Value.int .u8 ((m : Int) % 128 + 128)] = Lib.byteCells (acc ++ [UInt8.ofNat (m % 128 + 128)]) := by
  rw [Lib.byteCells_append]
  have : (((UInt8.ofNat (m % 128 + 128)).toNat : Nat) : Int) = (m : Int) % 128 + 128 := by
    rw [UInt8.toNat_ofNat']; omega
  simp only [Lib.byteCells, List.map_cons, List.map_nil, this]
theorem snoc_low {acc : List UInt8} {m : Nat} (h : m < 128) : Lib.byteCells acc ++ [Value.int .u8 (m : Int)] = Lib.byteCells (acc ++ [UInt8.ofNat m]) := by
  rw [Lib.byteCells_append]
  have : (((UInt8.ofNat m).toNat : Nat) : Int) = (m : Int) := by
    rw [UInt8.toNat_ofNat']; omega
  simp only [Lib.byteCells, List.map_cons, List.map_nil, this]

set_option maxRecDepth 100000 in
set_option maxHeartbeats 1000000 in
theorem sput_any (n0 : Nat) (w : World) (hn : n0 < 18446744073709551616) :
    Calls Try.prog 51 #[.int .u64 (n0 : Int)] w fun e w' => e = .returned (.string ⟨(put n0).toArray⟩) ∧ Below w.heap.size w w' := by
  obtain ⟨i0, hi, hz0, hz1, hz2⟩ := info_parts Try.inf5
  go_enter Try.func51, Try.ntmps51
  go_wp2_with fail
  go_loopw [0, 3] (fun n v wr => ∃ (m : Nat) (acc : List UInt8), n = .int .u64 (m : Int) ∧ m ≤ n0 ∧ put n0 = acc ++ put m ∧ wr.ownsRow w.heap.size 5 1 v acc.length (Lib.byteCells acc) ∧ Below w.heap.size w wr)
    (fun n _ _ => (intOf n).toNat)
  case atStart => exact ⟨n0, [], rfl, Nat.le_refl _, rfl, World.ownsRow_made w #[] 0 (Nat.le_refl _) (by unfold maxLen; omega) rfl, (Below.refl _ _).alloc (Nat.le_refl _) _⟩
  case round =>
    obtain ⟨m, acc, rfl, hm, hp, hown, hb⟩ := hrel
    have hr := put_room hp hn
    have hsz := hb.size
    have HP : Hid (put n0 = acc ++ put m) := hp
    clear hp
    by_cases hlt : 128 ≤ m
    · have hl := hr.2 hlt
      clear hr
      go_wp2_with (at_builtin; go_loud (refine wpList_append_own _ rfl _ _ 36 rfl w.heap.size 5 i0 (.int .u8 0) 1 1 Try.underlying36 hi hz0 hz1 hz2 rfl (by decide) _ _ _ rfl (hown.alloc _) ⟨wr.heap.size, 0, none⟩ 1 1 [_] rfl rfl (cell_one_new _ _ _) ?c2 ?c3 ?c4 ?c5 ?_))
      case c2 => intro u hu; simp at hu; subst hu; rfl
      case c3 => unfold maxLen; omega
      case c4 => omega
      case c5 => simp; omega
      intro v' w1 hown' hgrow _
      rw [snoc_high] at hown'
      have hb2 : Below w.heap.size w w1 := (hb.alloc (by omega) _).grown hgrow (by simp; omega) (fun k hk => (hown.lt k hk).1)
      have H1 : Hid (w1.ownsRow w.heap.size 5 1 v' _ _ ∧ Below w.heap.size w w1) := ⟨hown', hb2⟩
      clear hown' hb2 hgrow hown hb
      go_wp2_with fail
      go_roundw
      case rel => exact ⟨m / 128, _, by go_num, by omega, put_step HP.out hlt, by simpa using H1.out.1, H1.out.2⟩
      case measure => simp [intOf]; omega
    · have hl := hr.1
      clear hr
      go_wp2_with (at_builtin; go_loud (refine wpList_append_own _ rfl _ _ 36 rfl w.heap.size 5 i0 (.int .u8 0) 1 1 Try.underlying36 hi hz0 hz1 hz2 rfl (by decide) _ _ _ rfl (hown.alloc _) ⟨wr.heap.size, 0, none⟩ 1 1 [_] rfl rfl (cell_one_new _ _ _) ?d2 ?d3 ?d4 ?d5 ?_))
      case d2 => intro u hu; simp at hu; subst hu; rfl
      case d3 => unfold maxLen; omega
      case d4 => omega
      case d5 => simp; omega
      intro v' w1 hown' hgrow _
      rw [snoc_low (by omega)] at hown'
      have hb2 : Below w.heap.size w w1 := (hb.alloc (by omega) _).grown hgrow (by simp; omega) (fun k hk => (hown.lt k hk).1)
      have hcv := conv_own (w := w1) (v := v') (l := acc ++ [UInt8.ofNat m]) (by simpa using hown')
      rw [← put_last HP.out (by omega)] at hcv
      have H1 : Hid (Below w.heap.size w w1) := hb2
      clear hown' hb2 hgrow hown hb
      go_wp2_with fail
      go_ret
      exact ⟨rfl, H1.out⟩
end Go.Proofs.Ytbkjcngehhdchaa

/-!   What the code's PutNum answers. -/
namespace Go.Proofs.Ytbkjcngehhdchaa
open Go.RowKit

theorem or128 (c : Nat) (h : c < 128) : bits .or .u8 (c : Int) 128 = (c : Int) + 128 := by
  have : ∀ c : Fin 128, bits .or .u8 ((c.val : Nat) : Int) 128 = ((c.val : Nat) : Int) + 128 := by decide +kernel
  exact this ⟨c, h⟩
theorem and127 (m : Nat) (h : m < 18446744073709551616) : bits .and .u64 (m : Int) 127 = (m : Int) % 128 :=
  bits_mask .u64 64 (by decide) (fun n _ _ => by rw [IntKind.wrap_u64]; omega) 7 (by decide) m (by omega) (by omega)

theorem arr_ty : Try.prog.underlying 83 = some (.array (Try.prog.arrayLen 83) (Try.prog.elem 83)) := by kernel_rfl
theorem arr_len : Try.prog.arrayLen 83 = 10 := by kernel_rfl
theorem arr_sz (w : World) : (sizeOf (Try.prog.elem 83)).run Try.prog w = .ok 1 w := by kernel_rfl
theorem arr_slice (W : World) (b : Nat) (n : Nat) (h : n ≤ 10) :
    (Instr.sliceAt 83 (.pointer (some ⟨b, 0, none⟩)) none (some (.int .i64 (n : Int))) none).run Try.prog W = .ok (.slice (some ⟨b, 0, none⟩) n 10) W := by
  rw [run_sliceAt_array_h W 83 _ arr_ty .i64 (n : Int) (by omega) (by rw [arr_len]; omega), arr_sz, arr_len]
  simp [slicedAt, Result.andThen, Addr.add]

theorem set_snoc {cur : Array Value} {k : Nat} {l : List Value} (v : Value) (hk : k < cur.size) (h : cur.toList.take k = l) :
    (cur.setIfInBounds k v).toList.take (k + 1) = l ++ [v] := by
  rw [Array.toList_setIfInBounds, List.take_succ_eq_append_getElem (by simpa using hk), List.take_set_of_le (Nat.le_refl k), h]
  simp
theorem conv_arr (w : World) (cur : Array Value) (l : List UInt8) (c : Nat) (hl : cur.toList.take l.length = Lib.byteCells l) :
    (convert 36 9 (.slice (some ⟨w.heap.size, 0, none⟩) l.length c)).run Try.prog (w.alloc (.cells cur 83)) = .ok (.string ⟨l.toArray⟩) (w.alloc (.cells cur 83)) := by
  refine run_convert_bytes_back _ 36 9 5 _ c l Try.underlying36 Try.underlying5 Try.underlying9 ?_
  intro j hj
  have h1 : (Lib.byteCells l)[j]? = some (.int .u8 (l[j].toNat : Int)) := by simp [Lib.byteCells, hj]
  have h2 : cur[j]? = some (.int .u8 (l[j].toNat : Int)) := by
    rw [← hl, List.getElem?_take, if_pos hj] at h1
    simpa using h1
  have ea : (⟨w.heap.size, 0, none⟩ : Addr).add j = ⟨w.heap.size, j, none⟩ := by
    unfold Addr.add
    by_cases h0 : j = 0
    · subst h0; simp
    · simp [h0]
  rw [ea, World.cell?_alloc_mark, h2]

set_option maxRecDepth 100000 in
set_option maxHeartbeats 1000000 in
theorem cput_any (n0 : Nat) (w : World) (hn : n0 < 18446744073709551616) :
    Calls Try.prog 33 #[.int .u64 (n0 : Int)] w fun e w' => e = .returned (.string ⟨(put n0).toArray⟩) ∧ Below w.heap.size w w' := by
  go_enter Try.func33, Try.ntmps33
  go_wp2_with fail
  go_loopw [0, 4] (fun n l wr => ∃ (m : Nat) (acc : List UInt8) (cur : Array Value), n = .int .u64 (m : Int) ∧ l = .int .i64 (acc.length : Int) ∧ m ≤ n0 ∧ put n0 = acc ++ put m ∧
      wr = w.alloc (.cells cur 83) ∧ cur.size = 10 ∧ cur.toList.take acc.length = Lib.byteCells acc)
    (fun n _ _ => (intOf n).toNat)
  case atStart => exact ⟨n0, [], _, rfl, rfl, Nat.le_refl _, rfl, rfl, rfl, rfl⟩
  case round =>
    obtain ⟨m, acc, cur, rfl, rfl, hm, hp, rfl, hcs, hct⟩ := hrel
    have hr := put_room hp hn
    have ha := and127 m (by omega)
    have ho := or128 (m % 128) (by omega)
    have ho' : bits .or .u8 ((m : Int) % 128) 128 = (m : Int) % 128 + 128 := by simpa using ho
    clear ho
    have HP : Hid (put n0 = acc ++ put m) := hp
    clear hp
    obtain ⟨x, hx⟩ : ∃ x, cur[acc.length]? = some x := ⟨_, Array.getElem?_eq_getElem (by omega)⟩
    by_cases hlt : 128 ≤ m
    · have hl := hr.2 hlt
      clear hr
      have H1 : Hid _ := set_snoc (.int .u8 ((m : Int) % 128 + 128)) (by omega) hct
      go_wp2_with fail
      go_roundw
      case rel => exact ⟨m / 128, acc ++ [UInt8.ofNat (m % 128 + 128)], _, by go_num, by simp, by omega, put_step HP.out hlt, rfl, by simpa using hcs, by rw [List.length_append]; exact H1.out.trans snoc_high⟩
      case measure => simp [intOf]; omega
    · have hl := hr.1
      clear hr
      have H1 := set_snoc (.int .u8 (m : Int)) (by omega) hct
      rw [snoc_low (by omega)] at H1
      have hcv := conv_arr w (cur.setIfInBounds acc.length (.int .u8 (m : Int))) (acc ++ [UInt8.ofNat m]) 10 (by rw [List.length_append]; exact H1)
      rw [← put_last HP.out (by omega)] at hcv
      have hpl : (put n0).length = acc.length + 1 := by rw [put_last HP.out (by omega)]; simp
      rw [hpl] at hcv
      have hsl := fun W b => arr_slice W b (acc.length + 1) (by omega)
      have e1 : ((acc.length + 1 : Nat) : Int) = (acc.length : Int) + 1 := by omega
      rw [e1] at hsl
      clear hpl H1 HP ho' ha hct
      go_wp2_with fail
      go_ret
      exact ⟨rfl, (Below.refl _ _).alloc (Nat.le_refl _) _⟩
end Go.Proofs.Ytbkjcngehhdchaa
