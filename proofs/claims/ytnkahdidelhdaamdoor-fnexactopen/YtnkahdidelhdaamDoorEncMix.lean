/-
  A column mixed: the code's; and its rows moved.
-/
import Derived.Test.YtnkahdidelhdaamDoorEncMath
import Derived.Test.YtnkahdidelhdaamDoorCipWith
namespace Go.Proofs.YtnkahdidelhdaamDoor
open Go.RowKit

set_option maxRecDepth 100000 in
theorem dblw_any (a b c d : Nat) (w : World) (ha : a < 256) (hb : b < 256) (hc : c < 256) (hd : d < 256) :
    Calls Tryd.prog 65 #[.int .u32 (pk a b c d : Nat)] w fun e w' => e = .returned (.int .u32 (pk (xt a) (xt b) (xt c) (xt d) : Nat)) ∧ w' = w := by
  obtain ⟨h1, h2, h3⟩ := dbl_pk ha hb hc hd
  have hx := pk_lt ha hb hc hd
  have hm : pk (a % 128) (b % 128) (c % 128) (d % 128) * 2 < 4294967296 := by unfold pk; omega
  have hq : pk (a / 128) (b / 128) (c / 128) (d / 128) * 27 < 4294967296 := by unfold pk; omega
  have k1 : bits .and .u32 ((pk a b c d : Nat) / 128 : Int) 16843009 = ((pk (a / 128) (b / 128) (c / 128) (d / 128) : Nat) : Int) := by
    rw [← h1, show ((pk a b c d : Nat) : Int) / 128 = ((pk a b c d / 128 : Nat) : Int) by omega]
    exact u32_and_nat _ 16843009 (by omega) (by omega)
  have k2 : bits .and .u32 ((pk a b c d : Nat) : Int) 2139062143 = ((pk (a % 128) (b % 128) (c % 128) (d % 128) : Nat) : Int) := by
    rw [← h2]
    exact u32_and_nat _ 2139062143 (by omega) (by omega)
  have k3 : bits .xor .u32 (((pk (a % 128) (b % 128) (c % 128) (d % 128) : Nat) : Int) * 2) (((pk (a / 128) (b / 128) (c / 128) (d / 128) : Nat) : Int) * 27) = ((pk (xt a) (xt b) (xt c) (xt d) : Nat) : Int) := by
    rw [← h3, show ((pk (a % 128) (b % 128) (c % 128) (d % 128) : Nat) : Int) * 2 = ((pk (a % 128) (b % 128) (c % 128) (d % 128) * 2 : Nat) : Int) by omega,
      show ((pk (a / 128) (b / 128) (c / 128) (d / 128) : Nat) : Int) * 27 = ((pk (a / 128) (b / 128) (c / 128) (d / 128) * 27 : Nat) : Int) by omega]
    exact u32_xor_nat _ _ (by omega) (by omega)
  generalize pk (a % 128) (b % 128) (c % 128) (d % 128) = m at k2 k3 hm
  generalize pk (a / 128) (b / 128) (c / 128) (d / 128) = q at k1 k3 hq
  generalize pk (xt a) (xt b) (xt c) (xt d) = r at k3
  generalize pk a b c d = x at k1 k2 hx
  clear h1 h2 h3
  go_enter Tryd.func65, Tryd.ntmps65
  go_wp2_with fail
  go_ret
  exact ⟨rfl, rfl⟩
set_option maxRecDepth 100000 in
set_option maxHeartbeats 1000000 in
theorem mixed_any (a b c d : Nat) (w : World) (ha : a < 256) (hb : b < 256) (hc : c < 256) (hd : d < 256) :
    Calls Tryd.prog 57 #[.int .u32 (pk a b c d : Nat)] w fun e w' => e = .returned (.int .u32 (mixW a b c d : Nat)) ∧ w' = w := by
  have hx := pk_lt ha hb hc hd
  have hn := pk_lt hb hc hd ha
  have h16 := pk_lt hc hd ha hb
  have h24 := pk_lt hd ha hb hc
  have a1 := xor_byte ha hb
  have a2 := xor_byte hb hc
  have a3 := xor_byte hc hd
  have a4 := xor_byte hd ha
  have hD := pk_lt (xt_lt a1) (xt_lt a2) (xt_lt a3) (xt_lt a4)
  have H8 : Hid (∀ w, Calls Tryd.prog 47 #[.int .u32 (pk a b c d : Nat), .int .i64 8] w fun e w' => e = .returned (.int .u32 (pk b c d a : Nat)) ∧ w' = w) := fun w => by
    have := rl8_any _ w hx; rwa [rl8_pk ha hb hc hd] at this
  have H16 : Hid (∀ w, Calls Tryd.prog 47 #[.int .u32 (pk a b c d : Nat), .int .i64 16] w fun e w' => e = .returned (.int .u32 (pk c d a b : Nat)) ∧ w' = w) := fun w => by
    have := rl16_any _ w hx; rwa [rl16_pk ha hb hc hd] at this
  have H24 : Hid (∀ w, Calls Tryd.prog 47 #[.int .u32 (pk a b c d : Nat), .int .i64 24] w fun e w' => e = .returned (.int .u32 (pk d a b c : Nat)) ∧ w' = w) := fun w => by
    have := rl24_any _ w hx; rwa [rl24_pk ha hb hc hd] at this
  have k1 : bits .xor .u32 ((pk a b c d : Nat) : Int) ((pk b c d a : Nat) : Int) = ((pk (a ^^^ b) (b ^^^ c) (c ^^^ d) (d ^^^ a) : Nat) : Int) := by
    rw [u32_xor_nat _ _ hx hn, pk_xor hb hc hd hc hd ha]
  have HDB : Hid (∀ w, Calls Tryd.prog 65 #[.int .u32 (pk (a ^^^ b) (b ^^^ c) (c ^^^ d) (d ^^^ a) : Nat)] w fun e w' => e = .returned (.int .u32 (pk (xt (a ^^^ b)) (xt (b ^^^ c)) (xt (c ^^^ d)) (xt (d ^^^ a)) : Nat)) ∧ w' = w) := fun w => dblw_any _ _ _ _ w a1 a2 a3 a4
  have HM := mix_pk ha hb hc hd
  have g1 := xor32 hD hn
  have g2 := xor32 g1 h16
  have k2 : bits .xor .u32 (bits .xor .u32 (bits .xor .u32 ((pk (xt (a ^^^ b)) (xt (b ^^^ c)) (xt (c ^^^ d)) (xt (d ^^^ a)) : Nat) : Int) ((pk b c d a : Nat) : Int)) ((pk c d a b : Nat) : Int)) ((pk d a b c : Nat) : Int) = ((mixW a b c d : Nat) : Int) := by
    rw [u32_xor_nat _ _ hD hn, u32_xor_nat _ _ g1 h16, u32_xor_nat _ _ g2 h24, HM]
  have HK2 : Hid _ := k2
  clear HM g1 g2 k2 a1 a2 a3 a4 hD
  generalize pk (xt (a ^^^ b)) (xt (b ^^^ c)) (xt (c ^^^ d)) (xt (d ^^^ a)) = D at HK2 HDB
  generalize pk (a ^^^ b) (b ^^^ c) (c ^^^ d) (d ^^^ a) = X at k1 HDB
  generalize mixW a b c d = R at HK2
  generalize pk a b c d = x at hx k1 H8 H16 H24
  generalize pk b c d a = y at hn k1 H8 HK2
  generalize pk c d a b = y2 at h16 H16 HK2
  generalize pk d a b c = y3 at h24 H24 HK2
  go_enter Tryd.func57, Tryd.ntmps57
  go_wp2_with fail
  refine (H8.out _).mono ?_
  rintro e w' ⟨rfl, hw⟩
  subst w'
  go_wp2_with fail
  refine (HDB.out _).mono ?_
  rintro e w' ⟨rfl, hw⟩
  subst w'
  go_wp2_with fail
  refine (H16.out _).mono ?_
  rintro e w' ⟨rfl, hw⟩
  subst w'
  go_wp2_with fail
  refine (H24.out _).mono ?_
  rintro e w' ⟨rfl, hw⟩
  subst w'
  go_wp2_with fail
  go_ret
  exact ⟨by rw [← HK2.out]; rfl, rfl⟩

/-! ### four columns -/
def cols (f : Nat → Nat) : Array Value := #[.int .u32 (f 0 : Nat), .int .u32 (f 1 : Nat), .int .u32 (f 2 : Nat), .int .u32 (f 3 : Nat)]
theorem cols_at (f : Nat → Nat) {j : Nat} (h : j < 4) : (cols f)[j]? = some (.int .u32 (f j : Nat)) := by
  match j, h with
  | 0, _ => rfl
  | 1, _ => rfl
  | 2, _ => rfl
  | 3, _ => rfl
theorem cols_size (f : Nat → Nat) : (cols f).size = 4 := rfl
theorem cols_one (f : Nat → Nat) : (cols f).all (·.oneCell') = true := by
  simp [cols]
  exact ⟨rfl, rfl, rfl, rfl⟩
/-- the first n are new -/
def upTo (f g : Nat → Nat) (n j : Nat) : Nat := if j < n then f j else g j
theorem cols_set (f g : Nat → Nat) {n : Nat} (h : n < 4) : (cols (upTo f g n)).setIfInBounds n (.int .u32 (f n : Nat)) = cols (upTo f g (n + 1)) := by
  match n, h with
  | 0, _ => rfl
  | 1, _ => rfl
  | 2, _ => rfl
  | 3, _ => rfl
theorem cols_start (f g : Nat → Nat) : cols (upTo f g 0) = cols g := rfl
theorem cols_end (f g : Nat → Nat) : cols (upTo f g 4) = cols f := rfl
theorem cols_congr {f g : Nat → Nat} (h : ∀ j, j < 4 → f j = g j) : cols f = cols g := by
  unfold cols
  rw [h 0 (by omega), h 1 (by omega), h 2 (by omega), h 3 (by omega)]
theorem upTo_new (f g : Nat → Nat) (n : Nat) {j : Nat} (h : ¬ j < n) : upTo f g n j = g j := if_neg h
/-- a cipher lies in block b -/
structure KC (b : Nat) (W : Nat → Nat) (wr : World) : Prop where
  lt : b < wr.heap.size
  word : ∀ j, j < 60 → wr.cell? ⟨b, j, none⟩ = some (.int .u32 (W j : Nat))
  box : ∀ j, j < 256 → wr.cell? ⟨b, 60 + j, none⟩ = some (.int .u32 (sbox j : Nat))
theorem KC.below {b : Nat} {W : Nat → Nat} {w w' : World} {B : Nat} (h : KC b W w) (hb : Below B w w') (hB : b < B) : KC b W w' :=
  ⟨Nat.lt_of_lt_of_le h.lt hb.size, fun j hj => (hb.cell (p := ⟨b, j, none⟩) hB).trans (h.word j hj), fun j hj => (hb.cell (p := ⟨b, 60 + j, none⟩) hB).trans (h.box j hj)⟩
theorem CW.kc {w wr : World} {b : Nat} {W : Nat → Nat} (h : CW w b W 60 wr) : KC b W wr := ⟨h.lt, h.word, h.box⟩
/-- a row of columns in block g, written from B on -/
structure AW (w : World) (B g : Nat) (cur : Array Value) (wr : World) : Prop where
  below : Below B w wr
  low : B ≤ g
  row : wr.heap[g]? = some (.cells cur 77 (0, 0))
theorem AW.set {w wr : World} {B g : Nat} {cur : Array Value} (h : AW w B g cur wr) (t : Nat) (v : Value) : AW w B g (cur.setIfInBounds t v) (wr.setCell ⟨g, t, none⟩ v) :=
  ⟨h.below.setCell (p := ⟨g, t, none⟩) h.low v, h.low, heap_setCell_same wr _ t _ _ _ h.row⟩
theorem AW.cell {w wr : World} {B g : Nat} {cur : Array Value} (h : AW w B g cur wr) (t : Nat) : wr.cell? ⟨g, t, none⟩ = cur[t]? := cell_of_row wr _ t _ _ _ h.row
theorem AW.fz {w wr : World} {B g : Nat} {cur : Array Value} (h : AW w B g cur wr) (t : Nat) : wr.frozen? ⟨g, t, none⟩ = false := frozen_of_row wr _ t _ _ h.row
theorem col_info : (Tryd.prog.info? 77).map (·.size) = some 4 := by kernel_rfl
theorem col_ty : Tryd.prog.underlying 77 = some (.array (Tryd.prog.arrayLen 77) (Tryd.prog.elem 77)) := by kernel_rfl
theorem cols_rep : Array.replicate 4 (Value.int .u32 0) = cols fun _ => 0 := rfl
theorem col_zero : ∀ w : World, (zeroValue 77).run Tryd.prog w = .ok (.agg (cols fun _ => 0)) w := by
  rw [← cols_rep]
  exact (zero_of_info (n := 4) (by kernel_rfl)).1
end Go.Proofs.YtnkahdidelhdaamDoor
