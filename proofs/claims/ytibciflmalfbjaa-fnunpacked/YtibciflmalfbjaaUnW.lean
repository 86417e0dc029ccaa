/-
  One token more: the code's.
-/
import Derived.Test.YtibciflmalfbjaaUnMath
import Derived.Test.YtibciflmalfbjaaLonC3
import Derived.Laws.AppendOwn
import Derived.OwnWalk
namespace Go.Proofs.Ytibciflmalfbjaa
open Go.RowKit
set_option linter.unusedVariables false
set_option linter.unusedSimpArgs false

theorem cell_at_new (w : World) (x : Value) (t : TypeId) (g : Nat) (hg : w.heap.size = g) : ∀ j u, [x][j]? = some u → (w.alloc (.cells #[x] t)).cell? ((⟨g, 0, none⟩ : Addr).add j) = some u := by
  subst hg; exact cell_one_new1 w x t
theorem own_apart {w : World} {B n g0 : Nat} {v : Value} {xs : List Value} {cs : Array Value} (h : w.ownsRow B 5 1 v n xs) (hb : w.heap[g0]? = some (.cells cs 95 (0, 0))) : some g0 ≠ v.ownBlock := by
  obtain ⟨hl, ⟨h0, hn⟩ | ⟨g, cap, cur, h1, h2, h3, _⟩⟩ := h
  · subst h0; intro c; cases c
  · subst h1
    intro c
    have c : some g0 = some g := c
    injection c with c
    subst c
    rw [h3] at hb
    injection hb with hb
    injection hb with _ hb _
    exact absurd hb (by decide)
structure UW (o : List Nat) (d j B g0 : Nat) (l : Int) (w wr : World) (v : Value) : Prop where
  own : wr.ownsRow B 5 1 v (o.length + j) (bL (cpI d o j))
  below : Below B w wr
  box : wr.heap[g0]? = some (.cells #[.int .i64 1, .int .i64 0, .int .i64 (d : Int), .int .i64 l] 95 (0, 0))
theorem UW.put {o : List Nat} {d j B g0 : Nat} {l : Int} {w wr w4 : World} {v v' : Value} (h : UW o d j B g0 l w wr v) (hB : B ≤ wr.heap.size) (X : Obj)
    (h1 : w4.ownsRow B 5 1 v' (o.length + j + 1) (bL (cpI d o j) ++ [.int .u8 (((cpI d o j).getD ((cpI d o j).length - d) 0 : Nat) : Int)]))
    (h2 : (wr.alloc X).grownBy w4 v.ownBlock) : UW o d (j + 1) B g0 l w w4 v' := by
  have hl := (Array.getElem?_eq_some_iff.1 h.box).1
  refine ⟨?_, (h.below.alloc hB _).grown h2 (by simp; omega) (fun k hk => (h.own.lt k hk).1), ?_⟩
  · rw [bL_snoc] at h1; exact h1
  · rw [h2.block g0 (by simp; omega) (own_apart h.own h.box), Below.heap_alloc _ _ _ hl]; exact h.box
set_option maxRecDepth 100000 in
set_option maxHeartbeats 2000000 in
theorem withT_byte (o : List Nat) (b B : Nat) (v : Value) (w : World) (hlen : o.length ≤ 4000) (hb : b < 256) (hown : w.ownsRow B 5 1 v o.length (bL o)) (hB : B ≤ w.heap.size) :
    Calls Try.prog 55 #[v, tokV 0 (b : Int) 0 0] w fun e w' => ∃ v', e = .returned v' ∧ w'.ownsRow B 5 1 v' (o.length + 1) (bL (o ++ [b])) ∧ Below B w w' := by
  unfold tokV
  obtain ⟨i0, hi, hz0, hz1, hz2⟩ := info_parts Try.infb8
  have hwb : IntKind.u8.wrap (b : Int) = (b : Int) := by rw [IntKind.wrap_u8]; omega
  go_enter Try.func55, Try.ntmps55
  go_wp2_with (at_builtin; (refine wpList_append_own _ rfl _ _ 25 rfl B 5 i0 _ 1 1 Try.underlying25 hi hz0 hz1 hz2 rfl (by decide) v o.length (bL o) rfl ((hown.alloc _).alloc _) ⟨w.heap.size + 1, 0, none⟩ 1 1 [_] rfl rfl (cell_at_new _ _ _ _ ?c1) ?c2 ?c3 ?c4 ?c5 ?_))
  case c1 => simp
  case c2 => exact byte_one _
  case c3 => unfold maxLen; omega
  case c4 => omega
  case c5 => simp; omega
  intro v' w4 hown' hgrow _
  have hb4 : Below B w w4 := (((Below.refl _ _).alloc hB _).alloc (by simp; omega) _).grown hgrow (by simp; omega) (fun k hk => (hown.lt k hk).1)
  rw [bL_snoc] at hown'
  have H4 : Hid (w4.ownsRow B 5 1 v' (o.length + 1) (bL (o ++ [b])) ∧ Below B w w4) := ⟨hown', hb4⟩
  clear hown' hgrow hown hb4
  go_wp2_with fail
  go_ret
  exact ⟨_, rfl, H4.out⟩
set_option maxRecDepth 100000 in
set_option maxHeartbeats 2000000 in
theorem withT_copy (o : List Nat) (d l B : Nat) (v : Value) (w : World) (hlen : o.length ≤ 4000) (hd1 : 1 ≤ d) (hd : d ≤ o.length) (hl : l ≤ 66) (ho : AllB o) (hown : w.ownsRow B 5 1 v o.length (bL o)) (hB : B ≤ w.heap.size) :
    Calls Try.prog 55 #[v, tokV 1 0 (d : Int) (l : Int)] w fun e w' => ∃ v', e = .returned v' ∧ w'.ownsRow B 5 1 v' (o.length + l) (bL (cpI d o l)) ∧ Below B w w' := by
  unfold tokV
  obtain ⟨i0, hi, hz0, hz1, hz2⟩ := info_parts Try.infb8
  have HU : Hid (UW o d 0 B w.heap.size l w (w.alloc (.cells #[.int .i64 1, .int .i64 0, .int .i64 (d : Int), .int .i64 (l : Int)] 95)) v) :=
    ⟨hown.alloc _, (Below.refl _ _).alloc hB _, heap_alloc_new w _⟩
  go_enter Try.func55, Try.ntmps55
  go_wp2_with fail
  go_loopw [0, 16] (fun v c wr => ∃ (j : Nat), j ≤ l ∧ c = .int .i64 (j : Int) ∧ Hid (UW o d j B w.heap.size l w wr v)) (fun _ c _ => l - (lonIntOf c).toNat)
  case atStart => exact ⟨0, by omega, rfl, HU⟩
  case round =>
    clear HU hown
    obtain ⟨j, hj, rfl, HU⟩ := hrel
    by_cases hlt : j < l
    · have hltI : (j : Int) < (l : Int) := by omega
      have hBw : B ≤ wr.heap.size := Nat.le_trans hB (by have := HU.out.below.size; omega)
      obtain ⟨g, cap, cur, rfl, _, _, hcell⟩ := own_form1 HU.out.own (by omega)
      obtain ⟨q, hq⟩ : ∃ q, o.length + j = q + d := ⟨o.length + j - d, by omega⟩
      have hcl := cpI_len d o j
      have x0 := hcell q _ (bL_at (cpI d o j) q (by omega))
      have x1 : wr.cell? ⟨w.heap.size, 2, none⟩ = some (.int .i64 (d : Int)) := cell_of_row wr _ 2 _ _ _ HU.out.box
      have hqe : (cpI d o j).length - d = q := by omega
      have HOW := HU.out.own
      have HNX : Hid (∀ v' w4, w4.ownsRow B 5 1 v' (o.length + j + 1) (bL (cpI d o j) ++ [.int .u8 (((cpI d o j).getD q 0 : Nat) : Int)]) → (wr.alloc (.cells #[.int .u8 (((cpI d o j).getD q 0 : Nat) : Int)] 5)).grownBy w4 (Value.slice (some ⟨g, 0, none⟩) (o.length + j) cap).ownBlock → UW o d (j + 1) B w.heap.size l w w4 v') := fun v' w4 h1 h2 => by
        refine HU.out.put hBw _ ?_ h2
        rw [hqe]; exact h1
      have hn4 : o.length + j ≤ 4066 := by omega
      generalize (cpI d o j).getD q 0 = c at x0 HNX
      generalize o.length + j = n at HOW hq x0 HNX hn4
      have hwn : IntKind.i64.wrap ((n : Int) - (d : Int)) = (q : Int) := by rw [IntKind.wrap_i64]; omega
      have hqn : (q : Int) < (n : Int) := by omega
      have hqN : q < n := by omega
      clear hcell hcl hqe hq
      go_wp2_with (at_builtin; (refine wpList_append_own _ rfl _ _ 25 rfl B 5 i0 _ 1 1 Try.underlying25 hi hz0 hz1 hz2 rfl (by decide) _ _ _ rfl (HOW.alloc _) ⟨wr.heap.size, 0, none⟩ 1 1 [_] rfl rfl (cell_at_new _ _ _ _ ?c1) ?c2 ?c3 ?c4 ?c5 ?_))
      case c1 => rfl
      case c2 => exact byte_one _
      case c3 => unfold maxLen; omega
      case c4 => omega
      case c5 => simp; omega
      intro v' w4 hown' hgrow _
      have H4 : Hid _ := HNX.out v' w4 hown' hgrow
      clear hown' hgrow HOW HNX
      go_wp2_with fail
      go_roundw
      case rel => exact ⟨j + 1, by omega, by go_num, H4⟩
      case measure => simp [lonIntOf]; omega
    · obtain rfl : j = l := by omega
      go_wp2_with fail
      go_ret
      exact ⟨_, rfl, HU.out.own, HU.out.below⟩
theorem withT_any (o : List Nat) (t : TkI) (B : Nat) (v : Value) (w : World) (hlen : o.length ≤ 4000) (ho : AllB o) (hp : tokP t.k t.b t.d t.l (o.length : Int)) (hown : w.ownsRow B 5 1 v o.length (bL o)) (hB : B ≤ w.heap.size) :
    Calls Try.prog 55 #[v, tokV t.k t.b t.d t.l] w fun e w' => ∃ v', e = .returned v' ∧ w'.ownsRow B 5 1 v' (tkOut o t).length (bL (tkOut o t)) ∧ Below B w w' := by
  obtain ⟨k, b, d, l⟩ := t
  obtain ⟨_, ⟨hk, h1, h2, hd, hl⟩ | ⟨hk, hb, h1, h2, h3, h4, h5⟩⟩ := hp
  · simp only at hk h1 h2 hd hl
    subst hk hd hl
    obtain ⟨n, rfl⟩ := Int.eq_ofNat_of_zero_le h1
    have := withT_byte o n B v w hlen (by omega) hown hB
    simpa [tkOut] using this
  · simp only at hk hb h1 h2 h3 h4 h5
    subst hk hb
    obtain ⟨n, rfl⟩ := Int.eq_ofNat_of_zero_le (a := d) (by omega)
    obtain ⟨m, rfl⟩ := Int.eq_ofNat_of_zero_le (a := l) (by omega)
    have := withT_copy o n m B v w hlen (by omega) (by omega) (by omega) ho hown hB
    simpa [tkOut, cpI_len] using this
end Go.Proofs.Ytibciflmalfbjaa
