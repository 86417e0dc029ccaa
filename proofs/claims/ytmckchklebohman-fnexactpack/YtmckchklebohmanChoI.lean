/-
  The choices of a text: the code's.
-/
import Derived.Test.YtmckchklebohmanThrB
import Derived.Test.YtmckchklebohmanChoM
import Derived.Test.YtmckchklebohmanTkS
namespace Go.Proofs.Ytmckchklebohman
open Go.RowKit
set_option linter.unusedVariables false
set_option linter.unusedSimpArgs false
def cIntI : Value → Int | .int _ q => q | _ => 0
def bitN (_ : List (Nat × Nat)) (_ t : Nat) : Nat := t
def nxtN (L : List (Nat × Nat)) (c t : Nat) : List (Nat × Nat) := L ++ [(c, t)]
theorem tvT_nat (n k : Nat) : tvT (n : Int) k = n / 2 ^ k % 2 := by
  unfold tvT
  have e : (n : Int) / (2 : Int) ^ k % 2 = ((n / 2 ^ k % 2 : Nat) : Int) := by
    rw [Int.natCast_emod, Int.natCast_ediv, Int.natCast_pow]; rfl
  rw [e]; rfl
theorem thT_L (f n : Nat) : ∀ (k nd : Nat) (L : List (Nat × Nat)), thT bitN nxtN f (n : Int) k nd L = (L ++ treeL f n k nd, treeN n k nd)
  | 0, nd, L => by simp [thT, treeL, treeN]
  | k + 1, nd, L => by
    show thT bitN nxtN f (n : Int) k (2 * nd + bitN L (f + nd) (tvT n k)) (nxtN L (f + nd) (tvT n k)) = _
    rw [tvT_nat, thT_L f n k]
    simp [bitN, nxtN, treeL, treeN]
/-- the choices of a token, and its kind -/
theorem thTok_L (a : Nat) (t : TkN) (h : TkOk t) (L : List (Nat × Nat)) : (thTok bitN nxtN a t.k (t.b : Int) (t.d : Int) (t.l : Int) L).1 = L ++ tokCh a t ∧ (thTok bitN nxtN a t.k (t.b : Int) (t.d : Int) (t.l : Int) L).2.k = t.k := by
  unfold thTok tokCh
  obtain ⟨k, b, d, l⟩ := t
  rcases h with ⟨h1, h2⟩ | ⟨h1, h2, h3, h4, h5⟩
  · simp only at h1
    subst h1
    rw [if_pos (show bitN L a 0 = 0 from rfl), if_pos rfl]
    simp only [thT_L]
    exact ⟨by simp [nxtN], by first | rfl | trivial⟩
  · simp only at h1 h2 h3 h4 h5
    subst h1
    rw [if_neg (show ¬ bitN L a 1 = 0 by show ¬ (1 : Nat) = 0; decide), if_neg (show ¬ (1 : Nat) = 0 by decide)]
    have e1 : (l : Int) - 3 = ((l - 3 : Nat) : Int) := by omega
    have e2 : ((d : Int) - 1).tdiv 64 = (((d - 1) / 64 : Nat) : Int) := by rw [Int.tdiv_eq_ediv_of_nonneg (by omega)]; omega
    have e3 : ((d : Int) - 1).tmod 64 = (((d - 1) % 64 : Nat) : Int) := by rw [Int.tmod_eq_emod_of_nonneg (by omega)]; omega
    simp only [e1, e2, e3, thT_L]
    exact ⟨by simp [nxtN], by first | rfl | trivial⟩
/-- the closure that notes, as the walk through a token asks -/
def PSn (B bx : Nat) (w : World) (L : List (Nat × Nat)) (D : Nat → Prop) : Prop := NS B bx w L D ∧ B ≤ w.heap.size
theorem PSn.stay {B bx : Nat} {w w' : World} {L : List (Nat × Nat)} {D : Nat → Prop} (h : PSn B bx w L D) (hb : w.heap.size ≤ w'.heap.size) (hk : ∀ k, D k → w'.heap[k]? = w.heap[k]?) : PSn B bx w' L D := ⟨h.1.stay hk, Nat.le_trans h.2 hb⟩
theorem nthru (B bx : Nat) (a : Nat) (t : TkN) (ht : TkOk t) (hbd : t.b ≤ 5000 ∧ t.d ≤ 5000 ∧ t.l ≤ 5000) (ha : a < 2) (L M : List (Nat × Nat)) (hM : M = L ++ tokCh a t) (hL : L.length ≤ 90000) (D : Nat → Prop) (w : World) (h : NS B bx w L D) (hBw : B ≤ w.heap.size) :
    Calls Try.prog 40 #[.agg #[.int .i64 (t.k : Int), .int .i64 (t.b : Int), .int .i64 (t.d : Int), .int .i64 (t.l : Int)], .int .i64 (a : Int), .func (.func 39) #[] #[.pointer (some ⟨bx, 0, none⟩)]] w fun e w' => (∃ b d l : Int, e = .returned (.agg #[.int .i64 (t.k : Int), .int .i64 b, .int .i64 d, .int .i64 l])) ∧ ∃ D', NS B bx w' M D' ∧ Kpt D w D' w' := by
  have hk : t.k < 2 := by rcases ht with h | h <;> omega
  obtain ⟨h1, h2, h3⟩ := hbd
  have hbx : B ≤ bx := by obtain ⟨_, _, _, h4, _⟩ := h; exact h4
  obtain ⟨e1, e2⟩ := thTok_L a t ht L
  refine (nthrough_any (NS B bx) bitN nxtN List.length 100000 bx (fun w s D c t hps hl hc h2 => note_any B bx w s D c t hps hl (by have := (Array.getElem?_eq_some_iff.1 hps.choose_spec.1).1; omega)) (fun s c t h => h) (fun w w' s D h hk => h.stay hk) (fun w s D h k hk => (h.lt k hk).2) (fun s c t => by simp [nxtN]) a t.k _ _ (t.b : Int) (t.d : Int) (t.l : Int) L D w ha hk rfl rfl (by omega) (by omega) (by omega) h (by omega)).mono ?_
  rintro e w' ⟨⟨q, hq, rfl⟩, D', h5, h6⟩
  rw [e1, ← hM] at h5
  have hqk : q.k = t.k := by rw [hq, e2]
  exact ⟨⟨_, _, _, by rw [hqk]⟩, D', h5, h6⟩
theorem tkG_bd {s : ByteArray} (hs : s.size ≤ 4000) (i : Nat) (h : i < (tkL s).length) : (tkG s i).b ≤ 5000 ∧ (tkG s i).d ≤ 5000 ∧ (tkG s i).l ≤ 5000 := by
  obtain ⟨q1, q2, _⟩ := (tkL_shape s).1 i h
  have e : tkG s i = tokAt s (atS s i) := by unfold tkG; rw [List.getD_eq_getElem?_getD, q2]; rfl
  obtain ⟨⟨_, h1⟩, _⟩ := tok_ok hs q1
  rw [← e] at h1
  generalize tkG s i = t at h1
  obtain ⟨k, b, d, l⟩ := t
  simp only [tkI] at h1
  show b ≤ 5000 ∧ d ≤ 5000 ∧ l ≤ 5000
  rcases h1 with ⟨h1, h2, h3, h4⟩ | ⟨h1, h2, h3, h4, _, h5, h6⟩ <;> omega
set_option maxRecDepth 100000 in
set_option maxHeartbeats 600000 in
theorem choices_any (s : ByteArray) (w : World) (hs : s.size ≤ 4000) :
    Calls Try.prog 19 #[.string s] w fun e w' => (∃ v, e = .returned (.tuple #[v, .bool true]) ∧ w'.ownsRow w.heap.size 61 2 v (choS s).length (cC (choS s))) ∧ Below w.heap.size w w' := by
  have HT : Hid (∀ w, Calls Try.prog 10 #[.string s] w fun e w' => (∃ v, e = .returned (.tuple #[v, .bool true]) ∧ w'.ownsRow w.heap.size 49 4 v (tkL s).length (tkC (tkL s))) ∧ Below w.heap.size w w') := fun w => tokens_any s w hs
  have HOK : Hid (∀ i, i < (tkL s).length → TkOk (tkG s i) ∧ ((tkG s i).b ≤ 5000 ∧ (tkG s i).d ≤ 5000 ∧ (tkG s i).l ≤ 5000)) := fun i h => ⟨tkG_ok hs i h, tkG_bd hs i h⟩
  have HKD : Hid (∀ i, i ≤ (tkL s).length → (choUp (tkG s) i).2 ≤ 1) := choUp_kind (tkG s) _ (fun i h => tkG_ok hs i h)
  have HLN : Hid ((tkL s).length ≤ 4000) := by have := (tkL_shape s).2.2; show _ ≤ _; omega
  have HUS : Hid (∀ i, (choUp (tkG s) (i + 1)) = ((choUp (tkG s) i).1 ++ tokCh (choUp (tkG s) i).2 (tkG s i), (tkG s i).k)) := fun i => rfl
  have HUL : Hid (∀ i, (choUp (tkG s) i).1.length ≤ 19 * i) := fun i => choUp_len _ i
  have HU0 : Hid (choUp (tkG s) 0 = ([], 0)) := rfl
  have HFG : Hid (∀ i, tkF s i = tkI (tkG s i)) := fun i => tkF_G s i
  have HAR : Hid (∀ w B v, w.ownsRow B 49 4 v (tkL s).length (tkC (tkL s)) → TkArg w v (tkL s).length (tkF s)) := fun w B v h => own_arg h
  unfold choS
  generalize (tkL s).length = N at *
  generalize tkC (tkL s) = xs at *
  generalize tkF s = FI at *
  generalize hU : choUp (tkG s) = U at *
  clear hU
  generalize tkG s = G at *
  go_enter Try.func19, Try.ntmps19
  go_wp2_with fail
  refine (HT.out _).mono ?_
  rintro e w1 ⟨⟨tv, rfl, ho⟩, hb1⟩
  have HTA : Hid (TkArg w1 tv N FI) := HAR.out _ _ _ ho
  have HB1 : Hid (Below w.heap.size w w1) := hb1
  obtain ⟨ta, tc, rfl, _⟩ := HTA.out
  have HS0 : Hid (∃ D, NS w1.heap.size w1.heap.size (w1.alloc (.cells #[.slice none 0 0] 34)) [] D) :=
    ⟨_, .slice none 0 0, heap_alloc_new _ _, World.ownsRow_nil _ _ _ _, Nat.le_refl _, rfl⟩
  have HBL0 : Hid (Below w1.heap.size w1 (w1.alloc (.cells #[.slice none 0 0] 34)) ∧ w1.heap.size ≤ (w1.alloc (.cells #[.slice none 0 0] 34)).heap.size) := ⟨(Below.refl _ _).alloc (Nat.le_refl _) _, by simp⟩
  clear ho hb1 HT HAR
  go_wp2_with fail
  go_loopw [8, 21] (fun la ix wr => ∃ (i : Nat) (D : Nat → Prop), la = .int .i64 ((U i).2 : Int) ∧ ix = .int .i64 (i : Int) ∧ i ≤ N ∧ Hid (NS w1.heap.size w1.heap.size wr (U i).1 D) ∧ Hid (Below w1.heap.size w1 wr ∧ w1.heap.size ≤ wr.heap.size)) (fun _ ix _ => N - (cIntI ix).toNat)
  case atStart =>
    obtain ⟨D, hD⟩ := HS0.out
    exact ⟨0, D, by rw [HU0.out]; rfl, rfl, Nat.zero_le _, by rw [HU0.out]; exact hD, HBL0.out⟩
  case round =>
    clear HS0 HBL0
    obtain ⟨i, D, rfl, rfl, hi, HN, HB⟩ := hrel
    have hN4 := HLN.out
    by_cases hlt : i < N
    · have hltI : (i : Int) < (N : Int) := by omega
      obtain ⟨a', c', e1, hr⟩ := HTA.out.below HB.out.1
      cases e1
      obtain ⟨g, rfl, hrow⟩ := hr (by omega)
      obtain ⟨q, hq⟩ : ∃ q, q = 4 * i := ⟨_, rfl⟩
      have hiq : i * 4 = q := by omega
      have x0 := hrow.c0 i hlt
      have x1 := hrow.c1 i hlt
      have x2 := hrow.c2 i hlt
      have x3 := hrow.c3 i hlt
      rw [← hq, HFG.out i] at x0 x1 x2 x3
      have HOKI : Hid _ := HOK.out i hlt
      have hul := HUL.out i
      have HUNX : Hid _ := HUS.out i
      have hkd := HKD.out i hi
      clear hrow hq hr
      generalize G i = t at x0 x1 x2 x3 HOKI HUNX
      obtain ⟨tk, tb, td, tl⟩ := t
      simp only [tkI] at x0 x1 x2 x3
      obtain ⟨la, hla⟩ : ∃ la, la = (U i).2 := ⟨_, rfl⟩
      obtain ⟨M, hM⟩ : ∃ M, M = (U i).1 := ⟨_, rfl⟩
      rw [← hla, ← hM] at HUNX
      rw [← hla]
      rw [← hla] at hkd
      rw [← hM] at HN hul
      clear hla hM
      go_wp2_with fail
      obtain ⟨w2, hw2⟩ : ∃ w2, w2 = wr.alloc (.cells #[.int .i64 (tk : Int), .int .i64 (tb : Int), .int .i64 (td : Int), .int .i64 (tl : Int)] 49) := ⟨_, rfl⟩
      rw [← hw2]
      have HN2 : Hid (NS w1.heap.size w1.heap.size w2 M D) := HN.out.stay (fun k hk => by rw [hw2]; exact Below.heap_alloc _ _ _ (HN.out.lt k hk).2)
      have HB2 : Hid (Below w1.heap.size w1 w2 ∧ w1.heap.size ≤ w2.heap.size) := by
        show _ ∧ _
        rw [hw2]
        exact ⟨HB.out.1.alloc HB.out.2 _, by have := HB.out.2; simp; omega⟩
      have hz : w1.heap.size ≤ w2.heap.size := HB2.out.2
      clear hw2 HN HB x0 x1 x2 x3
      have hun := HUNX.out
      refine (nthru w1.heap.size w1.heap.size la ⟨tk, tb, td, tl⟩ HOKI.out.1 HOKI.out.2 (by omega) M (U (i + 1)).1 (by rw [hun]) (by omega) D w2 HN2.out hz).mono ?_
      rintro e w3 ⟨⟨b', d', l', rfl⟩, D3, hn3, hk3⟩
      have HN3 : Hid (NS w1.heap.size w1.heap.size w3 (U (i + 1)).1 D3) := hn3
      have HB3 : Hid (Below w1.heap.size w1 w3 ∧ w1.heap.size ≤ w3.heap.size) :=
        ⟨bl_trans3 HB2.out.1 (hk3.toBelow hz (fun k hk => (HN2.out.lt k hk).1)) (Nat.le_refl _), Nat.le_trans hz hk3.size⟩
      have HU2 : Hid ((U (i + 1)).2 = tk) := by show _ = _; rw [hun]
      clear hn3 hk3 hun HUNX HN2 HB2 hz
      go_wp2_with fail
      rw [show (Sem.run Try.prog (Instr.field 49 (Value.agg #[.int .i64 (tk : Int), .int .i64 b', .int .i64 d', .int .i64 l']) 0) w3) = .ok (.int .i64 (tk : Int)) w3 from by kernel_rfl]
      go_wp2_with fail
      go_roundw
      case rel => exact ⟨i + 1, D3, by rw [HU2.out], by go_num, by omega, HN3, HB3⟩
      case measure => simp [cIntI]; omega
    · obtain rfl : i = N := by omega
      obtain ⟨v, h1, h2, h3, h4⟩ := HN.out
      have y0 : wr.cell? ⟨w1.heap.size, 0, none⟩ = some v := cell_of_row _ _ _ _ _ _ h1
      have HF : Hid (wr.ownsRow w.heap.size 61 2 v (U i).1.length (cC (U i).1) ∧ Below w.heap.size w wr) :=
        ⟨owns_lower h2 HB1.out.size, bl_trans3 HB1.out HB.out.1 HB1.out.size⟩
      clear h1 h2 h3 h4 HN HB HB1
      go_wp2_with fail
      go_ret2
      exact ⟨⟨v, rfl, HF.out.1⟩, HF.out.2⟩
set_option maxRecDepth 100000 in
theorem choices_no (s : ByteArray) (w : World) (hs : ¬ s.size ≤ 4000) :
    Calls Try.prog 19 #[.string s] w fun e w' => e = .returned (.tuple #[.slice none 0 0, .bool false]) ∧ w' = w := by
  have H : Hid (∀ w, _) := fun w => tokens_no s w hs
  clear hs
  go_enter Try.func19, Try.ntmps19
  go_wp2_with fail
  refine (H.out _).mono ?_
  rintro e w1 ⟨rfl, rfl⟩
  go_wp2_with fail
  go_ret2
  exact ⟨rfl, rfl⟩
end Go.Proofs.Ytmckchklebohman
