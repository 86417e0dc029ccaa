/-
  Several texts of this seat as one: ChoI, ChoS, ChoS2.
-/
import Derived.Test.YtbkjcngehhdchaaPk11
import Derived.Test.YtbkjcngehhdchaaPk14
import Derived.Test.YtbkjcngehhdchaaPk15
import Derived.Test.YtbkjcngehhdchaaPk10
import Derived.Test.YtbkjcngehhdchaaPk06

/-!   The choices of a text: the code's. -/
namespace Go.Proofs.Ytbkjcngehhdchaa
open Go.RowKit
set_option linter.unusedVariables false
set_option linter.unusedSimpArgs false
def cIntI : Value → Int | .int _ q => q | _ => 0
def bitN (_ : List (Nat × Nat)) (_ t : Nat) : Nat := t
def nxtN (L : List (Nat × Nat)) (c t : Nat) : List (Nat × Nat) := L ++ [(c, t)]
theorem tvT_nat (n k : Nat) : tvT (n : Int) k = n / 2 ^ k % 2 := by
  unfold tvT
  have e : (n : Int) / (2 : Int) ^ k % 2 = ((n / 2 ^ k % 2 : Nat) : Int) := by
    rw [Int.natCast_emod, Int.natCast_ediv, Int.natCast_pow]; rfl
  rw [e]; rfl
theorem thT_L (f n : Nat) : ∀ (k nd : Nat) (L : List (Nat × Nat)), thT bitN nxtN f (n : Int) k nd L = (L ++ treeL f n k nd, treeN n k nd)
  | 0, nd, L => by simp [thT, treeL, treeN]
  | k + 1, nd, L => by
    show thT bitN nxtN f (n : Int) k (2 * nd + bitN L (f + nd) (tvT n k)) (nxtN L (f + nd) (tvT n k)) = _
    rw [tvT_nat, thT_L f n k]
    simp [bitN, nxtN, treeL, treeN]
/-- the choices of a token, and its kind -/
theorem thTok_L (a : Nat) (t : TkN) (h : TkOk t) (L : List (Nat × Nat)) : (thTok bitN nxtN a t.k (t.b : Int) (t.d : Int) (t.l : Int) L).1 = L ++ tokCh a t ∧ (thTok bitN nxtN a t.k (t.b : Int) (t.d : Int) (t.l : Int) L).2.k = t.k := by
  unfold thTok tokCh
  obtain ⟨k, b, d, l⟩ := t
  rcases h with ⟨h1, h2⟩ | ⟨h1, h2, h3, h4, h5⟩
  · simp only at h1
    subst h1
    rw [if_pos (show bitN L a 0 = 0 from rfl), if_pos rfl]
    simp only [thT_L]
    exact ⟨by simp [nxtN], by first | rfl | trivial⟩
  · simp only at h1 h2 h3 h4 h5
    subst h1
    rw [if_neg (show ¬ bitN L a 1 = 0 by show ¬ (1 : Nat) = 0; decide), if_neg (show ¬ (1 : Nat) = 0 by decide)]
    have e1 : (l : Int) - 3 = ((l - 3 : Nat) : Int) := by omega
    have e2 : ((d : Int) - 1).tdiv 64 = (((d - 1) / 64 : Nat) : Int) := by rw [Int.tdiv_eq_ediv_of_nonneg (by omega)]; omega
    have e3 : ((d : Int) - 1).tmod 64 = (((d - 1) % 64 : Nat) : Int) := by rw [Int.tmod_eq_emod_of_nonneg (by omega)]; omega
    simp only [e1, e2, e3, thT_L]
    exact ⟨by simp [nxtN], by first | rfl | trivial⟩
/-- the closure that notes, as the walk through a token asks -/
def PSn (B bx : Nat) (w : World) (L : List (Nat × Nat)) (D : Nat → Prop) : Prop := NS B bx w L D ∧ B ≤ w.heap.size
theorem PSn.stay {B bx : Nat} {w w' : World} {L : List (Nat × Nat)} {D : Nat → Prop} (h : PSn B bx w L D) (hb : w.heap.size ≤ w'.heap.size) (hk : ∀ k, D k → w'.heap[k]? = w.heap[k]?) : PSn B bx w' L D := ⟨h.1.stay hk, Nat.le_trans h.2 hb⟩
theorem nthru (B bx : Nat) (a : Nat) (t : TkN) (ht : TkOk t) (hbd : t.b ≤ 5000 ∧ t.d ≤ 5000 ∧ t.l ≤ 5000) (ha : a < 2) (L M : List (Nat × Nat)) (hM : M = L ++ tokCh a t) (hL : L.length ≤ 90000) (D : Nat → Prop) (w : World) (h : NS B bx w L D) (hBw : B ≤ w.heap.size) :
    Calls Try.prog 79 #[.agg #[.int .i64 (t.k : Int), .int .i64 (t.b : Int), .int .i64 (t.d : Int), .int .i64 (t.l : Int)], .int .i64 (a : Int), .func (.func 78) #[] #[.pointer (some ⟨bx, 0, none⟩)]] w fun e w' => (∃ b d l : Int, e = .returned (.agg #[.int .i64 (t.k : Int), .int .i64 b, .int .i64 d, .int .i64 l])) ∧ ∃ D', NS B bx w' M D' ∧ Kpt D w D' w' := by
  have hk : t.k < 2 := by rcases ht with h | h <;> omega
  obtain ⟨h1, h2, h3⟩ := hbd
  have hbx : B ≤ bx := by obtain ⟨_, _, _, h4, _⟩ := h; exact h4
  obtain ⟨e1, e2⟩ := thTok_L a t ht L
  refine (nthrough_any (NS B bx) bitN nxtN List.length 100000 bx (fun w s D c t hps hl hc h2 => note_any B bx w s D c t hps hl (by have := (Array.getElem?_eq_some_iff.1 hps.choose_spec.1).1; omega)) (fun s c t h => h) (fun w w' s D h hk => h.stay hk) (fun w s D h k hk => (h.lt k hk).2) (fun s c t => by simp [nxtN]) a t.k _ _ (t.b : Int) (t.d : Int) (t.l : Int) L D w ha hk rfl rfl (by omega) (by omega) (by omega) h (by omega)).mono ?_
  rintro e w' ⟨⟨q, hq, rfl⟩, D', h5, h6⟩
  rw [e1, ← hM] at h5
  have hqk : q.k = t.k := by rw [hq, e2]
  exact ⟨⟨_, _, _, by rw [hqk]⟩, D', h5, h6⟩
theorem tkG_bd {s : ByteArray} (hs : s.size ≤ 4000) (i : Nat) (h : i < (tkL s).length) : (tkG s i).b ≤ 5000 ∧ (tkG s i).d ≤ 5000 ∧ (tkG s i).l ≤ 5000 := by
  obtain ⟨q1, q2, _⟩ := (tkL_shape s).1 i h
  have e : tkG s i = tokAt s (atS s i) := by unfold tkG; rw [List.getD_eq_getElem?_getD, q2]; rfl
  obtain ⟨⟨_, h1⟩, _⟩ := tok_ok hs q1
  rw [← e] at h1
  generalize tkG s i = t at h1
  obtain ⟨k, b, d, l⟩ := t
  simp only [tkI] at h1
  show b ≤ 5000 ∧ d ≤ 5000 ∧ l ≤ 5000
  rcases h1 with ⟨h1, h2, h3, h4⟩ | ⟨h1, h2, h3, h4, _, h5, h6⟩ <;> omega
set_option maxRecDepth 100000 in
set_option maxHeartbeats 600000 in
theorem choices_any (s : ByteArray) (w : World) (hs : s.size ≤ 4000) :
    Calls Try.prog 55 #[.string s] w fun e w' => (∃ v, e = .returned (.tuple #[v, .bool true]) ∧ w'.ownsRow w.heap.size 108 2 v (choS s).length (cC (choS s))) ∧ Below w.heap.size w w' := by
  have HT : Hid (∀ w, Calls Try.prog 77 #[.string s] w fun e w' => (∃ v, e = .returned (.tuple #[v, .bool true]) ∧ w'.ownsRow w.heap.size 106 4 v (tkL s).length (tkC (tkL s))) ∧ Below w.heap.size w w') := fun w => tokens_any s w hs
  have HOK : Hid (∀ i, i < (tkL s).length → TkOk (tkG s i) ∧ ((tkG s i).b ≤ 5000 ∧ (tkG s i).d ≤ 5000 ∧ (tkG s i).l ≤ 5000)) := fun i h => ⟨tkG_ok hs i h, tkG_bd hs i h⟩
  have HKD : Hid (∀ i, i ≤ (tkL s).length → (choUp (tkG s) i).2 ≤ 1) := choUp_kind (tkG s) _ (fun i h => tkG_ok hs i h)
  have HLN : Hid ((tkL s).length ≤ 4000) := by have := (tkL_shape s).2.2; show _ ≤ _; omega
  have HUS : Hid (∀ i, (choUp (tkG s) (i + 1)) = ((choUp (tkG s) i).1 ++ tokCh (choUp (tkG s) i).2 (tkG s i), (tkG s i).k)) := fun i => rfl
  have HUL : Hid (∀ i, (choUp (tkG s) i).1.length ≤ 19 * i) := fun i => choUp_len _ i
  have HU0 : Hid (choUp (tkG s) 0 = ([], 0)) := rfl
  have HFG : Hid (∀ i, tkF s i = tkI (tkG s i)) := fun i => tkF_G s i
  have HAR : Hid (∀ w B v, w.ownsRow B 106 4 v (tkL s).length (tkC (tkL s)) → TkArg w v (tkL s).length (tkF s)) := fun w B v h => own_arg h
  unfold choS
  generalize (tkL s).length = N at *
  generalize tkC (tkL s) = xs at *
  generalize tkF s = FI at *
  generalize hU : choUp (tkG s) = U at *
  clear hU
  generalize tkG s = G at *
  go_enter Try.func55, Try.ntmps55
  go_wp2_with fail
  refine (HT.out _).mono ?_
  rintro e w1 ⟨⟨tv, rfl, ho⟩, hb1⟩
  have HTA : Hid (TkArg w1 tv N FI) := HAR.out _ _ _ ho
  have HB1 : Hid (Below w.heap.size w w1) := hb1
  obtain ⟨ta, tc, rfl, _⟩ := HTA.out
  have HS0 : Hid (∃ D, NS w1.heap.size w1.heap.size (w1.alloc (.cells #[.slice none 0 0] 78)) [] D) :=
    ⟨_, .slice none 0 0, heap_alloc_new _ _, World.ownsRow_nil _ _ _ _, Nat.le_refl _, rfl⟩
  have HBL0 : Hid (Below w1.heap.size w1 (w1.alloc (.cells #[.slice none 0 0] 78)) ∧ w1.heap.size ≤ (w1.alloc (.cells #[.slice none 0 0] 78)).heap.size) := ⟨(Below.refl _ _).alloc (Nat.le_refl _) _, by simp⟩
  clear ho hb1 HT HAR
  go_wp2_with fail
  go_loopw [8, 21] (fun la ix wr => ∃ (i : Nat) (D : Nat → Prop), la = .int .i64 ((U i).2 : Int) ∧ ix = .int .i64 (i : Int) ∧ i ≤ N ∧ Hid (NS w1.heap.size w1.heap.size wr (U i).1 D) ∧ Hid (Below w1.heap.size w1 wr ∧ w1.heap.size ≤ wr.heap.size)) (fun _ ix _ => N - (cIntI ix).toNat)
  case atStart =>
    obtain ⟨D, hD⟩ := HS0.out
    exact ⟨0, D, by rw [HU0.out]; rfl, rfl, Nat.zero_le _, by rw [HU0.out]; exact hD, HBL0.out⟩
  case round =>
    clear HS0 HBL0
    obtain ⟨i, D, rfl, rfl, hi, HN, HB⟩ := hrel
    have hN4 := HLN.out
    by_cases hlt : i < N
    · have hltI : (i : Int) < (N : Int) := by omega
      obtain ⟨a', c', e1, hr⟩ := HTA.out.below HB.out.1
      cases e1
      obtain ⟨g, rfl, hrow⟩ := hr (by omega)
      obtain ⟨q, hq⟩ : ∃ q, q = 4 * i := ⟨_, rfl⟩
      have hiq : i * 4 = q := by omega
      have x0 := hrow.c0 i hlt
      have x1 := hrow.c1 i hlt
      have x2 := hrow.c2 i hlt
      have x3 := hrow.c3 i hlt
      rw [← hq, HFG.out i] at x0 x1 x2 x3
      have HOKI : Hid _ := HOK.out i hlt
      have hul := HUL.out i
      have HUNX : Hid _ := HUS.out i
      have hkd := HKD.out i hi
      clear hrow hq hr
      generalize G i = t at x0 x1 x2 x3 HOKI HUNX
      obtain ⟨tk, tb, td, tl⟩ := t
      simp only [tkI] at x0 x1 x2 x3
      obtain ⟨la, hla⟩ : ∃ la, la = (U i).2 := ⟨_, rfl⟩
      obtain ⟨M, hM⟩ : ∃ M, M = (U i).1 := ⟨_, rfl⟩
      rw [← hla, ← hM] at HUNX
      rw [← hla]
      rw [← hla] at hkd
      rw [← hM] at HN hul
      clear hla hM
      go_wp2_with fail
      obtain ⟨w2, hw2⟩ : ∃ w2, w2 = wr.alloc (.cells #[.int .i64 (tk : Int), .int .i64 (tb : Int), .int .i64 (td : Int), .int .i64 (tl : Int)] 106) := ⟨_, rfl⟩
      rw [← hw2]
      have HN2 : Hid (NS w1.heap.size w1.heap.size w2 M D) := HN.out.stay (fun k hk => by rw [hw2]; exact Below.heap_alloc _ _ _ (HN.out.lt k hk).2)
      have HB2 : Hid (Below w1.heap.size w1 w2 ∧ w1.heap.size ≤ w2.heap.size) := by
        show _ ∧ _
        rw [hw2]
        exact ⟨HB.out.1.alloc HB.out.2 _, by have := HB.out.2; simp; omega⟩
      have hz : w1.heap.size ≤ w2.heap.size := HB2.out.2
      clear hw2 HN HB x0 x1 x2 x3
      have hun := HUNX.out
      refine (nthru w1.heap.size w1.heap.size la ⟨tk, tb, td, tl⟩ HOKI.out.1 HOKI.out.2 (by omega) M (U (i + 1)).1 (by rw [hun]) (by omega) D w2 HN2.out hz).mono ?_
      rintro e w3 ⟨⟨b', d', l', rfl⟩, D3, hn3, hk3⟩
      have HN3 : Hid (NS w1.heap.size w1.heap.size w3 (U (i + 1)).1 D3) := hn3
      have HB3 : Hid (Below w1.heap.size w1 w3 ∧ w1.heap.size ≤ w3.heap.size) :=
        ⟨bl_trans3 HB2.out.1 (hk3.toBelow hz (fun k hk => (HN2.out.lt k hk).1)) (Nat.le_refl _), Nat.le_trans hz hk3.size⟩
      have HU2 : Hid ((U (i + 1)).2 = tk) := by show _ = _; rw [hun]
      clear hn3 hk3 hun HUNX HN2 HB2 hz
      go_wp2_with fail
      rw [show (Sem.run Try.prog (Instr.field 106 (Value.agg #[.int .i64 (tk : Int), .int .i64 b', .int .i64 d', .int .i64 l']) 0) w3) = .ok (.int .i64 (tk : Int)) w3 from by kernel_rfl]
      go_wp2_with fail
      go_roundw
      case rel => exact ⟨i + 1, D3, by rw [HU2.out], by go_num, by omega, HN3, HB3⟩
      case measure => simp [cIntI]; omega
    · obtain rfl : i = N := by omega
      obtain ⟨v, h1, h2, h3, h4⟩ := HN.out
      have y0 : wr.cell? ⟨w1.heap.size, 0, none⟩ = some v := cell_of_row _ _ _ _ _ _ h1
      have HF : Hid (wr.ownsRow w.heap.size 108 2 v (U i).1.length (cC (U i).1) ∧ Below w.heap.size w wr) :=
        ⟨owns_lower h2 HB1.out.size, bl_trans3 HB1.out HB.out.1 HB1.out.size⟩
      clear h1 h2 h3 h4 HN HB HB1
      go_wp2_with fail
      go_ret2
      exact ⟨⟨v, rfl, HF.out.1⟩, HF.out.2⟩
set_option maxRecDepth 100000 in
theorem choices_no (s : ByteArray) (w : World) (hs : ¬ s.size ≤ 4000) :
    Calls Try.prog 55 #[.string s] w fun e w' => e = .returned (.tuple #[.slice none 0 0, .bool false]) ∧ w' = w := by
  have H : Hid (∀ w, _) := fun w => tokens_no s w hs
  clear hs
  go_enter Try.func55, Try.ntmps55
  go_wp2_with fail
  refine (H.out _).mono ?_
  rintro e w1 ⟨rfl, rfl⟩
  go_wp2_with fail
  go_ret2
  exact ⟨rfl, rfl⟩
end Go.Proofs.Ytbkjcngehhdchaa

/-!   The choices of a text: the specification's. -/
namespace Go.Proofs.Ytbkjcngehhdchaa
open Go.RowKit
set_option linter.unusedVariables false
set_option linter.unusedSimpArgs false
def cIntOf : Value → Int | .int _ q => q | _ => 0
theorem Try.infChc : (Try.prog.info? 108).map (fun i => (i.zero, i.size, i.bytes)) = some (some (.agg #[.int .i64 0, .int .i64 0]), 2, 16) := by kernel_rfl
set_option maxRecDepth 100000 in
set_option maxHeartbeats 2000000 in
theorem stree_any (B gv cap : Nat) (L : List (Nat × Nat)) (f nb n : Nat) (w : World) (hf : f ≤ 1000) (hb : nb ≤ 8) (hn : n < 1000000) (hL : L.length ≤ 100000) (ho : w.ownsRow B 108 2 (.slice (some ⟨gv, 0, none⟩) L.length cap) L.length (cC L)) (hBw : B ≤ w.heap.size) :
    Calls Try.prog 72 #[.slice (some ⟨gv, 0, none⟩) L.length cap, .int .i64 (f : Int), .int .i64 (nb : Int), .int .i64 (n : Int)] w fun e w' => (∃ g' c', e = .returned (.slice (some ⟨g', 0, none⟩) (L ++ treeL f n nb 1).length c') ∧ w'.ownsRow B 108 2 (.slice (some ⟨g', 0, none⟩) (L ++ treeL f n nb 1).length c') (L ++ treeL f n nb 1).length (cC (L ++ treeL f n nb 1)) ∧ (g' = gv ∨ w.heap.size ≤ g')) ∧ w.grownBy w' (some gv) := by
  obtain ⟨i0, hi0, hz0, hz1, hz2⟩ := info_parts Try.infChc
  have HO0 : Hid (w.ownsRow B 108 2 (.slice (some ⟨gv, 0, none⟩) L.length cap) L.length (cC L)) := ho
  obtain ⟨A, hA⟩ : ∃ A, A = L ++ treeL f n nb 1 := ⟨_, rfl⟩
  have HA : Hid (A = L ++ treeL f n nb 1) := hA
  rw [← hA]
  clear ho hA
  go_enter Try.func72, Try.ntmps72
  go_wp2_with fail
  go_loopw [0, 9, 10] (fun x nd i wr => ∃ (gu cu k d : Nat) (M : List (Nat × Nat)), x = .slice (some ⟨gu, 0, none⟩) M.length cu ∧ nd = .int .i64 (d : Int) ∧ i = .int .i64 ((k : Int) - 1) ∧ k ≤ nb ∧ d < 2 ^ (nb - k + 1) ∧ Hid (A = M ++ treeL f n k d) ∧ M.length + k ≤ 100008 ∧ Hid (wr.ownsRow B 108 2 (.slice (some ⟨gu, 0, none⟩) M.length cu) M.length (cC M)) ∧ Hid (w.grownBy wr (some gv) ∧ (gu = gv ∨ w.heap.size ≤ gu))) (fun _ _ i _ => (cIntOf i + 1).toNat)
  case atStart => exact ⟨gv, cap, nb, 1, L, rfl, rfl, rfl, Nat.le_refl _, by rw [Nat.sub_self]; decide, HA, by omega, HO0, World.grownBy.refl _ _, Or.inl rfl⟩
  case round =>
    obtain ⟨gu, cu, k, d, M, rfl, rfl, rfl, hk, hd, HM, hML, HO, HB⟩ := hrel
    have hd9 : d < 512 := Nat.lt_of_lt_of_le hd (Nat.pow_le_pow_right (by omega) (by omega : nb - k + 1 ≤ 9))
    by_cases hk0 : k = 0
    · subst hk0
      have HF : Hid (M.length = A.length ∧ wr.ownsRow B 108 2 (.slice (some ⟨gu, 0, none⟩) A.length cu) A.length (cC A)) := by
        have e := HM.out
        rw [show treeL f n 0 d = [] from rfl, List.append_nil] at e
        rw [e]; exact ⟨rfl, HO.out⟩
      clear hd HO
      go_wp2_with fail
      go_ret
      exact ⟨⟨gu, cu, by rw [← HF.out.1]; rfl, HF.out.2, HB.out.2⟩, HB.out.1⟩
    · obtain ⟨j, rfl⟩ : ∃ j, k = j + 1 := ⟨k - 1, by omega⟩
      have e1 : ((j + 1 : Nat) : Int) - 1 = (j : Int) := by omega
      rw [e1]
      obtain ⟨t, ht⟩ : ∃ t, t = n / 2 ^ j % 2 := ⟨_, rfl⟩
      obtain ⟨q, hq⟩ : ∃ q, q = n / 2 ^ j := ⟨_, rfl⟩
      have ht2 : t < 2 := by omega
      have hshr : (n : Int) / (2 : Int) ^ j = (q : Int) := by rw [hq]; simp
      have hrem : Int.tmod (q : Int) 2 = (t : Int) := by rw [Int.tmod_eq_emod_of_nonneg (by omega), ht, hq]; omega
      have hju : IntKind.u32.wrap (j : Int) = (j : Int) := by rw [IntKind.wrap_u32]; omega
      have HM2 : Hid (A = (M ++ [(f + d, t)]) ++ treeL f n j (2 * d + t)) := by
        show A = _
        rw [HM.out, treeL, ← ht]; simp
      have hd2 : 2 * d + t < 2 ^ (nb - j + 1) := by
        have e : nb - j + 1 = (nb - (j + 1) + 1) + 1 := by omega
        rw [e, Nat.pow_succ]; omega
      have hw1 : IntKind.i64.wrap ((f : Int) + (d : Int)) = ((f + d : Nat) : Int) := by rw [IntKind.wrap_i64]; omega
      have hw1b : (f : Int) + (d : Int) = ((f + d : Nat) : Int) := by omega
      have hw2 : IntKind.i64.wrap (2 * (d : Int)) = 2 * (d : Int) := by rw [IntKind.wrap_i64]; omega
      obtain ⟨nd2, hnd2⟩ : ∃ nd2, nd2 = 2 * d + t := ⟨_, rfl⟩
      have hw3b : 2 * (d : Int) + (t : Int) = (nd2 : Int) := by omega
      have hw3 : IntKind.i64.wrap (nd2 : Int) = (nd2 : Int) := by rw [IntKind.wrap_i64]; omega
      rw [← hnd2] at HM2 hd2
      have HSN : Hid (cC (M ++ [(f + d, t)]) = cC M ++ [.int .i64 ((f + d : Nat) : Int), .int .i64 (t : Int)]) := cC_snoc _ _ _
      have hsz := HB.out.1.size
      clear hd ht hq HM e1 hnd2
      generalize f + d = z at *
      go_wp2_with (at_builtin; refine wpList_append_fr _ rfl _ _ 78 rfl B 108 i0 (.agg #[.int .i64 0, .int .i64 0]) 2 16 Try.underlying78 hi0 hz0 hz1 hz2 rfl (by decide) gu cu M.length _ rfl (HO.out.alloc _) ⟨wr.heap.size, 0, none⟩ 1 1 [_, _] rfl rfl cell_two ?c2 ?c3 ?c4 ?c5 ?_)
      case c2 => intro u hu; simp at hu; rcases hu with rfl | rfl <;> rfl
      case c3 => unfold maxLen; omega
      case c4 => omega
      case c5 => simp; omega
      intro g3 c3 w3 hown' hgrow hg3
      have H3 : Hid (w3.ownsRow B 108 2 (.slice (some ⟨g3, 0, none⟩) (M ++ [(z, t)]).length c3) (M ++ [(z, t)]).length (cC (M ++ [(z, t)])) ∧ w.grownBy w3 (some gv) ∧ (g3 = gv ∨ w.heap.size ≤ g3)) := by
        refine ⟨by rw [HSN.out, List.length_append]; exact hown', ?_, ?_⟩
        · exact (HB.out.1.trans (World.grownBy_alloc wr _ _)).andThen hgrow (fun j hj => by
            have e := Option.some.inj hj
            subst e
            rcases HB.out.2 with h | h
            · exact Or.inr (by rw [h])
            · exact Or.inl h)
        · rcases hg3 with h | h
          · rw [h]; exact HB.out.2
          · exact Or.inr (by have h' : wr.heap.size + 1 ≤ g3 := by simpa using h
                             omega)
      have HL3 : Hid ((M ++ [(z, t)]).length = M.length + 1) := by show _ = _; simp
      clear hown' hgrow hg3 HO HB
      go_wp2_with fail
      go_roundw
      case rel => exact ⟨g3, c3, j, nd2, M ++ [(z, t)], by rw [HL3.out], by go_num, rfl, by omega, hd2, HM2, by rw [HL3.out]; omega, H3.out.1, H3.out.2⟩
      case measure => simp [cIntOf] <;> omega
end Go.Proofs.Ytbkjcngehhdchaa

/-!   The choices of a text: the specification's. -/
namespace Go.Proofs.Ytbkjcngehhdchaa
open Go.RowKit
set_option linter.unusedVariables false
set_option linter.unusedSimpArgs false
theorem bl3c {B C : Nat} {a b c : World} (h : Below B a b) (k : Below C b c) (hBC : B ≤ C) : Below B a c := ⟨k.os.trans h.os, k.tape.trans h.tape, k.output.trans h.output, Nat.le_trans h.size k.size, fun i hi => (k.block i (Nat.lt_of_lt_of_le hi hBC)).trans (h.block i hi)⟩
set_option maxRecDepth 100000 in
set_option maxHeartbeats 600000 in
theorem schoices_any (s : ByteArray) (w : World) (hs : s.size ≤ 4000) :
    Calls Try.prog 52 #[.string s] w fun e w' => (∃ v, e = .returned (.tuple #[v, .bool true]) ∧ w'.ownsRow w.heap.size 108 2 v (choS s).length (cC (choS s))) ∧ Below w.heap.size w w' := by
  obtain ⟨i0, hi0, hz0, hz1, hz2⟩ := info_parts Try.infChc
  have HT : Hid (∀ w, Calls Try.prog 71 #[.string s] w fun e w' => (∃ v, e = .returned (.tuple #[v, .bool true]) ∧ w'.ownsRow w.heap.size 106 4 v (tkL s).length (tkC (tkL s))) ∧ Below w.heap.size w w') := fun w => stokens_any s w hs
  have HTR : Hid (∀ (B gv cap : Nat) (L : List (Nat × Nat)) (f nb n : Nat) (fI nbI : Int) (A : List (Nat × Nat)) (w : World), fI = (f : Int) → nbI = (nb : Int) → A = L ++ treeL f n nb 1 → f ≤ 1000 → nb ≤ 8 → n < 1000000 → L.length ≤ 100000 → w.ownsRow B 108 2 (.slice (some ⟨gv, 0, none⟩) L.length cap) L.length (cC L) → B ≤ w.heap.size → Calls Try.prog 72 #[.slice (some ⟨gv, 0, none⟩) L.length cap, .int .i64 fI, .int .i64 nbI, .int .i64 (n : Int)] w fun e w' => (∃ g' c', e = .returned (.slice (some ⟨g', 0, none⟩) A.length c') ∧ w'.ownsRow B 108 2 (.slice (some ⟨g', 0, none⟩) A.length c') A.length (cC A) ∧ (g' = gv ∨ w.heap.size ≤ g')) ∧ w.grownBy w' (some gv)) :=
    fun B gv cap L f nb n fI nbI A w e1 e2 e3 h1 h2 h3 h4 h5 h6 => by subst e1; subst e2; subst e3; exact stree_any B gv cap L f nb n w h1 h2 h3 h4 h5 h6
  have HOK : Hid (∀ i, i < (tkL s).length → TkOk (tkG s i)) := fun i h => tkG_ok hs i h
  have HLN : Hid ((tkL s).length ≤ 4000) := by have := (tkL_shape s).2.2; show _ ≤ _; omega
  have HUS : Hid (∀ i, (choUp (tkG s) (i + 1)) = ((choUp (tkG s) i).1 ++ tokCh (choUp (tkG s) i).2 (tkG s i), (tkG s i).k)) := fun i => rfl
  have HUL : Hid (∀ i, (choUp (tkG s) i).1.length ≤ 19 * i) := fun i => choUp_len _ i
  have HU0 : Hid (choUp (tkG s) 0 = ([], 0)) := rfl
  have HFG : Hid (∀ i, tkF s i = tkI (tkG s i)) := fun i => tkF_G s i
  have HAR : Hid (∀ w B v, w.ownsRow B 106 4 v (tkL s).length (tkC (tkL s)) → TkArg w v (tkL s).length (tkF s)) := fun w B v h => own_arg h
  unfold choS
  generalize (tkL s).length = N at *
  generalize tkC (tkL s) = xs at *
  generalize tkF s = FI at *
  generalize hU : choUp (tkG s) = U at *
  clear hU
  generalize tkG s = G at *
  go_enter Try.func52, Try.ntmps52
  go_wp2_with fail
  refine (HT.out _).mono ?_
  rintro e w1 ⟨⟨tv, rfl, ho⟩, hb1⟩
  have HTA : Hid (TkArg w1 tv N FI) := HAR.out _ _ _ ho
  have HB1 : Hid (Below w.heap.size w w1) := hb1
  obtain ⟨B, hB⟩ : ∃ B, B = w1.heap.size := ⟨_, rfl⟩
  have HBE : Hid (B = w1.heap.size) := hB
  obtain ⟨ta, tc, rfl, _⟩ := HTA.out
  have HO0 : Hid ((w1.alloc (.cells #[] 108)).ownsRow B 108 2 (.slice (some ⟨w1.heap.size, 0, none⟩) 0 0) 0 (cC [])) := World.ownsRow_made w1 #[] 0 (by omega) (by unfold maxLen; omega) rfl
  clear ho hb1 HT HAR
  go_wp2_with fail
  go_loopw [6, 7, 8] (fun x la ix wr => ∃ (gu cu i : Nat), x = .slice (some ⟨gu, 0, none⟩) (U i).1.length cu ∧ la = .int .i64 ((U i).2 : Int) ∧ ix = .int .i64 (i : Int) ∧ i ≤ N ∧ Hid (wr.ownsRow B 108 2 (.slice (some ⟨gu, 0, none⟩) (U i).1.length cu) (U i).1.length (cC (U i).1)) ∧ Hid (Below B w1 wr)) (fun _ _ ix _ => N - (cIntOf ix).toNat)
  case atStart => exact ⟨w1.heap.size, 0, 0, by rw [HU0.out]; rfl, by rw [HU0.out]; rfl, rfl, Nat.zero_le _, by rw [HU0.out]; exact HO0, by rw [hB]; exact (Below.refl _ w1).alloc (Nat.le_refl _) _⟩
  case round =>
    clear HO0 hB
    obtain ⟨gu, cu, i, rfl, rfl, rfl, hi, HO, HB⟩ := hrel
    have hN4 := HLN.out
    by_cases hlt : i < N
    · have hltI : (i : Int) < (N : Int) := by omega
      have hbw : Below w1.heap.size w1 wr := by have := HB.out; rw [HBE.out] at this; exact this
      obtain ⟨a', c', e1, hr⟩ := HTA.out.below hbw
      cases e1
      obtain ⟨g, rfl, hrow⟩ := hr (by omega)
      obtain ⟨q, hq⟩ : ∃ q, q = 4 * i := ⟨_, rfl⟩
      have hiq : i * 4 = q := by omega
      have x0 := hrow.c0 i hlt
      have x1 := hrow.c1 i hlt
      have x2 := hrow.c2 i hlt
      have x3 := hrow.c3 i hlt
      rw [← hq, HFG.out i] at x0 x1 x2 x3
      have hok := HOK.out i hlt
      have hul := HUL.out i
      have HUN := HUS.out i
      have HUNX : Hid _ := HUN
      clear hbw hrow hq hr HUN
      generalize G i = t at x0 x1 x2 x3 hok HUNX
      obtain ⟨tk, tb, td, tl⟩ := t
      simp only [tkI] at x0 x1 x2 x3
      obtain ⟨la, hla⟩ : ∃ la, la = (U i).2 := ⟨_, rfl⟩
      obtain ⟨M, hM⟩ : ∃ M, M = (U i).1 := ⟨_, rfl⟩
      rw [← hla, ← hM] at HUNX
      rw [← hla, ← hM]
      rw [← hM] at HO hul
      clear hla hM
      have HSN : Hid (cC (M ++ [(la, tk)]) = cC M ++ [.int .i64 (la : Int), .int .i64 (tk : Int)]) := cC_snoc _ _ _
      have hBl : B ≤ wr.heap.size := by have := HB.out.size; have := HBE.out; omega
      obtain ⟨bx, hbx⟩ : ∃ bx, bx = wr.heap.size := ⟨_, rfl⟩
      have HO1 : Hid ((wr.alloc (.cells #[.int .i64 (tk : Int), .int .i64 (tb : Int), .int .i64 (td : Int), .int .i64 (tl : Int)] 106)).ownsRow B 108 2 (.slice (some ⟨gu, 0, none⟩) M.length cu) M.length (cC M)) := HO.out.alloc _
      have HBB1 : Hid (Below B w1 (wr.alloc (.cells #[.int .i64 (tk : Int), .int .i64 (tb : Int), .int .i64 (td : Int), .int .i64 (tl : Int)] 106)) ∧ B ≤ (wr.alloc (.cells #[.int .i64 (tk : Int), .int .i64 (tb : Int), .int .i64 (td : Int), .int .i64 (tl : Int)] 106)).heap.size ∧ gu ≠ bx ∧ bx < (wr.alloc (.cells #[.int .i64 (tk : Int), .int .i64 (tb : Int), .int .i64 (td : Int), .int .i64 (tl : Int)] 106)).heap.size ∧ gu < bx) := by
        have hl := (HO.out.lt gu rfl).2
        refine ⟨HB.out.alloc hBl _, by simp; omega, by omega, by rw [hbx]; simp, by omega⟩
      have HBX1 : Hid ((wr.alloc (.cells #[.int .i64 (tk : Int), .int .i64 (tb : Int), .int .i64 (td : Int), .int .i64 (tl : Int)] 106)).heap[bx]? = some (.cells #[.int .i64 (tk : Int), .int .i64 (tb : Int), .int .i64 (td : Int), .int .i64 (tl : Int)] 106 (0, 0))) := by rw [hbx]; exact heap_alloc_new _ _
      have k0 : (wr.alloc (.cells #[.int .i64 (tk : Int), .int .i64 (tb : Int), .int .i64 (td : Int), .int .i64 (tl : Int)] 106)).cell? ⟨wr.heap.size, 0, none⟩ = some (.int .i64 (tk : Int)) := cell_of_row _ _ _ _ _ _ (heap_alloc_new _ _)
      have HBXE : Hid (wr.heap.size = bx) := hbx.symm
      have hN2 : ∀ (x y : Value) (j : Nat) (u : Value), [x, y][j]? = some u → ((wr.alloc (.cells #[.int .i64 (tk : Int), .int .i64 (tb : Int), .int .i64 (td : Int), .int .i64 (tl : Int)] 106)).alloc (.cells #[x, y] 108)).cell? ((⟨wr.heap.size + 1, 0, none⟩ : Addr).add j) = some u := fun x y j u hj => by
        have h := cell_two (w := (wr.alloc (.cells #[.int .i64 (tk : Int), .int .i64 (tb : Int), .int .i64 (td : Int), .int .i64 (tl : Int)] 106))) (t := 108) j u hj
        simpa using h
      clear HO HB hbx
      go_wp2_with (at_builtin; refine wpList_append_fr _ rfl _ _ 78 rfl B 108 i0 (.agg #[.int .i64 0, .int .i64 0]) 2 16 Try.underlying78 hi0 hz0 hz1 hz2 rfl (by decide) gu cu M.length _ rfl (HO1.out.alloc _) ⟨wr.heap.size + 1, 0, none⟩ 1 1 [_, _] rfl rfl (hN2 _ _) ?c2 ?c3 ?c4 ?c5 ?_)
      case c2 => first | exact ⟨rfl, rfl⟩ | (intro u hu; simp at hu; rcases hu with rfl | rfl <;> rfl)
      case c3 => unfold maxLen; omega
      case c4 => omega
      case c5 => first | omega | (simp; omega)
      intro g3 c3 w3 hown' hgrow hg3
      obtain ⟨M3, hM3⟩ : ∃ X, X = M ++ [(la, tk)] := ⟨_, rfl⟩
      have HM3 : Hid (M3 = M ++ [(la, tk)]) := hM3
      have HL3 : Hid (M3.length = M.length + 1) := by show _ = _; rw [hM3]; simp
      have HO3 : Hid (w3.ownsRow B 108 2 (.slice (some ⟨g3, 0, none⟩) M3.length c3) M3.length (cC M3)) := by rw [hM3, HSN.out, List.length_append]; exact hown'
      have HB3 : Hid (Below B w1 w3 ∧ B ≤ w3.heap.size ∧ g3 ≠ bx ∧ bx < w3.heap.size) := by
        have hs := hgrow.size
        have h1 := HBB1.out.2.1
        have h2 := HBB1.out.2.2.1
        have h3 := HBB1.out.2.2.2.1
        have h4 := HO1.out.lt gu rfl
        simp only [World.size_alloc] at hs h1 h3
        refine ⟨(HBB1.out.1.alloc (by simp; omega) _).grown hgrow (by simp; omega) (fun k hk => by have := Option.some.inj hk; omega), by omega, ?_, by omega⟩
        rcases hg3 with h | h
        · omega
        · have h' : wr.heap.size + 1 + 1 ≤ g3 := by simpa using h
          omega
      have HBX3 : Hid (w3.heap[bx]? = some (.cells #[.int .i64 (tk : Int), .int .i64 (tb : Int), .int .i64 (td : Int), .int .i64 (tl : Int)] 106 (0, 0))) := (hgrow.block bx (by have := HBB1.out.2.2.2.1; simp only [World.size_alloc] at this ⊢; omega) (by intro e; exact HBB1.out.2.2.1 (Option.some.inj e).symm)).trans ((Below.heap_alloc _ _ _ HBB1.out.2.2.2.1).trans HBX1.out)
      rw [← HL3.out]
      have hl3 : M3.length ≤ 19 * i + 1 := by have := HL3.out; omega
      clear hM3 hown' hgrow hg3 HO1 HBB1 HBX1 k0 hN2 x0 x1 x2 x3 HSN
      rw [HBXE.out]
      obtain ⟨BR, hBR⟩ : ∃ BR : Array Value, BR = #[.int .i64 (tk : Int), .int .i64 (tb : Int), .int .i64 (td : Int), .int .i64 (tl : Int)] := ⟨_, rfl⟩
      have HBR : Hid (BR[2]? = some (.int .i64 (td : Int))) := by show _ = _; rw [hBR]; rfl
      have m0 : w3.cell? ⟨bx, 0, none⟩ = some (.int .i64 (tk : Int)) := cell_of_row _ _ _ _ _ _ HBX3.out
      have m1 : w3.cell? ⟨bx, 1, none⟩ = some (.int .i64 (tb : Int)) := cell_of_row _ _ _ _ _ _ HBX3.out
      have m3 : w3.cell? ⟨bx, 3, none⟩ = some (.int .i64 (tl : Int)) := cell_of_row _ _ _ _ _ _ HBX3.out
      rw [← hBR] at HBX3
      clear hBR
      rcases hok with ⟨h1, h2⟩ | ⟨h1, h2, h3, h4, h5⟩
      · simp only at h1 h2
        subst h1
        clear HBXE
        go_wp2_with fail
        obtain ⟨M4, hE4⟩ : ∃ X, X = M3 ++ treeL 1 tb 8 1 := ⟨_, rfl⟩
        have HE4 : Hid (M4 = M3 ++ treeL 1 tb 8 1) := hE4
        have hL4 : M4.length = M3.length + 8 := by rw [hE4, List.length_append, treeL_len]
        clear hE4
        refine (HTR.out B g3 c3 (M3) 1 8 (tb) 1 8 M4 w3 rfl rfl HE4.out (by omega) (by omega) (by omega) (by omega) HO3.out HB3.out.2.1).mono ?_
        rintro e w4 ⟨⟨g4, c4, rfl, ho4, hg4⟩, hgr4⟩
        have HO4 : Hid (w4.ownsRow B 108 2 (.slice (some ⟨g4, 0, none⟩) (M4).length c4) (M4).length (cC (M4))) := ho4
        have HB4 : Hid (Below B w1 w4 ∧ B ≤ w4.heap.size ∧ g4 ≠ bx ∧ bx < w4.heap.size) := by
          have hs := hgr4.size
          have h1 := HB3.out.2.1
          have h2 := HB3.out.2.2.1
          have h3 := HB3.out.2.2.2
          have h4 := HO3.out.lt g3 rfl
          exact ⟨HB3.out.1.grown hgr4 h1 (fun k hk => by have := Option.some.inj hk; omega), by omega, by rcases hg4 with h | h <;> omega, by omega⟩
        have HBX4 : Hid (w4.heap[bx]? = some (.cells BR 106 (0, 0))) := (hgr4.block bx HB3.out.2.2.2 (by intro e; exact HB3.out.2.2.1 (Option.some.inj e).symm)).trans HBX3.out
        have HL4 : Hid (M4.length = M3.length + 8) := hL4
        clear ho4 hg4 hgr4 HO3 HB3 HBX3 hL4
        have HU : Hid (U (i + 1) = (M4, 0)) := by show _ = _; rw [HUNX.out, HE4.out, HM3.out]; simp [tokCh]
        go_wp2_with fail
        go_roundw
        case rel => exact ⟨g4, c4, i + 1, by rw [HU.out], by rw [HU.out]; rfl, by go_num, by omega, by rw [HU.out]; exact HO4, HB4.out.1⟩
        case measure => simp [cIntOf]; omega
      · simp only at h1 h2 h3 h4 h5
        subst h1
        clear HBXE
        obtain ⟨lv, hlv⟩ : ∃ lv, lv = tl - 3 := ⟨_, rfl⟩
        have e1 : (tl : Int) - 3 = (lv : Int) := by omega
        have e1w : IntKind.i64.wrap ((tl : Int) - 3) = (lv : Int) := by rw [IntKind.wrap_i64]; omega
        obtain ⟨dv, hdv⟩ : ∃ dv, dv = td - 1 := ⟨_, rfl⟩
        have e2 : (td : Int) - 1 = (dv : Int) := by omega
        have e2w : IntKind.i64.wrap ((td : Int) - 1) = (dv : Int) := by rw [IntKind.wrap_i64]; omega
        obtain ⟨fv, hfv⟩ : ∃ fv, fv = dv / 64 := ⟨_, rfl⟩
        obtain ⟨nv, hnv⟩ : ∃ nv, nv = dv % 64 := ⟨_, rfl⟩
        have e3 : Int.tdiv (dv : Int) 64 = (fv : Int) := by rw [Int.tdiv_eq_ediv_of_nonneg (by omega)]; omega
        have e3w : IntKind.i64.wrap (fv : Int) = (fv : Int) := by rw [IntKind.wrap_i64]; omega
        have e4 : Int.tmod (dv : Int) 64 = (nv : Int) := by rw [Int.tmod_eq_emod_of_nonneg (by omega)]; omega
        have hlv2 : lv < 64 := by omega
        have hfv2 : fv < 64 := by omega
        have hnv2 : nv < 64 := by omega
        have HU : Hid (U (i + 1) = (M3 ++ treeL 260 lv 6 1 ++ treeL 330 fv 6 1 ++ treeL 400 nv 6 1, 1)) := by show _ = _; rw [HUNX.out, HM3.out]; simp [tokCh, hlv, hfv, hnv, hdv]
        clear hlv hdv hfv hnv HUNX
        go_wp2_with fail
        obtain ⟨M4, hE4⟩ : ∃ X, X = M3 ++ treeL 260 lv 6 1 := ⟨_, rfl⟩
        have HE4 : Hid (M4 = M3 ++ treeL 260 lv 6 1) := hE4
        have hL4 : M4.length = M3.length + 6 := by rw [hE4, List.length_append, treeL_len]
        clear hE4
        refine (HTR.out B g3 c3 (M3) 260 6 (lv) 260 6 M4 w3 rfl rfl HE4.out (by omega) (by omega) (by omega) (by omega) HO3.out HB3.out.2.1).mono ?_
        rintro e w4 ⟨⟨g4, c4, rfl, ho4, hg4⟩, hgr4⟩
        have HO4 : Hid (w4.ownsRow B 108 2 (.slice (some ⟨g4, 0, none⟩) (M4).length c4) (M4).length (cC (M4))) := ho4
        have HB4 : Hid (Below B w1 w4 ∧ B ≤ w4.heap.size ∧ g4 ≠ bx ∧ bx < w4.heap.size) := by
          have hs := hgr4.size
          have h1 := HB3.out.2.1
          have h2 := HB3.out.2.2.1
          have h3 := HB3.out.2.2.2
          have h4 := HO3.out.lt g3 rfl
          exact ⟨HB3.out.1.grown hgr4 h1 (fun k hk => by have := Option.some.inj hk; omega), by omega, by rcases hg4 with h | h <;> omega, by omega⟩
        have HBX4 : Hid (w4.heap[bx]? = some (.cells BR 106 (0, 0))) := (hgr4.block bx HB3.out.2.2.2 (by intro e; exact HB3.out.2.2.1 (Option.some.inj e).symm)).trans HBX3.out
        have HL4 : Hid (M4.length = M3.length + 6) := hL4
        clear ho4 hg4 hgr4 HO3 HB3 HBX3 hL4
        have hl4 : M4.length ≤ 19 * i + 7 := by have := HL4.out; omega
        have m2 : w4.cell? ⟨bx, 2, none⟩ = some (.int .i64 (td : Int)) := (cell_of_row _ _ _ _ _ _ HBX4.out).trans HBR.out
        go_wp2_with fail
        obtain ⟨M5, hE5⟩ : ∃ X, X = M4 ++ treeL 330 fv 6 1 := ⟨_, rfl⟩
        have HE5 : Hid (M5 = M4 ++ treeL 330 fv 6 1) := hE5
        have hL5 : M5.length = M4.length + 6 := by rw [hE5, List.length_append, treeL_len]
        clear hE5
        refine (HTR.out B g4 c4 (M4) 330 6 (fv) 330 6 M5 w4 rfl rfl HE5.out (by omega) (by omega) (by omega) (by omega) HO4.out HB4.out.2.1).mono ?_
        rintro e w5 ⟨⟨g5, c5, rfl, ho5, hg5⟩, hgr5⟩
        have HO5 : Hid (w5.ownsRow B 108 2 (.slice (some ⟨g5, 0, none⟩) (M5).length c5) (M5).length (cC (M5))) := ho5
        have HB5 : Hid (Below B w1 w5 ∧ B ≤ w5.heap.size ∧ g5 ≠ bx ∧ bx < w5.heap.size) := by
          have hs := hgr5.size
          have h1 := HB4.out.2.1
          have h2 := HB4.out.2.2.1
          have h3 := HB4.out.2.2.2
          have h4 := HO4.out.lt g4 rfl
          exact ⟨HB4.out.1.grown hgr5 h1 (fun k hk => by have := Option.some.inj hk; omega), by omega, by rcases hg5 with h | h <;> omega, by omega⟩
        have HBX5 : Hid (w5.heap[bx]? = some (.cells BR 106 (0, 0))) := (hgr5.block bx HB4.out.2.2.2 (by intro e; exact HB4.out.2.2.1 (Option.some.inj e).symm)).trans HBX4.out
        have HL5 : Hid (M5.length = M4.length + 6) := hL5
        clear ho5 hg5 hgr5 HO4 HB4 HBX4 hL5
        have hl5 : M5.length ≤ 19 * i + 13 := by have := HL5.out; omega
        have m2 : w5.cell? ⟨bx, 2, none⟩ = some (.int .i64 (td : Int)) := (cell_of_row _ _ _ _ _ _ HBX5.out).trans HBR.out
        go_wp2_with fail
        obtain ⟨M6, hE6⟩ : ∃ X, X = M5 ++ treeL 400 nv 6 1 := ⟨_, rfl⟩
        have HE6 : Hid (M6 = M5 ++ treeL 400 nv 6 1) := hE6
        have hL6 : M6.length = M5.length + 6 := by rw [hE6, List.length_append, treeL_len]
        clear hE6
        refine (HTR.out B g5 c5 (M5) 400 6 (nv) 400 6 M6 w5 rfl rfl HE6.out (by omega) (by omega) (by omega) (by omega) HO5.out HB5.out.2.1).mono ?_
        rintro e w6 ⟨⟨g6, c6, rfl, ho6, hg6⟩, hgr6⟩
        have HO6 : Hid (w6.ownsRow B 108 2 (.slice (some ⟨g6, 0, none⟩) (M6).length c6) (M6).length (cC (M6))) := ho6
        have HB6 : Hid (Below B w1 w6 ∧ B ≤ w6.heap.size ∧ g6 ≠ bx ∧ bx < w6.heap.size) := by
          have hs := hgr6.size
          have h1 := HB5.out.2.1
          have h2 := HB5.out.2.2.1
          have h3 := HB5.out.2.2.2
          have h4 := HO5.out.lt g5 rfl
          exact ⟨HB5.out.1.grown hgr6 h1 (fun k hk => by have := Option.some.inj hk; omega), by omega, by rcases hg6 with h | h <;> omega, by omega⟩
        have HBX6 : Hid (w6.heap[bx]? = some (.cells BR 106 (0, 0))) := (hgr6.block bx HB5.out.2.2.2 (by intro e; exact HB5.out.2.2.1 (Option.some.inj e).symm)).trans HBX5.out
        have HL6 : Hid (M6.length = M5.length + 6) := hL6
        clear ho6 hg6 hgr6 HO5 HB5 HBX5 hL6
        have HU6 : Hid (U (i + 1) = (M6, 1)) := by show _ = _; rw [HU.out, HE6.out, HE5.out, HE4.out]
        go_wp2_with fail
        go_roundw
        case rel => exact ⟨g6, c6, i + 1, by rw [HU6.out], by rw [HU6.out]; rfl, by go_num, by omega, by rw [HU6.out]; exact HO6, HB6.out.1⟩
        case measure => simp [cIntOf]; omega
    · obtain rfl : i = N := by omega
      have HF : Hid (wr.ownsRow w.heap.size 108 2 (.slice (some ⟨gu, 0, none⟩) (U i).1.length cu) (U i).1.length (cC (U i).1) ∧ Below w.heap.size w wr) := by
        have h1 := HB1.out
        have h2 := HBE.out
        exact ⟨owns_lower HO.out (by have := h1.size; omega), bl3c h1 HB.out (by have := h1.size; omega)⟩
      clear HO HB
      go_wp2_with fail
      go_ret2
      exact ⟨⟨_, rfl, HF.out.1⟩, HF.out.2⟩
end Go.Proofs.Ytbkjcngehhdchaa
