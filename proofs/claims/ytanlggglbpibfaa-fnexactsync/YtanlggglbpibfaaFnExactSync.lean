/-
  Sync of the code answers as the model does: at every disk.
-/
import Derived.Test.YtanlggglbpibfaaRows
import Derived.Test.YtanlggglbpibfaaFsY
import Derived.Test.YtanlggglbpibfaaFlR
import Derived.Test.YtanlggglbpibfaaDqR
import Derived.WalkKit
import Derived.ProofKit
import Derived.OpenShut
import Derived.ShutString
import Derived.ChangeOld
import Derived.Below
import Derived.Lib.SmallJoins
import Derived.Deep.Strs
import Derived.Deep.Slices
namespace Go.Proofs.Ytanlggglbpibfaa.fnExactSync
open Go.ChangeShapes Go.WideShapes Go.ChangeAt Go.RowKit
open Go.ChangeMaps (open_string shut_string)
set_option linter.unusedVariables false
set_option linter.unusedSimpArgs false

theorem own : ownKnob Try.prog.godebug = none := by kernel_rfl
theorem laidOut : laidOutB Try.prog = true := by kernel_rfl
structure SyW (w W : World) (bk gw gx gg : Nat) (a b c p1 p2 p3 x1 x2 x3 g1 g2 g3 : Value) (Y : List FlI) : Prop where
  bel : Below w.heap.size w W
  rb : W.heap[bk]? = some (.cells #[a, b, c] 50 (0, 0))
  rw_ : W.heap[gw]? = some (.cells #[p1, p2, p3] 27 (0, 0))
  rx : W.heap[gx]? = some (.cells #[x1, x2, x3] 27 (0, 0))
  rg : W.heap[gg]? = some (.cells #[g1, g2, g3] 27 (0, 0))
  p : FlV W p1 Y ∧ FlV W p2 Y ∧ DqV W p3 []
theorem SyW.below {w W W' : World} {bk gw gx gg : Nat} {a b c p1 p2 p3 x1 x2 x3 g1 g2 g3 : Value} {Y : List FlI} (h : SyW w W bk gw gx gg a b c p1 p2 p3 x1 x2 x3 g1 g2 g3 Y) (hb : Below W.heap.size W W') : SyW w W' bk gw gx gg a b c p1 p2 p3 x1 x2 x3 g1 g2 g3 Y :=
  ⟨blFl h.bel hb h.bel.size, (hb.block _ (Array.getElem?_eq_some_iff.1 h.rb).1).trans h.rb, (hb.block _ (Array.getElem?_eq_some_iff.1 h.rw_).1).trans h.rw_, (hb.block _ (Array.getElem?_eq_some_iff.1 h.rx).1).trans h.rx, (hb.block _ (Array.getElem?_eq_some_iff.1 h.rg).1).trans h.rg, h.p.1.below hb, h.p.2.1.below hb, h.p.2.2.below hb⟩
theorem flv_lt {w : World} {v : Value} {L : List FlI} (h : FlV w v L) {g : Nat} (hg : v.ownBlock = some g) : g < w.heap.size := by
  rcases h with ⟨rfl, _⟩ | ⟨k, c, rfl, hr⟩
  · cases hg
  · cases hg; exact hr.lt
theorem dqv_lt {w : World} {v : Value} {L : List DqI} (h : DqV w v L) {g : Nat} (hg : v.ownBlock = some g) : g < w.heap.size := by
  rcases h with ⟨rfl, _⟩ | ⟨k, c, rfl, hr⟩
  · cases hg
  · cases hg; exact hr.lt
theorem SyW.frp {w W W' : World} {bk gw gx gg : Nat} {a b c p1 p2 p3 x1 x2 x3 g1 g2 g3 : Value} {Y : List FlI} {P : Nat → Prop} (h : SyW w W bk gw gx gg a b c p1 p2 p3 x1 x2 x3 g1 g2 g3 Y) (hf : FrP W W' P) (hP : ∀ j, P j → w.heap.size ≤ j) (h1 : ¬ P bk) (h2 : ¬ P gw) (h3 : ¬ P gx) (h4 : ¬ P gg) (hp : ∀ j, p1.ownBlock = some j ∨ p2.ownBlock = some j ∨ p3.ownBlock = some j → ¬ P j) : SyW w W' bk gw gx gg a b c p1 p2 p3 x1 x2 x3 g1 g2 g3 Y := by
  refine ⟨⟨hf.os.trans h.bel.os, hf.tape.trans h.bel.tape, hf.output.trans h.bel.output, Nat.le_trans h.bel.size hf.size, fun j hj => (hf.block j (Nat.lt_of_lt_of_le hj h.bel.size) (fun c => by have := hP j c; omega)).trans (h.bel.block j hj)⟩, (hf.block _ (Array.getElem?_eq_some_iff.1 h.rb).1 h1).trans h.rb, (hf.block _ (Array.getElem?_eq_some_iff.1 h.rw_).1 h2).trans h.rw_, (hf.block _ (Array.getElem?_eq_some_iff.1 h.rx).1 h3).trans h.rx, (hf.block _ (Array.getElem?_eq_some_iff.1 h.rg).1 h4).trans h.rg, h.p.1.keep fun g hg => hf.block g (flv_lt h.p.1 hg) (hp g (Or.inl hg)), h.p.2.1.keep fun g hg => hf.block g (flv_lt h.p.2.1 hg) (hp g (Or.inr (Or.inl hg))), h.p.2.2.keep fun g hg => hf.block g (dqv_lt h.p.2.2 hg) (hp g (Or.inr (Or.inr hg)))⟩
theorem rwf_own {w : World} {B : Nat} {v : Value} {L : List FlI} (h : w.ownsRow B 88 2 v L.length (flC L)) : RwF w v L.length := by
  obtain ⟨a, c, e⟩ := ownF_slice h
  exact ⟨a, c, e, fun h0 => by obtain ⟨g, cap, cur, h1, h2, h3, h4, _⟩ := ownF_form h h0; rw [e] at h1; cases h1; exact ⟨g, cur, rfl, h3, h4⟩⟩
theorem rwq_own {w : World} {B : Nat} {v : Value} {L : List DqI} (h : w.ownsRow B 36 4 v L.length (dqC L)) : RwQ w v L.length := by
  obtain ⟨a, c, e⟩ := ownQ_slice h
  exact ⟨a, c, e, fun h0 => by obtain ⟨g, cap, cur, h1, h2, h3, h4, _⟩ := ownQ_form h h0; rw [e] at h1; cases h1; exact ⟨g, cur, rfl, h3, h4⟩⟩
theorem mkf_below {w w' : World} {v : Value} {n k : Nat} (h : MkF w v n k) (hw : Below w.heap.size w w') : MkF w' v n k := by
  obtain ⟨p, c, rfl, h⟩ := h
  exact ⟨p, c, rfl, fun h0 => by obtain ⟨g, rfl, h2, h3⟩ := h h0; exact ⟨g, rfl, Nat.lt_of_lt_of_le h2 hw.size, h3.below hw h2⟩⟩
theorem syL_few (L S : List FlI) (O : List DqI) : (syL L S O).length ≤ 60 := by
  by_cases h : diskP L S O
  · rw [syL_yes h]; exact h.live.len
  · rw [syL_no h]; simp
set_option maxRecDepth 100000 in
set_option maxHeartbeats 2000000 in
theorem walk (a b c : Value) (n m k : Nat) (F G : Nat → FlI) (O : Nat → DqI) (w : World) (hn : n ≤ maxLen) (hm : m ≤ maxLen) (hk : k ≤ maxLen) (d1 : ∀ i, i < n → (F i).a.size ≤ maxLen ∧ (F i).d.size ≤ maxLen) (d2 : ∀ i, i < m → (G i).a.size ≤ maxLen ∧ (G i).d.size ≤ maxLen) (d3 : ∀ i, i < k → (O i).a.size ≤ maxLen ∧ (O i).p.size ≤ maxLen ∧ (O i).d.size ≤ maxLen) (h1 : FlIn w a n F) (h2 : FlIn w b m G) (h3 : DqIn w c k O) :
    Calls Try.prog 8 #[.agg #[a, b, c]] w fun e w' => e = .returned (.bool true) ∧ Below w.heap.size w w' := by
  have HSZ : Hid (∀ w', Below w.heap.size w w' → Calls Try.prog 26 #[.agg #[a, b, c], .int .i64 1048576] w' fun e w'' => (∃ z, e = .returned (.int .i64 z) ∧ (0 ≤ z → z = ((1048576 - (n + flTot F n) - (m + flTot G m) - (k + dqTot O k) : Nat) : Int) ∧ (n + flTot F n) + (m + flTot G m) + (k + dqTot O k) ≤ 1048576)) ∧ Below w'.heap.size w' w'') := fun w' hb => szDk_any a b c n m k 1048576 F G O w' (Nat.le_refl _) hn hm hk d1 d2 d3 (h1.below hb) (h2.below hb) (h3.below hb)
  have HIN : Hid (∀ w', Below w.heap.size w w' → FlIn w' a n F ∧ FlIn w' b m G ∧ DqIn w' c k O) := fun w' hb => ⟨h1.below hb, h2.below hb, h3.below hb⟩
  clear hn hm hk d1 d2 d3 h1 h2 h3
  have HB1 : Hid (Below w.heap.size w (w.alloc (.cells #[a, b, c] 50))) := (Below.refl _ _).alloc (Nat.le_refl _) _
  have HX1 : Hid ((w.alloc (.cells #[a, b, c] 50)).heap[w.heap.size]? = some (.cells #[a, b, c] 50 (0, 0))) := heap_alloc_new w _
  have hi : Option.map (·.size) (Try.prog.info? 50) = some 3 := by kernel_rfl
  go_enter Try.func8, Try.ntmps8
  go_wp2_with fail
  refine (HSZ.out _ HB1.out).mono ?_
  rintro e w2 ⟨⟨z, rfl, hz⟩, hb2⟩
  have HX2 : Hid (w2.heap[w.heap.size]? = some (.cells #[a, b, c] 50 (0, 0))) := (hb2.block _ (Array.getElem?_eq_some_iff.1 HX1.out).1).trans HX1.out
  have HB2 := hidF (blFl HB1.out hb2 HB1.out.size)
  clear hb2 HB1 HX1 HSZ
  by_cases hz0 : z < 0
  · clear hz
    go_wp2_with fail
    go_ret
    exact ⟨rfl, HB2.out⟩
  have hzz := (hz (by omega)).2
  clear hz
  have hn : n ≤ 1048576 := by omega
  have hm : m ≤ 1048576 := by omega
  have hk : k ≤ 1048576 := by omega
  have HTO : Hid (∀ w', Below w.heap.size w w' → Calls Try.prog 27 #[.agg #[a, b, c]] w' fun e w'' => (∃ x y z, e = .returned (.agg #[x, y, z]) ∧ DkX w'.heap.size w'' x y z n m k (flM n F) (flM m G) (dqM k O)) ∧ Below w'.heap.size w' w'') := fun w' hb => toDkX_any a b c n m k F G O w' hn hm hk (HIN.out w' hb).1 (HIN.out w' hb).2.1 (HIN.out w' hb).2.2
  have HSP : Hid (∀ w' x y z, FlV w' x (flM n F) ∧ FlV w' y (flM m G) ∧ DqV w' z (dqM k O) → Calls Try.prog 33 #[.agg #[x, y, z]] w' fun e w'' => (∃ a b c, e = .returned (.agg #[a, b, c]) ∧ FlV w'' a (syL (flM n F) (flM m G) (dqM k O)) ∧ FlV w'' b (syL (flM n F) (flM m G) (dqM k O)) ∧ DqV w'' c []) ∧ Below w'.heap.size w' w'') := fun w' x y z h => ssync15_any x y z _ _ _ w' (flM_le (by omega)) (flM_le (by omega)) (dqM_le (by omega)) h.1 h.2.1 h.2.2
  have HIM : Hid (∀ w' x y z, FlV w' x (flM n F) ∧ FlV w' y (flM m G) ∧ DqV w' z (dqM k O) → Calls Try.prog 17 #[.agg #[x, y, z]] w' fun e w'' => DkO w'.heap.size w' e w'' (syL (flM n F) (flM m G) (dqM k O)) (syL (flM n F) (flM m G) (dqM k O)) [] ∧ Below w'.heap.size w' w'') := fun w' x y z h => sync15_any x y z _ _ _ w' (flM_le (by omega)) (flM_le (by omega)) (dqM_le (by omega)) h.1 h.2.1 h.2.2
  have HYL : Hid ((syL (flM n F) (flM m G) (dqM k O)).length ≤ 60) := syL_few _ _ _
  have HEQ : Hid (∀ w' u v, DkV w' u (flM n F) (flM m G) (dqM k O) → DkV w' v (flM n F) (flM m G) (dqM k O) → Calls Try.prog 28 #[u, v] w' fun e w'' => e = .returned (.bool true) ∧ Below w'.heap.size w' w'') := fun w' u v h h' => eqDk_any u v n m k F G O w' hn hm hk h h'
  have HNM : Hid (n ≤ 1048576 ∧ m ≤ 1048576 ∧ k ≤ 1048576 ∧ n + m + k ≤ 1048576) := ⟨hn, hm, hk, by omega⟩
  generalize flM n F = L at HTO HSP HIM HEQ HYL
  generalize flM m G = S at HTO HSP HIM HEQ HYL
  generalize dqM k O = Q at HTO HSP HIM HEQ HYL
  generalize syL L S Q = Y at HSP HIM HYL
  have HEY : Hid (∀ w' a b c d e f, FlV w' a Y ∧ FlV w' b Y ∧ DqV w' c [] → FlV w' d Y ∧ FlV w' e Y ∧ DqV w' f [] → Calls Try.prog 28 #[.agg #[a, b, c], .agg #[d, e, f]] w' fun e w'' => e = .returned (.bool true) ∧ Below w'.heap.size w' w'') := fun w' a b c d e f h h' => eqDl_any _ _ Y Y [] w' (by have := HYL.out; omega) (by have := HYL.out; omega) (by simp) ⟨_, _, _, rfl, h⟩ ⟨_, _, _, rfl, h'⟩
  clear hzz hn hm hk HIN
  have hj : Option.map (·.size) (Try.prog.info? 27) = some 3 := by kernel_rfl
  go_wp2_with (refine wpList_load_row rfl 50 _ rfl (w.heap.size) rfl 50 #[a, b, c] (0, 0) _ HX2.out Try.underlying50 rfl hi ?_)
  refine (HTO.out _ HB2.out).mono ?_
  rintro e w3 ⟨⟨xa, xb, xc, rfl, hv3⟩, hb3⟩
  have HX3 := hidF ((hb3.block _ (Array.getElem?_eq_some_iff.1 HX2.out).1).trans HX2.out)
  have HB3 := hidF (blFl HB2.out hb3 HB2.out.size)
  clear hb3 HB2 HX2
  go_wp2_with fail
  refine (HSP.out _ _ _ _ ⟨hv3.va, hv3.vb, hv3.vc⟩).mono ?_
  rintro e w4 ⟨⟨p1, p2, p3, rfl, q1, q2, q3⟩, hb4⟩
  obtain ⟨u1, v1, rfl⟩ := q1.slice
  obtain ⟨u2, v2, rfl⟩ := q2.slice
  obtain ⟨u3, v3, rfl⟩ := q3.slice
  have HX4 := hidF ((hb4.block _ (Array.getElem?_eq_some_iff.1 HX3.out).1).trans HX3.out)
  have HB4 := hidF (blFl HB3.out hb4 HB3.out.size)
  have HP4 := hidF (And.intro q1 (And.intro q2 q3))
  clear hb4 HB3 HX3 hv3 q1 q2 q3
  have HB5 : Hid (Below w4.heap.size w4 (w4.alloc (.cells #[.slice u1 Y.length v1, .slice u2 Y.length v2, .slice u3 ([] : List DqI).length v3] 27))) := (Below.refl _ _).alloc (Nat.le_refl _) _
  have HR5 : Hid ((w4.alloc (.cells #[.slice u1 Y.length v1, .slice u2 Y.length v2, .slice u3 ([] : List DqI).length v3] 27)).heap[w4.heap.size]? = some (.cells #[.slice u1 Y.length v1, .slice u2 Y.length v2, .slice u3 ([] : List DqI).length v3] 27 (0, 0))) := heap_alloc_new w4 _
  have HX5 := hidF ((HB5.out.block _ (Array.getElem?_eq_some_iff.1 HX4.out).1).trans HX4.out)
  have HC5 := hidF (blFl HB4.out HB5.out HB4.out.size)
  have hx5 := HX5.out
  have hto5 := HTO.out _ HC5.out
  have HL4 : Hid (∀ g, (Value.slice u1 Y.length v1).ownBlock = some g ∨ (Value.slice u2 Y.length v2).ownBlock = some g ∨ (Value.slice u3 ([] : List DqI).length v3).ownBlock = some g → g < w4.heap.size) := fun g hg => by
    rcases hg with h | h | h
    · exact flv_lt HP4.out.1 h
    · exact flv_lt HP4.out.2.1 h
    · exact dqv_lt HP4.out.2.2 h
  have HP5 : Hid (FlV (w4.alloc (.cells #[.slice u1 Y.length v1, .slice u2 Y.length v2, .slice u3 ([] : List DqI).length v3] 27)) (.slice u1 Y.length v1) Y ∧ FlV (w4.alloc (.cells #[.slice u1 Y.length v1, .slice u2 Y.length v2, .slice u3 ([] : List DqI).length v3] 27)) (.slice u2 Y.length v2) Y ∧ DqV (w4.alloc (.cells #[.slice u1 Y.length v1, .slice u2 Y.length v2, .slice u3 ([] : List DqI).length v3] 27)) (.slice u3 ([] : List DqI).length v3) []) := ⟨HP4.out.1.below HB5.out, HP4.out.2.1.below HB5.out, HP4.out.2.2.below HB5.out⟩
  have HBG0 : Hid (w.heap.size < w4.heap.size) := (Array.getElem?_eq_some_iff.1 HX4.out).1
  clear HX4 HP4
  go_wp2_with (refine wpList_load_row rfl 50 _ rfl (w.heap.size) rfl 50 #[a, b, c] (0, 0) _ hx5 Try.underlying50 rfl hi ?_)
  clear hx5
  generalize hW5 : w4.alloc (.cells #[.slice u1 Y.length v1, .slice u2 Y.length v2, .slice u3 ([] : List DqI).length v3] 27) = W5 at HR5 HX5 HC5 HP5 hto5 ⊢
  have HS5 : Hid (W5.heap.size = w4.heap.size + 1 ∧ w.heap.size ≤ w4.heap.size) := ⟨by rw [← hW5, World.size_alloc], HB4.out.size⟩
  clear hW5 HB5
  obtain ⟨gw, hgw⟩ : ∃ gw, gw = w4.heap.size := ⟨_, rfl⟩
  rw [← hgw] at HR5 HL4 HS5 HBG0 ⊢
  clear hgw
  refine hto5.mono ?_
  rintro e w6 ⟨⟨x1, x2, x3, rfl, hv6⟩, hb6⟩
  obtain ⟨y1, z1, rfl, _⟩ := hv6.ra.form
  obtain ⟨y2, z2, rfl, _⟩ := hv6.rb.form
  obtain ⟨y3, z3, rfl, _⟩ := hv6.rc.form
  have HV6 := hidF hv6
  have HX6 := hidF ((hb6.block _ (Array.getElem?_eq_some_iff.1 HX5.out).1).trans HX5.out)
  have HR6 := hidF ((hb6.block _ (Array.getElem?_eq_some_iff.1 HR5.out).1).trans HR5.out)
  have HC6 := hidF (blFl HC5.out hb6 HC5.out.size)
  have HP6 := hidF (And.intro (HP5.out.1.below hb6) (And.intro (HP5.out.2.1.below hb6) (HP5.out.2.2.below hb6)))
  clear hv6 hb6 hto5 HX5 HR5 HC5 HP5
  have HB7 : Hid (Below w6.heap.size w6 (w6.alloc (.cells #[.slice y1 n z1, .slice y2 m z2, .slice y3 k z3] 27))) := (Below.refl _ _).alloc (Nat.le_refl _) _
  have HQ7 : Hid ((w6.alloc (.cells #[.slice y1 n z1, .slice y2 m z2, .slice y3 k z3] 27)).heap[w6.heap.size]? = some (.cells #[.slice y1 n z1, .slice y2 m z2, .slice y3 k z3] 27 (0, 0))) := heap_alloc_new w6 _
  have HX7 := hidF ((HB7.out.block _ (Array.getElem?_eq_some_iff.1 HX6.out).1).trans HX6.out)
  have HR7 := hidF ((HB7.out.block _ (Array.getElem?_eq_some_iff.1 HR6.out).1).trans HR6.out)
  have HC7 := hidF (blFl HC6.out HB7.out HC6.out.size)
  have HP7 := hidF (And.intro (HP6.out.1.below HB7.out) (And.intro (HP6.out.2.1.below HB7.out) (HP6.out.2.2.below HB7.out)))
  have HV7 : Hid (DkX W5.heap.size (w6.alloc (.cells #[.slice y1 n z1, .slice y2 m z2, .slice y3 k z3] 27)) (.slice y1 n z1) (.slice y2 m z2) (.slice y3 k z3) n m k L S Q) := ⟨HV6.out.va.below HB7.out, HV6.out.vb.below HB7.out, HV6.out.vc.below HB7.out, HV6.out.ra.keep fun g hg => HB7.out.block g (HV6.out.at_ g (Or.inl hg)).2, HV6.out.rb.keep fun g hg => HB7.out.block g (HV6.out.at_ g (Or.inr (Or.inl hg))).2, HV6.out.rc.keep fun g hg => HB7.out.block g (HV6.out.at_ g (Or.inr (Or.inr hg))).2, fun g hg => ⟨(HV6.out.at_ g hg).1, Nat.lt_of_lt_of_le (HV6.out.at_ g hg).2 HB7.out.size⟩, HV6.out.ab, HV6.out.bc⟩
  have HXL : Hid (∀ g, (Value.slice y1 n z1).ownBlock = some g ∨ (Value.slice y2 m z2).ownBlock = some g ∨ (Value.slice y3 k z3).ownBlock = some g → gw < g ∧ g < w6.heap.size) := fun g hg => ⟨by have := (HV6.out.at_ g hg).1; have := HS5.out.1; omega, (HV6.out.at_ g hg).2⟩
  have him := HIM.out _ _ _ _ ⟨HV7.out.va, HV7.out.vb, HV7.out.vc⟩
  have hq7 := HQ7.out
  have HG6 : Hid (gw < w6.heap.size) := (Array.getElem?_eq_some_iff.1 HR6.out).1
  clear HX6 HR6 HC6 HP6 HV6
  go_wp2_with (refine wpList_load_row rfl 27 _ rfl (w6.heap.size) rfl 27 #[.slice y1 n z1, .slice y2 m z2, .slice y3 k z3] (0, 0) _ hq7 Try.underlying27 rfl hj ?_)
  clear hq7
  generalize hW7 : w6.alloc (.cells #[.slice y1 n z1, .slice y2 m z2, .slice y3 k z3] 27) = W7 at HQ7 HX7 HR7 HC7 HP7 HV7 him ⊢
  have HS7 : Hid (W7.heap.size = w6.heap.size + 1) := by rw [← hW7, World.size_alloc]; rfl
  clear hW7 HB7
  obtain ⟨gx, hgx⟩ : ∃ gx, gx = w6.heap.size := ⟨_, rfl⟩
  rw [← hgx] at HQ7 HXL HS7 HG6 ⊢
  clear hgx
  refine him.mono ?_
  rintro e w8 ⟨⟨g1, g2, g3, rfl, o1, o2, o3, o4, o5⟩, hb8⟩
  obtain ⟨s1, t1, rfl⟩ := ownF_slice o1
  obtain ⟨s2, t2, rfl⟩ := ownF_slice o2
  obtain ⟨s3, t3, rfl⟩ := ownQ_slice o3
  have HX8 := hidF ((hb8.block _ (Array.getElem?_eq_some_iff.1 HX7.out).1).trans HX7.out)
  have HR8 := hidF ((hb8.block _ (Array.getElem?_eq_some_iff.1 HR7.out).1).trans HR7.out)
  have HQ8 := hidF ((hb8.block _ (Array.getElem?_eq_some_iff.1 HQ7.out).1).trans HQ7.out)
  have HC8 := hidF (blFl HC7.out hb8 HC7.out.size)
  have hGX : gx < w8.heap.size := (Array.getElem?_eq_some_iff.1 HQ8.out).1
  have HB9 : Hid (Below w8.heap.size w8 (w8.alloc (.cells #[.slice s1 Y.length t1, .slice s2 Y.length t2, .slice s3 ([] : List DqI).length t3] 27))) := (Below.refl _ _).alloc (Nat.le_refl _) _
  have hbx : Below W7.heap.size W7 (w8.alloc (.cells #[.slice s1 Y.length t1, .slice s2 Y.length t2, .slice s3 ([] : List DqI).length t3] 27)) := blFl hb8 HB9.out hb8.size
  obtain ⟨AA, hAA⟩ : ∃ AA : World → Prop, AA = fun W => SyW w W w.heap.size gw gx w8.heap.size a b c (.slice u1 Y.length v1) (.slice u2 Y.length v2) (.slice u3 ([] : List DqI).length v3) (.slice y1 n z1) (.slice y2 m z2) (.slice y3 k z3) (.slice s1 Y.length t1) (.slice s2 Y.length t2) (.slice s3 ([] : List DqI).length t3) Y ∧ DkX W5.heap.size W (.slice y1 n z1) (.slice y2 m z2) (.slice y3 k z3) n m k L S Q ∧ (W.ownsRow W7.heap.size 88 2 (.slice s1 Y.length t1) Y.length (flC Y) ∧ W.ownsRow W7.heap.size 88 2 (.slice s2 Y.length t2) Y.length (flC Y) ∧ W.ownsRow W7.heap.size 36 4 (.slice s3 ([] : List DqI).length t3) ([] : List DqI).length (dqC [])) := ⟨_, rfl⟩
  have hA9 : AA (w8.alloc (.cells #[.slice s1 Y.length t1, .slice s2 Y.length t2, .slice s3 ([] : List DqI).length t3] 27)) := by
    rw [hAA]
    refine ⟨⟨blFl HC8.out HB9.out HC8.out.size, (HB9.out.block _ (Array.getElem?_eq_some_iff.1 HX8.out).1).trans HX8.out, (HB9.out.block _ (Array.getElem?_eq_some_iff.1 HR8.out).1).trans HR8.out, (HB9.out.block _ (Array.getElem?_eq_some_iff.1 HQ8.out).1).trans HQ8.out, heap_alloc_new w8 _, HP7.out.1.below hbx, HP7.out.2.1.below hbx, HP7.out.2.2.below hbx⟩, ?_, ownF_call o1 HB9.out, ownF_call o2 HB9.out, ownF_call o3 HB9.out⟩
    exact ⟨HV7.out.va.below hbx, HV7.out.vb.below hbx, HV7.out.vc.below hbx, HV7.out.ra.keep fun g hg => hbx.block g (HV7.out.at_ g (Or.inl hg)).2, HV7.out.rb.keep fun g hg => hbx.block g (HV7.out.at_ g (Or.inr (Or.inl hg))).2, HV7.out.rc.keep fun g hg => hbx.block g (HV7.out.at_ g (Or.inr (Or.inr hg))).2, fun g hg => ⟨(HV7.out.at_ g hg).1, Nat.lt_of_lt_of_le (HV7.out.at_ g hg).2 hbx.size⟩, HV7.out.ab, HV7.out.bc⟩
  have HAB : Hid (∀ W W', AA W → Below W.heap.size W W' → AA W') := fun W W' h hb => by
    rw [hAA] at h ⊢
    obtain ⟨h1, h2, h3, h4, h5⟩ := h
    exact ⟨h1.below hb, ⟨h2.va.below hb, h2.vb.below hb, h2.vc.below hb, h2.ra.keep fun g hg => hb.block g (h2.at_ g (Or.inl hg)).2, h2.rb.keep fun g hg => hb.block g (h2.at_ g (Or.inr (Or.inl hg))).2, h2.rc.keep fun g hg => hb.block g (h2.at_ g (Or.inr (Or.inr hg))).2, fun g hg => ⟨(h2.at_ g hg).1, Nat.lt_of_lt_of_le (h2.at_ g hg).2 hb.size⟩, h2.ab, h2.bc⟩, ownF_call h3 hb, ownF_call h4 hb, ownF_call h5 hb⟩
  have HAS : Hid (∀ W, AA W → SyW w W w.heap.size gw gx w8.heap.size a b c (.slice u1 Y.length v1) (.slice u2 Y.length v2) (.slice u3 ([] : List DqI).length v3) (.slice y1 n z1) (.slice y2 m z2) (.slice y3 k z3) (.slice s1 Y.length t1) (.slice s2 Y.length t2) (.slice s3 ([] : List DqI).length t3) Y) := fun W h => by rw [hAA] at h; exact h.1
  have HAX : Hid (∀ W, AA W → DkX W5.heap.size W (.slice y1 n z1) (.slice y2 m z2) (.slice y3 k z3) n m k L S Q) := fun W h => by rw [hAA] at h; exact h.2.1
  have HAG : Hid (∀ W, AA W → (W.ownsRow W7.heap.size 88 2 (.slice s1 Y.length t1) Y.length (flC Y) ∧ W.ownsRow W7.heap.size 88 2 (.slice s2 Y.length t2) Y.length (flC Y) ∧ W.ownsRow W7.heap.size 36 4 (.slice s3 ([] : List DqI).length t3) ([] : List DqI).length (dqC []))) := fun W h => by rw [hAA] at h; exact h.2.2
  have HGB : Hid (∀ g, (Value.slice s1 Y.length t1).ownBlock = some g ∨ (Value.slice s2 Y.length t2).ownBlock = some g ∨ (Value.slice s3 ([] : List DqI).length t3).ownBlock = some g → W7.heap.size ≤ g ∧ g < w8.heap.size) := fun g hg => by
    rcases hg with h | h | h
    · exact o1.lt g h
    · exact o2.lt g h
    · exact o3.lt g h
  have HGO : Hid ((∀ g, (Value.slice s1 Y.length t1).ownBlock = some g → (Value.slice s2 Y.length t2).ownBlock ≠ some g ∧ (Value.slice s3 ([] : List DqI).length t3).ownBlock ≠ some g) ∧ (∀ g, (Value.slice s2 Y.length t2).ownBlock = some g → (Value.slice s3 ([] : List DqI).length t3).ownBlock ≠ some g)) := ⟨o4, o5⟩
  have HSZ9 : Hid (W7.heap.size = gx + 1 ∧ gx < w8.heap.size) := ⟨HS7.out, hGX⟩
  have HEY9 := hidF (HEY.out _ _ _ _ _ _ _ (by have h := HAG.out _ hA9; exact ⟨FlV.of_own h.1, FlV.of_own h.2.1, DqV.of_own h.2.2⟩) (HAS.out _ hA9).p)
  have hg9 := (HAS.out _ hA9).rg
  have hw9 := (HAS.out _ hA9).rw_
  clear hAA o1 o2 o3 o4 o5 hb8 hbx hGX him HX7 HR7 HQ7 HC7 HP7 HV7 HX8 HR8 HQ8 HC8
  go_wp2_with (first | refine wpList_load_row rfl 27 _ rfl (w8.heap.size) rfl 27 #[.slice s1 Y.length t1, .slice s2 Y.length t2, .slice s3 ([] : List DqI).length t3] (0, 0) _ hg9 Try.underlying27 rfl hj ?_ | refine wpList_load_row rfl 27 _ rfl gw rfl 27 #[.slice u1 Y.length v1, .slice u2 Y.length v2, .slice u3 ([] : List DqI).length v3] (0, 0) _ hw9 Try.underlying27 rfl hj ?_)
  clear hg9 hw9
  generalize hW9 : w8.alloc (.cells #[.slice s1 Y.length t1, .slice s2 Y.length t2, .slice s3 ([] : List DqI).length t3] 27) = W9 at hA9 HEY9 ⊢
  clear hW9 HB9
  generalize w8.heap.size = gg at HAS HGB HSZ9 hA9 ⊢
  refine HEY9.out.mono ?_
  rintro e w10 ⟨rfl, hb10⟩
  have hA10 := HAB.out _ _ hA9 hb10
  clear hA9 hb10 HEY9
  go_wp2_with fail
  have hSd : AA w10.drew := HAB.out _ _ hA10 (Below.refl _ _).drew
  have HSX : Hid (∀ w', AA w' → w'.rangeAt gx 0 [.slice y1 n z1, .slice y2 m z2, .slice y3 k z3]) := fun w' hq j v hv => by
    rw [Nat.zero_add]
    refine (cell_of_row _ _ j _ _ _ (HAS.out _ hq).rx).trans ?_
    simpa using hv
  have HSY : Hid (∀ w', AA w' → w'.rangeAt w.heap.size 0 [a, b, c]) := fun w' hq j v hv => by
    rw [Nat.zero_add]
    refine (cell_of_row _ _ j _ _ _ (HAS.out _ hq).rb).trans ?_
    simpa using hv
  clear hA10
  refine wp_region_held (S := AA) (by kernel_rfl) ?_
  change wpAnyH _ _ _ _ _ _ _ _ (World.drew _)
  generalize hX2 : w10.drew = X2 at hSd ⊢
  clear hX2
  refine wpAnyH_take (i := 0) (v := .agg #[.slice y1 n z1, .slice y2 m z2, .slice y3 k z3]) rfl (by kernel_rfl) (by kernel_rfl) (by kernel_rfl) (fun _ _ _ h => h) (yieldsIf_load_mid (by rfl) 27 (.tmp 5) rfl gx 0 rfl [.slice y1 n z1, .slice y2 m z2, .slice y3 k z3] _ HSX.out Try.underlying27 rfl (by kernel_rfl)) hSd ?_
  (try simp only [List.getElem_toArray, List.getElem_cons_succ, List.getElem_cons_zero, Act.put, List.setIfInBounds_toArray, List.set_cons_zero, List.set_cons_succ])
  refine wpAnyH_take (i := 1) (v := .agg #[a, b, c]) rfl (by kernel_rfl) (by kernel_rfl) (by kernel_rfl) (fun _ _ _ h => h) (yieldsIf_load_mid (by rfl) 50 (.tmp 1) rfl (w.heap.size) 0 rfl [a, b, c] _ HSY.out Try.underlying50 rfl (by kernel_rfl)) hSd ?_
  (try simp only [List.getElem_toArray, List.getElem_cons_succ, List.getElem_cons_zero, Act.put, List.setIfInBounds_toArray, List.set_cons_zero, List.set_cons_succ])
  have HQ8 := hidF (HTO.out X2 (HAS.out _ hSd).bel)
  refine held_step (i := 2) (by kernel_rfl) rfl (by rfl) ?_
  go_simp
  refine HQ8.out.mono ?_
  rintro e w11 ⟨⟨q1, q2, q3, rfl, hu⟩, hb11⟩
  have hS11 := HAB.out _ _ hSd hb11
  refine ⟨hS11, ?_⟩
  (try simp only [List.getElem_toArray, List.getElem_cons_succ, List.getElem_cons_zero, Act.put, List.setIfInBounds_toArray, List.set_cons_zero, List.set_cons_succ])
  have HE11 := hidF (HEQ.out w11 _ _ ⟨_, _, _, rfl, (HAX.out _ hS11).va, (HAX.out _ hS11).vb, (HAX.out _ hS11).vc⟩ ⟨_, _, _, rfl, hu.va, hu.vb, hu.vc⟩)
  clear hu hb11 hSd HQ8
  refine held_step (i := 3) (by kernel_rfl) rfl (by rfl) ?_
  go_simp
  refine HE11.out.mono ?_
  rintro e w12 ⟨rfl, hb12⟩
  have hS12 := HAB.out _ _ hS11 hb12
  refine ⟨hS12, ?_⟩
  (try simp only [List.getElem_toArray, List.getElem_cons_succ, List.getElem_cons_zero, Act.put, List.setIfInBounds_toArray, List.set_cons_zero, List.set_cons_succ])
  clear hb12 hS11 HE11
  refine wpAnyH_take (i := 4) (v := .bool false) rfl (by kernel_rfl) (by kernel_rfl) (by kernel_rfl) (fun _ _ _ h => h) (Or.inl ⟨by rfl, by intro w' hS'; go_simp <;> (first | omega | rfl)⟩) hS12 ?_
  (try simp only [List.getElem_toArray, List.getElem_cons_succ, List.getElem_cons_zero, Act.put, List.setIfInBounds_toArray, List.set_cons_zero, List.set_cons_succ])
  refine wpAnyH_done (by kernel_rfl) ?_ _
  clear HSX HSY
  have HX12 := hidF (HAX.out _ hS12)
  have hnm := HNM.out
  have HMX := hidF (markDk_any (.slice y1 n z1) (.slice y2 m z2) (.slice y3 k z3) n m k 1 w12 hnm.1 hnm.2.1 hnm.2.2.1 hnm.2.2.2 (by omega) (by omega) HX12.out.ra HX12.out.rb HX12.out.rc (fun g hg => (HX12.out.at_ g hg).2) HX12.out.ab HX12.out.bc)
  have HS12 := hidF (HAS.out _ hS12)
  have HG12 := hidF (HAG.out _ hS12)
  have rx12 := HS12.out.rx
  clear hS12 hnm HX12 HAX HAG HAS HAB
  go_wp2_with (refine wpList_load_row rfl 27 _ rfl gx rfl 27 #[.slice y1 n z1, .slice y2 m z2, .slice y3 k z3] (0, 0) _ rx12 Try.underlying27 rfl hj ?_)
  refine HMX.out.mono ?_
  rintro e w13 ⟨⟨rfl, _, _⟩, hf13⟩
  have hxl := HXL.out
  have hs5 := HS5.out
  have hs9 := HSZ9.out
  have hgb := HGB.out
  have hl4 := HL4.out
  have HS13 := hidF (HS12.out.frp hf13 (fun j hp => by have := hxl j hp; omega) (fun hp => by have := hxl _ hp; have := HBG0.out; omega) (fun hp => by have := hxl _ hp; omega) (fun hp => by have := hxl _ hp; omega) (fun hp => by have := hxl _ hp; have := HG6.out; omega) (fun j hj hp => by have := hxl j hp; have := hl4 j hj; omega))
  have HG13 : Hid (w13.ownsRow W7.heap.size 88 2 (.slice s1 Y.length t1) Y.length (flC Y) ∧ w13.ownsRow W7.heap.size 88 2 (.slice s2 Y.length t2) Y.length (flC Y) ∧ w13.ownsRow W7.heap.size 36 4 (.slice s3 ([] : List DqI).length t3) ([] : List DqI).length (dqC [])) := ⟨ownK_keep HG12.out.1 fun g hg => hf13.block g (HG12.out.1.lt g hg).2 (fun hp => by have := hxl g hp; have := (HG12.out.1.lt g hg).1; omega), ownK_keep HG12.out.2.1 fun g hg => hf13.block g (HG12.out.2.1.lt g hg).2 (fun hp => by have := hxl g hp; have := (HG12.out.2.1.lt g hg).1; omega), ownK_keep HG12.out.2.2 fun g hg => hf13.block g (HG12.out.2.2.lt g hg).2 (fun hp => by have := hxl g hp; have := (HG12.out.2.2.lt g hg).1; omega)⟩
  have HE13 := hidF (HEY.out w13 _ _ _ _ _ _ ⟨FlV.of_own HG13.out.1, FlV.of_own HG13.out.2.1, DqV.of_own HG13.out.2.2⟩ HS13.out.p)
  clear hf13 rx12 HMX HS12 HG12 hxl hgb hl4
  obtain ⟨kx, hkx⟩ : ∃ kx : Nat, kx = 1 + 2 * n + 2 * m + 4 * k := ⟨_, rfl⟩
  rw [← hkx]
  have hkn : ¬ (kx : Int) < 0 := by omega
  have hg9 := HS13.out.rg
  have hw9 := HS13.out.rw_
  clear hkx hs5 hs9
  have m0 := cell_of_row _ _ 0 _ _ _ hg9
  have m1 := cell_of_row _ _ 1 _ _ _ hg9
  have m2 := cell_of_row _ _ 2 _ _ _ hg9
  have n0 := cell_of_row _ _ 0 _ _ _ hw9
  have n1 := cell_of_row _ _ 1 _ _ _ hw9
  have n2 := cell_of_row _ _ 2 _ _ _ hw9
  clear hg9 hw9
  go_wp2_with fail
  refine HE13.out.mono ?_
  rintro e w14 ⟨rfl, hb14⟩
  have HS14 := hidF (HS13.out.below hb14)
  have HG14 : Hid (w14.ownsRow W7.heap.size 88 2 (.slice s1 Y.length t1) Y.length (flC Y) ∧ w14.ownsRow W7.heap.size 88 2 (.slice s2 Y.length t2) Y.length (flC Y) ∧ w14.ownsRow W7.heap.size 36 4 (.slice s3 ([] : List DqI).length t3) ([] : List DqI).length (dqC [])) := ⟨ownF_call HG13.out.1 hb14, ownF_call HG13.out.2.1 hb14, ownF_call HG13.out.2.2 hb14⟩
  have hyl := HYL.out
  have HMG := hidF (markDk_any (.slice s1 Y.length t1) (.slice s2 Y.length t2) (.slice s3 ([] : List DqI).length t3) Y.length Y.length ([] : List DqI).length 1 w14 (by omega) (by omega) (by simp) (by simp only [List.length_nil]; omega) (by omega) (by omega) (rwf_own HG14.out.1) (rwf_own HG14.out.2.1) (rwq_own HG14.out.2.2) (fun g hg => by
    rcases hg with h | h | h
    · exact (HG14.out.1.lt g h).2
    · exact (HG14.out.2.1.lt g h).2
    · exact (HG14.out.2.2.lt g h).2) HGO.out.1 HGO.out.2)
  have rg14 := HS14.out.rg
  clear hb14 HE13 HS13 HG13 m0 m1 m2 n0 n1 n2 hyl hkn
  go_wp2_with (refine wpList_load_row rfl 27 _ rfl gg rfl 27 #[.slice s1 Y.length t1, .slice s2 Y.length t2, .slice s3 ([] : List DqI).length t3] (0, 0) _ rg14 Try.underlying27 rfl hj ?_)
  refine HMG.out.mono ?_
  rintro e w15 ⟨⟨rfl, hm1, hm2⟩, hf15⟩
  have hgb := HGB.out
  have hs9 := HSZ9.out
  have hl4 := HL4.out
  have hc6 := HG6.out
  have hb0 := HBG0.out
  have HS15 := hidF (HS14.out.frp hf15 (fun j hp => by have := hgb j hp; omega) (fun hp => by have := hgb _ hp; omega) (fun hp => by have := hgb _ hp; omega) (fun hp => by have := hgb _ hp; omega) (fun hp => by have := hgb _ hp; omega) (fun j hj hp => by have := hgb j hp; have := hl4 j hj; omega))
  have HM15 := hidF (And.intro hm1 hm2)
  have hyl := HYL.out
  have HH15 := hidF (heldDk_any (.slice s1 Y.length t1) (.slice s2 Y.length t2) s3 none Y.length Y.length 1 t3 w15 hyl hyl (by omega) (by omega) hm1 hm2)
  obtain ⟨kg, hkg⟩ : ∃ kg : Nat, kg = 1 + 2 * Y.length + 2 * Y.length := ⟨_, rfl⟩
  have e0 : 1 + 2 * Y.length + 2 * Y.length + 4 * ([] : List DqI).length = kg := by simp [hkg]
  rw [e0]
  rw [← hkg] at HH15
  have hkn : ¬ (kg : Int) < 0 := by omega
  have HKG := hidF hkg
  have rg15 := HS15.out.rg
  clear hkg e0 hf15 hm1 hm2 hgb hs9 hl4 hc6 hb0 hyl rg14 HMG HS14 HG14
  go_wp2_with (refine wpList_load_row rfl 27 _ rfl gg rfl 27 #[.slice s1 Y.length t1, .slice s2 Y.length t2, .slice s3 ([] : List DqI).length t3] (0, 0) _ rg15 Try.underlying27 rfl hj ?_)
  refine HH15.out.mono ?_
  rintro e w16 ⟨rfl, hb16⟩
  have HS16 := hidF (HS15.out.below hb16)
  have HM16 := hidF (And.intro (mkf_below HM15.out.1 hb16) (mkf_below HM15.out.2 hb16))
  have hto16 := hidF (HTO.out w16 HS16.out.bel)
  have rb16 := HS16.out.rb
  clear hb16 HH15 HS15 HM15 rg15
  go_wp2_with (refine wpList_load_row rfl 50 _ rfl (w.heap.size) rfl 50 #[a, b, c] (0, 0) _ rb16 Try.underlying50 rfl hi ?_)
  clear rb16
  refine hto16.mono ?_
  rintro e w17 ⟨⟨q1, q2, q3, rfl, hu⟩, hb17⟩
  have HS17 := hidF (HS16.out.below hb17)
  have HM17 := hidF (And.intro (mkf_below HM16.out.1 hb17) (mkf_below HM16.out.2 hb17))
  have him17 := HIM.out _ _ _ _ ⟨hu.va, hu.vb, hu.vc⟩
  clear hb17 hu HS16 HM16 hto16
  go_wp2_with fail
  refine him17.mono ?_
  rintro e w18 ⟨⟨h1, h2, h3, rfl, o1, o2, o3, _, _⟩, hb18⟩
  obtain ⟨a1, b1, rfl⟩ := ownF_slice o1
  obtain ⟨a2, b2, rfl⟩ := ownF_slice o2
  obtain ⟨a3, b3, rfl⟩ := ownQ_slice o3
  have hba : Below w18.heap.size w18 (w18.alloc (.cells #[.slice a1 Y.length b1, .slice a2 Y.length b2, .slice a3 ([] : List DqI).length b3] 27)) := (Below.refl _ _).alloc (Nat.le_refl _) _
  have HS19 := hidF ((HS17.out.below hb18).below hba)
  have HM19 := hidF (And.intro (mkf_below (mkf_below HM17.out.1 hb18) hba) (mkf_below (mkf_below HM17.out.2 hb18) hba))
  have HE19 := hidF (HEY.out _ _ _ _ _ _ _ ⟨FlV.of_own (ownF_call o1 hba), FlV.of_own (ownF_call o2 hba), DqV.of_own (ownF_call o3 hba)⟩ HS19.out.p)
  have hr19 := heap_alloc_new w18 (.cells #[.slice a1 Y.length b1, .slice a2 Y.length b2, .slice a3 ([] : List DqI).length b3] 27)
  have hw19 := HS19.out.rw_
  clear o1 o2 o3 hb18 hba him17 HS17 HM17
  go_wp2_with (first | refine wpList_load_row rfl 27 _ rfl (w18.heap.size) rfl 27 #[.slice a1 Y.length b1, .slice a2 Y.length b2, .slice a3 ([] : List DqI).length b3] (0, 0) _ hr19 Try.underlying27 rfl hj ?_ | refine wpList_load_row rfl 27 _ rfl gw rfl 27 #[.slice u1 Y.length v1, .slice u2 Y.length v2, .slice u3 ([] : List DqI).length v3] (0, 0) _ hw19 Try.underlying27 rfl hj ?_)
  clear hr19 hw19
  generalize w18.alloc (.cells #[.slice a1 Y.length b1, .slice a2 Y.length b2, .slice a3 ([] : List DqI).length b3] 27) = W19 at HS19 HM19 HE19 ⊢
  refine HE19.out.mono ?_
  rintro e w20 ⟨rfl, hb20⟩
  have HS20 := hidF (HS19.out.below hb20)
  have hyl := HYL.out
  have hh20 := heldDk_any (.slice s1 Y.length t1) (.slice s2 Y.length t2) s3 none Y.length Y.length 1 t3 w20 hyl hyl (by omega) (by omega) (mkf_below HM19.out.1 hb20) (mkf_below HM19.out.2 hb20)
  rw [← HKG.out] at hh20
  have HH20 := hidF hh20
  have rg20 := HS20.out.rg
  clear hb20 hh20 hyl HS19 HM19 HE19
  go_wp2_with (refine wpList_load_row rfl 27 _ rfl gg rfl 27 #[.slice s1 Y.length t1, .slice s2 Y.length t2, .slice s3 ([] : List DqI).length t3] (0, 0) _ rg20 Try.underlying27 rfl hj ?_)
  refine HH20.out.mono ?_
  rintro e w21 ⟨rfl, hb21⟩
  have HB21 := hidF (blFl HS20.out.bel hb21 HS20.out.bel.size)
  clear hb21 HS20 HH20 rg20
  go_wp2_with fail
  go_ret
  exact ⟨rfl, HB21.out⟩
theorem array3x {α : Type} {cs : Array α} (h : cs.size = 3) : ∃ c0 c1 c2, cs = #[c0, c1, c2] := by
  obtain ⟨l⟩ := cs
  match l, h with
  | [c0, c1, c2], _ => exact ⟨c0, c1, c2, rfl⟩
set_option maxRecDepth 100000 in
theorem read3 {H : Type} {enc : TypeId × Value → H} {W : World} {v : Value} {d : DataW H} {ps : List MemPlace} (h0 : DataW.Trod enc Try.prog W 0 (fun _ => true) true 50 v d ps) (ho : Value.okWide Try.prog W .any 0 50 v) :
    ∃ (a b c : Value) (n m k : Nat) (F G : Nat → FlI) (O : Nat → DqI), v = .agg #[a, b, c] ∧ (n ≤ maxLen ∧ m ≤ maxLen ∧ k ≤ maxLen) ∧ (∀ i, i < n → (F i).a.size ≤ maxLen ∧ (F i).d.size ≤ maxLen) ∧ (∀ i, i < m → (G i).a.size ≤ maxLen ∧ (G i).d.size ≤ maxLen) ∧ (∀ i, i < k → (O i).a.size ≤ maxLen ∧ (O i).p.size ≤ maxLen ∧ (O i).d.size ≤ maxLen) ∧ FlIn W a n F ∧ FlIn W b m G ∧ DqIn W c k O := by
  obtain ⟨cs, rfl, hsz⟩ := okWide_struct Try.underlying50 ho
  have hsz3 : cs.size = 3 := hsz.trans (by kernel_rfl)
  obtain ⟨c0, c1, c2, rfl⟩ := array3x hsz3
  obtain ⟨fuel, hf⟩ := h0
  obtain ⟨y0, y1, y2, n, _, _, t0, t1, t2⟩ := Go.Deep.trod_struct3 Try.underlying50 hf
  have cF : Try.prog.cellsOf 47 = 1 := by kernel_rfl
  have cD : Try.prog.cellsOf 48 = 1 := by kernel_rfl
  rw [cF] at t0 t1
  rw [cD] at t2
  simp [Value.cells] at t0 t1 t2
  obtain ⟨a1, n1, k1, rfl⟩ : ∃ a n k, c0 = .slice a n k := by
    rcases Go.Deep.open_slice Try.underlying47 t0 with ⟨h, _⟩ | ⟨a', len, cap, m, nn, D, Pl, hcs, _⟩
    · cases h; exact ⟨_, _, _, rfl⟩
    · cases hcs; exact ⟨_, _, _, rfl⟩
  obtain ⟨a2, n2, k2, rfl⟩ : ∃ a n k, c1 = .slice a n k := by
    rcases Go.Deep.open_slice Try.underlying47 t1 with ⟨h, _⟩ | ⟨a', len, cap, m, nn, D, Pl, hcs, _⟩
    · cases h; exact ⟨_, _, _, rfl⟩
    · cases hcs; exact ⟨_, _, _, rfl⟩
  obtain ⟨a3, n3, k3, rfl⟩ : ∃ a n k, c2 = .slice a n k := by
    rcases Go.Deep.open_slice Try.underlying48 t2 with ⟨h, _⟩ | ⟨a', len, cap, m, nn, D, Pl, hcs, _⟩
    · cases h; exact ⟨_, _, _, rfl⟩
    · cases hcs; exact ⟨_, _, _, rfl⟩
  obtain ⟨F, m1, z1, i1⟩ := read_slFl (d := y0.1) (ps := y0.2) ⟨n, by simpa [Value.cells] using t0⟩
  obtain ⟨G, m2, z2, i2⟩ := read_slFl (d := y1.1) (ps := y1.2) ⟨n, by simpa [Value.cells] using t1⟩
  obtain ⟨O, m3, z3, i3⟩ := read_slDq (d := y2.1) (ps := y2.2) ⟨n, by simpa [Value.cells] using t2⟩
  exact ⟨_, _, _, n1, n2, n3, F, G, O, rfl, ⟨m1, m2, m3⟩, z1, z2, z3, i1, i2, i3⟩
set_option maxRecDepth 100000 in
theorem lifted (os : Os) (started : os.Started) (H : Type) (enc : TypeId × Value → H) :
    ReturnsInHanded {} Try.checked os 8 .any (Rows.fnExactSyncSpec.pre6 enc Try.prog Try.f8 Rows.fnExactSyncRow.domain false) (Rows.fnExactSyncSpec.post enc Try.prog Try.f8 false true false false) := by
  refine returnsInHanded_of_change (C := Try.checked) own started (by kernel_rfl) Try.func8
    (ChangeSpec.witness6 (enc := enc) (C := Try.checked) false ⟨#[], #[.agg #[.slice none 0 0, .slice none 0 0, .slice none 0 0]], []⟩ 8 (by kernel_rfl) (by kernel_rfl) (by kernel_rfl) (by kernel_rfl)) ?_
  intro W base args ds gs before hval0 hW hcnd _
  have hval : ∀ (j : Nat) t v, Try.f8.params[j]? = some t → args[j]? = some v → Value.okWide Try.prog W .any base t v := hval0
  have hW' := hW
  obtain ⟨p, q, hA0, hV, rfl, hfz, hnd⟩ := hW
  have hA : DataW.TrodAll enc Try.prog W 0 (fun _ => true) true Try.f8.params.toList args.toList ds p := hA0
  rw [Try.params8] at hA hval
  obtain ⟨v0, vs0, d0, ds0, p0, q0, hargs, rfl, rfl, h0, r0⟩ := trodAll_cons hA
  obtain ⟨rfl, rfl, rfl⟩ := trodAll_nil r0
  obtain rfl : args = #[v0] := by cases args; simp_all
  obtain ⟨rfl, rfl⟩ := trodVars_none hV
  obtain ⟨a, b, c, n, m, k, F, G, O, rfl, ⟨m1, m2, m3⟩, z1, z2, z3, i1, i2, i3⟩ := read3 h0 (Value.okWide_any_base (hval 0 _ v0 rfl rfl))
  have k0 := h0
  have lt0 : ∀ x ∈ p0, x.block < W.heap.size := by obtain ⟨m, hm⟩ := k0; exact DataW.trod_lt m _ _ _ hm
  clear hA0 hval0
  refine (walk a b c n m k F G O W m1 m2 m3 z1 z2 z3 i1 i2 i3).mono fun e W' ⟨he, bel⟩ => ?_
  subst he
  exact ⟨_, rfl, _, _, _, [], _, [], hW', trodAll_mk1 (shut_bool Try.underlying4 _), (trodAll_cons_mk (Below.trod laidOut (by kernel_rfl) (of_decide_eq_true (by kernel_rfl)) k0 bel lt0) trodAll_mk0), rfl, bel.frame _, fun h => by cases h⟩

theorem over : Rows.fnExactSyncRow.holds Try.pinned (OpenSpec.ofChange Rows.fnExactSyncSpec) :=
  OpenClaim.holds_of_wide 8 Try.f8 rfl rfl rfl rfl rfl rfl rfl ⟨rfl, rfl, rfl, rfl, rfl⟩ rfl rfl rfl rfl rfl (by kernel_rfl) Try.func8 (by kernel_rfl)
    (of_decide_eq_true (by kernel_rfl)) (by unfold Func.isWrapper; first | (rw [if_pos (by decide +kernel)]; kernel_rfl) | (rw [if_neg (by decide +kernel)]; exact ⟨rfl, rfl⟩))
    (fun os started H enc _ => lifted os started H enc)
theorem proved : Rows.FnExactSyncSaid :=
  over
#print axioms proved
end Go.Proofs.Ytanlggglbpibfaa.fnExactSync
