/-
  Do of the code answers as the model does: at every disk and op.
-/
import Derived.Test.YtanlggglbpibfaaRows
import Derived.Test.YtanlggglbpibfaaDkA3
import Derived.Test.YtanlggglbpibfaaDkA2
import Derived.Test.YtanlggglbpibfaaDkA1
import Derived.Test.YtanlggglbpibfaaDkA4
import Derived.WalkKit
import Derived.ProofKit
import Derived.OpenShut
import Derived.ShutString
import Derived.ChangeOld
import Derived.Below
import Derived.Lib.SmallJoins
import Derived.Deep.Strs
import Derived.Deep.Slices
namespace Go.Proofs.Ytanlggglbpibfaa.fnExactDo
open Go.ChangeShapes Go.WideShapes Go.ChangeAt Go.RowKit
open Go.ChangeMaps (open_string shut_string)
set_option linter.unusedVariables false
set_option linter.unusedSimpArgs false

theorem own : ownKnob Try.prog.godebug = none := by kernel_rfl
theorem laidOut : laidOutB Try.prog = true := by kernel_rfl
def own3 (B : Nat) (W : World) (a b c : Value) (Y Z : List FlI) (U : List DqI) : Prop := W.ownsRow B 88 2 a Y.length (flC Y) ∧ W.ownsRow B 88 2 b Z.length (flC Z) ∧ W.ownsRow B 36 4 c U.length (dqC U)
theorem own3_call {B : Nat} {W W' : World} {a b c : Value} {Y Z : List FlI} {U : List DqI} (h : own3 B W a b c Y Z U) (hb : Below W.heap.size W W') : own3 B W' a b c Y Z U := ⟨ownF_call h.1 hb, ownF_call h.2.1 hb, ownF_call h.2.2 hb⟩
theorem own3_base {B C : Nat} {W : World} {a b c : Value} {Y Z : List FlI} {U : List DqI} (h : own3 B W a b c Y Z U) (hb : C ≤ B) : own3 C W a b c Y Z U := ⟨ownF_base h.1 hb, ownF_base h.2.1 hb, ownF_base h.2.2 hb⟩
theorem own3_set {B : Nat} {W : World} {a b c : Value} {Y Z : List FlI} {U : List DqI} {x y z : Value} {k : Nat} {cs : Array Value} (h : own3 B W a b c Y Z U) (hk : W.heap[k]? = some (.cells cs 27 (0, 0))) : own3 B (set3b W k x y z) a b c Y Z U := ⟨own_set3b h.1 hk (by decide), own_set3b h.2.1 hk (by decide), own_set3b h.2.2 hk (by decide)⟩
theorem own3.fl {B : Nat} {W : World} {a b c : Value} {Y Z : List FlI} {U : List DqI} (h : own3 B W a b c Y Z U) : FlV W a Y ∧ FlV W b Z ∧ DqV W c U := ⟨FlV.of_own h.1, FlV.of_own h.2.1, DqV.of_own h.2.2⟩
theorem own3_ne {B : Nat} {W : World} {a b c : Value} {Y Z : List FlI} {U : List DqI} {k : Nat} {cs : Array Value} (h : own3 B W a b c Y Z U) (hk : W.heap[k]? = some (.cells cs 27 (0, 0))) {g : Nat} (hg : a.ownBlock = some g ∨ b.ownBlock = some g ∨ c.ownBlock = some g) : g ≠ k := by
  have key : ∀ {e : TypeId} {v : Value} {z n : Nat} {xs : List Value}, W.ownsRow B e z v n xs → e ≠ 27 → v.ownBlock = some g → g ≠ k := fun {e v z n xs} ho hne hv c => by
    obtain ⟨_, cur, hc⟩ := ownK_at2 ho hv
    rw [c, hk] at hc
    injection hc with hc
    injection hc with _ hc _
    exact hne hc.symm
  rcases hg with hg | hg | hg
  · exact key h.1 (by decide) hg
  · exact key h.2.1 (by decide) hg
  · exact key h.2.2 (by decide) hg
theorem own3_lt {B : Nat} {W : World} {a b c : Value} {Y Z : List FlI} {U : List DqI} (h : own3 B W a b c Y Z U) {g : Nat} (hg : a.ownBlock = some g ∨ b.ownBlock = some g ∨ c.ownBlock = some g) : B ≤ g ∧ g < W.heap.size := by
  rcases hg with hg | hg | hg
  · exact h.1.lt g hg
  · exact h.2.1.lt g hg
  · exact h.2.2.lt g hg
theorem own3_keep {B : Nat} {W W' : World} {a b c : Value} {Y Z : List FlI} {U : List DqI} (h : own3 B W a b c Y Z U) (hb : ∀ g, a.ownBlock = some g ∨ b.ownBlock = some g ∨ c.ownBlock = some g → W'.heap[g]? = W.heap[g]?) : own3 B W' a b c Y Z U :=
  ⟨ownK_keep2 h.1 fun g hg => hb g (Or.inl hg), ownK_keep2 h.2.1 fun g hg => hb g (Or.inr (Or.inl hg)), ownK_keep2 h.2.2 fun g hg => hb g (Or.inr (Or.inr hg))⟩
/-- what lies beside the marks -/
structure DoW (w W : World) (bk ok gw gx gg : Nat) (a b c p1 p2 p3 x1 x2 x3 g1 g2 g3 : Value) (OP : Array Value) (Y Z : List FlI) (U : List DqI) : Prop where
  bel : Below w.heap.size w W
  rb : W.heap[bk]? = some (.cells #[a, b, c] 50 (0, 0))
  ro : W.heap[ok]? = some (.cells OP 55 (0, 0))
  rw_ : W.heap[gw]? = some (.cells #[p1, p2, p3] 27 (0, 0))
  rx : W.heap[gx]? = some (.cells #[x1, x2, x3] 27 (0, 0))
  rg : W.heap[gg]? = some (.cells #[g1, g2, g3] 27 (0, 0))
  p : FlV W p1 Y ∧ FlV W p2 Z ∧ DqV W p3 U
theorem flv_lt {w : World} {v : Value} {L : List FlI} (h : FlV w v L) {g : Nat} (hg : v.ownBlock = some g) : g < w.heap.size := h.lt2 hg
theorem dqv_lt {w : World} {v : Value} {L : List DqI} (h : DqV w v L) {g : Nat} (hg : v.ownBlock = some g) : g < w.heap.size := by
  rcases h with ⟨rfl, _⟩ | ⟨k, c, rfl, hr⟩
  · cases hg
  · cases hg; exact hr.lt
theorem DoW.below {w W W' : World} {bk ok gw gx gg : Nat} {a b c p1 p2 p3 x1 x2 x3 g1 g2 g3 : Value} {OP : Array Value} {Y Z : List FlI} {U : List DqI} (h : DoW w W bk ok gw gx gg a b c p1 p2 p3 x1 x2 x3 g1 g2 g3 OP Y Z U) (hb : Below W.heap.size W W') : DoW w W' bk ok gw gx gg a b c p1 p2 p3 x1 x2 x3 g1 g2 g3 OP Y Z U :=
  ⟨blFl h.bel hb h.bel.size, (hb.block _ (Array.getElem?_eq_some_iff.1 h.rb).1).trans h.rb, (hb.block _ (Array.getElem?_eq_some_iff.1 h.ro).1).trans h.ro, (hb.block _ (Array.getElem?_eq_some_iff.1 h.rw_).1).trans h.rw_, (hb.block _ (Array.getElem?_eq_some_iff.1 h.rx).1).trans h.rx, (hb.block _ (Array.getElem?_eq_some_iff.1 h.rg).1).trans h.rg, h.p.1.below hb, h.p.2.1.below hb, h.p.2.2.below hb⟩
theorem DoW.frp {w W W' : World} {bk ok gw gx gg : Nat} {a b c p1 p2 p3 x1 x2 x3 g1 g2 g3 : Value} {OP : Array Value} {Y Z : List FlI} {U : List DqI} {P : Nat → Prop} (h : DoW w W bk ok gw gx gg a b c p1 p2 p3 x1 x2 x3 g1 g2 g3 OP Y Z U) (hf : FrP W W' P) (hP : ∀ j, P j → w.heap.size ≤ j) (h1 : ¬ P bk) (h5 : ¬ P ok) (h2 : ¬ P gw) (h3 : ¬ P gx) (h4 : ¬ P gg) (hp : ∀ j, p1.ownBlock = some j ∨ p2.ownBlock = some j ∨ p3.ownBlock = some j → ¬ P j) : DoW w W' bk ok gw gx gg a b c p1 p2 p3 x1 x2 x3 g1 g2 g3 OP Y Z U := by
  refine ⟨⟨hf.os.trans h.bel.os, hf.tape.trans h.bel.tape, hf.output.trans h.bel.output, Nat.le_trans h.bel.size hf.size, fun j hj => (hf.block j (Nat.lt_of_lt_of_le hj h.bel.size) (fun c => by have := hP j c; omega)).trans (h.bel.block j hj)⟩, (hf.block _ (Array.getElem?_eq_some_iff.1 h.rb).1 h1).trans h.rb, (hf.block _ (Array.getElem?_eq_some_iff.1 h.ro).1 h5).trans h.ro, (hf.block _ (Array.getElem?_eq_some_iff.1 h.rw_).1 h2).trans h.rw_, (hf.block _ (Array.getElem?_eq_some_iff.1 h.rx).1 h3).trans h.rx, (hf.block _ (Array.getElem?_eq_some_iff.1 h.rg).1 h4).trans h.rg, h.p.1.keep fun g hg => hf.block g (flv_lt h.p.1 hg) (hp g (Or.inl hg)), h.p.2.1.keep fun g hg => hf.block g (flv_lt h.p.2.1 hg) (hp g (Or.inr (Or.inl hg))), h.p.2.2.keep fun g hg => hf.block g (dqv_lt h.p.2.2 hg) (hp g (Or.inr (Or.inr hg)))⟩
theorem rwf_own {w : World} {B : Nat} {v : Value} {L : List FlI} (h : w.ownsRow B 88 2 v L.length (flC L)) : RwF w v L.length := by
  obtain ⟨a, c, e⟩ := ownF_slice h
  exact ⟨a, c, e, fun h0 => by obtain ⟨g, cap, cur, h1, h2, h3, h4, _⟩ := ownF_form h h0; rw [e] at h1; cases h1; exact ⟨g, cur, rfl, h3, h4⟩⟩
theorem rwq_own {w : World} {B : Nat} {v : Value} {L : List DqI} (h : w.ownsRow B 36 4 v L.length (dqC L)) : RwQ w v L.length := by
  obtain ⟨a, c, e⟩ := ownQ_slice h
  exact ⟨a, c, e, fun h0 => by obtain ⟨g, cap, cur, h1, h2, h3, h4, _⟩ := ownQ_form h h0; rw [e] at h1; cases h1; exact ⟨g, cur, rfl, h3, h4⟩⟩
theorem mkf_below {w w' : World} {v : Value} {n k : Nat} (h : MkF w v n k) (hw : Below w.heap.size w w') : MkF w' v n k := by
  obtain ⟨p, c, rfl, h⟩ := h
  exact ⟨p, c, rfl, fun h0 => by obtain ⟨g, rfl, h2, h3⟩ := h h0; exact ⟨g, rfl, Nat.lt_of_lt_of_le h2 hw.size, h3.below hw h2⟩⟩
set_option maxRecDepth 100000 in
set_option maxHeartbeats 8000000 in
theorem walk (a b c : Value) (n m k : Nat) (F G : Nat → FlI) (O : Nat → DqI) (om : Int) (oa oq od : ByteArray) (w : World) (hn : n ≤ maxLen) (hm : m ≤ maxLen) (hk : k ≤ maxLen) (d1 : ∀ i, i < n → (F i).a.size ≤ maxLen ∧ (F i).d.size ≤ maxLen) (d2 : ∀ i, i < m → (G i).a.size ≤ maxLen ∧ (G i).d.size ≤ maxLen) (d3 : ∀ i, i < k → (O i).a.size ≤ maxLen ∧ (O i).p.size ≤ maxLen ∧ (O i).d.size ≤ maxLen) (s1 : oa.size ≤ maxLen) (s2 : oq.size ≤ maxLen) (s3 : od.size ≤ maxLen) (h1 : FlIn w a n F) (h2 : FlIn w b m G) (h3 : DqIn w c k O) :
    Calls Try.prog 7 #[.agg #[a, b, c], .agg #[.int .i64 om, .string oa, .string oq, .string od]] w fun e w' => e = .returned (.bool true) ∧ Below w.heap.size w w' := by
  have HSZ : Hid (∀ w', Below w.heap.size w w' → Calls Try.prog 26 #[.agg #[a, b, c], .int .i64 1048576] w' fun e w'' => (∃ z, e = .returned (.int .i64 z) ∧ (0 ≤ z → z = ((1048576 - (n + flTot F n) - (m + flTot G m) - (k + dqTot O k) : Nat) : Int) ∧ (n + flTot F n) + (m + flTot G m) + (k + dqTot O k) ≤ 1048576)) ∧ Below w'.heap.size w' w'') := fun w' hb => szDk_any a b c n m k 1048576 F G O w' (Nat.le_refl _) hn hm hk d1 d2 d3 (h1.below hb) (h2.below hb) (h3.below hb)
  have HSO : Hid (∀ (t : Nat) w', t ≤ 1048576 → Calls Try.prog 29 #[.agg #[.int .i64 om, .string oa, .string oq, .string od], .int .i64 (t : Int)] w' fun e w'' => e = .returned (.int .i64 (if (oa.size + oq.size + od.size) ≤ t then ((t - (oa.size + oq.size + od.size) : Nat) : Int) else -1)) ∧ Below w'.heap.size w' w'') := fun t w' ht => szDq_any om oa oq od t w' s1 s2 s3 ht
  have HTQ : Hid (∀ w', Calls Try.prog 30 #[.agg #[.int .i64 om, .string oa, .string oq, .string od]] w' fun e w'' => e = .returned (.agg #[.int .i64 om, .string oa, .string oq, .string od]) ∧ Below w'.heap.size w' w'') := fun w' => toDq_any om oa oq od w'
  have HIN : Hid (∀ w', Below w.heap.size w w' → FlIn w' a n F ∧ FlIn w' b m G ∧ DqIn w' c k O) := fun w' hb => ⟨h1.below hb, h2.below hb, h3.below hb⟩
  clear hn hm hk d1 d2 d3 h1 h2 h3 s1 s2 s3
  have HB1 : Hid (Below w.heap.size w ((w.alloc (.cells #[a, b, c] 50)).alloc (.cells #[.int .i64 om, .string oa, .string oq, .string od] 55))) := ((Below.refl _ _).alloc (Nat.le_refl _) _).alloc (by simp) _
  have HX1 : Hid (((w.alloc (.cells #[a, b, c] 50)).alloc (.cells #[.int .i64 om, .string oa, .string oq, .string od] 55)).heap[w.heap.size]? = some (.cells #[a, b, c] 50 (0, 0)) ∧ ((w.alloc (.cells #[a, b, c] 50)).alloc (.cells #[.int .i64 om, .string oa, .string oq, .string od] 55)).heap[w.heap.size + 1]? = some (.cells #[.int .i64 om, .string oa, .string oq, .string od] 55 (0, 0))) := by
    refine ⟨?_, ?_⟩
    · rw [Below.heap_alloc _ _ _ (by simp), heap_alloc_new]
    · have := heap_alloc_new (w.alloc (.cells #[a, b, c] 50)) (.cells #[.int .i64 om, .string oa, .string oq, .string od] 55)
      rw [World.size_alloc] at this
      exact this
  have hi : Option.map (·.size) (Try.prog.info? 50) = some 3 := by kernel_rfl
  have hj : Option.map (·.size) (Try.prog.info? 27) = some 3 := by kernel_rfl
  go_enter Try.func7, Try.ntmps7
  go_wp2_with fail
  have hsz := HSZ.out _ HB1.out
  generalize ((w.alloc (.cells #[a, b, c] 50)).alloc (.cells #[.int .i64 om, .string oa, .string oq, .string od] 55)) = w1 at HB1 HX1 hsz ⊢
  obtain ⟨bk, hbk⟩ : ∃ bk, bk = w.heap.size := ⟨_, rfl⟩
  obtain ⟨ok, hok⟩ : ∃ ok, ok = w.heap.size + 1 := ⟨_, rfl⟩
  have HBK : Hid (bk = w.heap.size ∧ ok = w.heap.size + 1) := ⟨hbk, hok⟩
  rw [← hok, ← hbk] at HX1 ⊢
  clear hbk hok
  refine hsz.mono ?_
  rintro e w2 ⟨⟨z, rfl, hz⟩, hb2⟩
  have HX2 : Hid (w2.heap[bk]? = some (.cells #[a, b, c] 50 (0, 0)) ∧ w2.heap[ok]? = some (.cells #[.int .i64 om, .string oa, .string oq, .string od] 55 (0, 0))) := ⟨(hb2.block _ (Array.getElem?_eq_some_iff.1 HX1.out.1).1).trans HX1.out.1, (hb2.block _ (Array.getElem?_eq_some_iff.1 HX1.out.2).1).trans HX1.out.2⟩
  have HB2 := hidF (blFl HB1.out hb2 HB1.out.size)
  clear hb2 HB1 HX1 HSZ hsz
  by_cases hz0 : z < 0
  · clear hz
    go_wp2_with fail
    go_ret
    exact ⟨rfl, HB2.out⟩
  have hzz := (hz (by omega)).2
  obtain ⟨t, ht, ht2⟩ : ∃ t : Nat, z = (t : Int) ∧ t ≤ 1048576 := ⟨_, (hz (by omega)).1, by omega⟩
  have hn : n ≤ 1048576 := by omega
  have hm : m ≤ 1048576 := by omega
  have hk : k ≤ 1048576 := by omega
  subst ht
  clear hz
  have o0 := cell_of_row _ _ 0 _ _ _ HX2.out.2
  have o1 := cell_of_row _ _ 1 _ _ _ HX2.out.2
  have o2 := cell_of_row _ _ 2 _ _ _ HX2.out.2
  have o3 := cell_of_row _ _ 3 _ _ _ HX2.out.2
  have HSO2 := hidF (HSO.out t w2 ht2)
  go_wp2_with fail
  refine HSO2.out.mono ?_
  rintro e w3 ⟨rfl, hb3⟩
  have HX3 : Hid (w3.heap[bk]? = some (.cells #[a, b, c] 50 (0, 0)) ∧ w3.heap[ok]? = some (.cells #[.int .i64 om, .string oa, .string oq, .string od] 55 (0, 0))) := ⟨(hb3.block _ (Array.getElem?_eq_some_iff.1 HX2.out.1).1).trans HX2.out.1, (hb3.block _ (Array.getElem?_eq_some_iff.1 HX2.out.2).1).trans HX2.out.2⟩
  have HB3 := hidF (blFl HB2.out hb3 HB2.out.size)
  clear hb3 HB2 HX2 HSO HSO2 o0 o1 o2 o3
  by_cases hfit : oa.size + oq.size + od.size ≤ t
  rotate_left
  · rw [if_neg hfit]
    clear hfit
    go_wp2_with fail
    go_ret
    exact ⟨rfl, HB3.out⟩
  rw [if_pos hfit]
  obtain ⟨t2, ht3⟩ : ∃ t2 : Nat, t2 = t - (oa.size + oq.size + od.size) := ⟨_, rfl⟩
  rw [← ht3]
  have hneg : ¬ (t2 : Int) < 0 := by omega
  have HTO : Hid (∀ w', Below w.heap.size w w' → Calls Try.prog 27 #[.agg #[a, b, c]] w' fun e w'' => (∃ x y z, e = .returned (.agg #[x, y, z]) ∧ DkX w'.heap.size w'' x y z n m k (flM n F) (flM m G) (dqM k O)) ∧ Below w'.heap.size w' w'') := fun w' hb => toDkX_any a b c n m k F G O w' hn hm hk (HIN.out w' hb).1 (HIN.out w' hb).2.1 (HIN.out w' hb).2.2
  have HSP : Hid (∀ w' x y z, FlV w' x (flM n F) ∧ FlV w' y (flM m G) ∧ DqV w' z (dqM k O) → Calls Try.prog 21 #[.agg #[x, y, z], .agg #[.int .i64 om, .string oa, .string oq, .string od]] w' fun e w'' => DoV (doA (flM n F) (flM m G) (dqM k O) [⟨om, oa, oq, od⟩]) e w'' ∧ Below w'.heap.size w' w'') := fun w' x y z h => sdoT_any x y z _ _ _ om oa oq od w' (flM_le (by omega)) (flM_le (by omega)) (dqM_le (by omega)) (by omega) (by omega) (by omega) h.1 h.2.1 h.2.2
  have HIM : Hid (∀ w' x y z, FlV w' x (flM n F) ∧ FlV w' y (flM m G) ∧ DqV w' z (dqM k O) → Calls Try.prog 20 #[.agg #[x, y, z], .agg #[.int .i64 om, .string oa, .string oq, .string od]] w' fun e w'' => DoO w'.heap.size (doA (flM n F) (flM m G) (dqM k O) [⟨om, oa, oq, od⟩]) e w'' ∧ Below w'.heap.size w' w'') := fun w' x y z h => do15T_any x y z _ _ _ om oa oq od w' (flM_le (by omega)) (flM_le (by omega)) (dqM_le (by omega)) (by omega) (by omega) (by omega) h.1 h.2.1 h.2.2
  have HFEW := hidF (doA_few (flM n F) (flM m G) (dqM k O) [⟨om, oa, oq, od⟩])
  have HEQ : Hid (∀ w' u v, DkV w' u (flM n F) (flM m G) (dqM k O) → DkV w' v (flM n F) (flM m G) (dqM k O) → Calls Try.prog 28 #[u, v] w' fun e w'' => e = .returned (.bool true) ∧ Below w'.heap.size w' w'') := fun w' u v h h' => eqDk_any u v n m k F G O w' hn hm hk h h'
  have HNM : Hid (n ≤ 1048576 ∧ m ≤ 1048576 ∧ k ≤ 1048576 ∧ n + m + k ≤ 1048576) := ⟨hn, hm, hk, by omega⟩
  generalize doA (flM n F) (flM m G) (dqM k O) [⟨om, oa, oq, od⟩] = A at HSP HIM HFEW
  obtain ⟨Y, Z, U, cc⟩ := A
  generalize flM n F = L at HTO HSP HIM HEQ
  generalize flM m G = S at HTO HSP HIM HEQ
  generalize dqM k O = Q at HTO HSP HIM HEQ
  have HEY : Hid (∀ w' a b c d e f, FlV w' a Y ∧ FlV w' b Z ∧ DqV w' c U → FlV w' d Y ∧ FlV w' e Z ∧ DqV w' f U → Calls Try.prog 28 #[.agg #[a, b, c], .agg #[d, e, f]] w' fun e w'' => e = .returned (.bool true) ∧ Below w'.heap.size w' w'') := fun w' a b c d e f h h' => eqDl_any _ _ Y Z U w' (by have : Y.length ≤ 60 := HFEW.out.1; omega) (by have : Z.length ≤ 60 := HFEW.out.2.1; omega) (by have : U.length ≤ 200 := HFEW.out.2.2; omega) ⟨_, _, _, rfl, h⟩ ⟨_, _, _, rfl, h'⟩
  clear hzz hn hm hk HIN hfit ht2 hz0 ht3
  go_wp2_with fail
  clear hneg
  have HBX : Hid (∀ X0, w3.drew = X0 → ∀ W, Below X0.heap.size X0 W → Below w.heap.size w W) := fun X0 h W hb => by rw [← h] at hb; exact blFl (HB3.out.drew) hb HB3.out.drew.size
  refine region_merge13 (f := fun a0 q1 q2 q3 q4 q5 q6 u1 v1 u2 v2 u3 v3 gw => ((((((((((a0.put (some 27) (.agg #[a, b, c])).put (some 28) (.agg #[.slice q1 n q2, .slice q3 m q4, .slice q5 k q6])).put (some 29) (.agg #[.int .i64 om, .string oa, .string oq, .string od])).put (some 30) (.agg #[.int .i64 om, .string oa, .string oq, .string od])).put (some 31) (.tuple #[.agg #[.slice u1 Y.length v1, .slice u2 Z.length v2, .slice u3 U.length v3], .int .i64 cc])).put (some 26) (.tuple #[.agg #[.slice u1 Y.length v1, .slice u2 Z.length v2, .slice u3 U.length v3], .int .i64 cc])).put (some 32) (.agg #[.slice u1 Y.length v1, .slice u2 Z.length v2, .slice u3 U.length v3])).put (some 33) (.int .i64 cc)).put (some 6) (.pointer (some ⟨gw, 0, none⟩))).put (some 7) (.int .i64 cc))) (F := fun (_ : Option Addr) (_ : Nat) (_ : Option Addr) (_ : Nat) (_ : Option Addr) (_ : Nat) u1 v1 u2 v2 u3 v3 gw W => Below w3.drew.heap.size w3.drew W ∧ W.heap[gw]? = some (.cells #[.slice u1 Y.length v1, .slice u2 Z.length v2, .slice u3 U.length v3] 27 (0, 0)) ∧ (FlV W (.slice u1 Y.length v1) Y ∧ FlV W (.slice u2 Z.length v2) Z ∧ DqV W (.slice u3 U.length v3) U) ∧ w3.drew.heap.size ≤ gw) ?_ ?_
  · refine wp_region_held (S := fun W => Below w3.drew.heap.size w3.drew W) (by kernel_rfl) ?_
    change wpAnyH _ _ _ _ _ _ _ _ (World.drew _)
    have hS2 : Below w3.drew.heap.size w3.drew w3.drew := Below.refl _ _
    generalize hGX : w3.drew = X1 at hS2 ⊢
    obtain ⟨b03, hb0⟩ : ∃ b, b = X1.heap.size := ⟨_, rfl⟩
    have HB04 : Hid (b03 = X1.heap.size) := hb0
    rw [← hb0] at hS2 ⊢
    clear hb0
    have HL5 : Hid (∀ W, Below b03 X1 W → W.rangeAt bk 0 [a, b, c]) := fun W hb j v hv => by
      rw [Nat.zero_add]
      refine (cell_of_row _ _ j _ _ _ ((hb.block _ (by rw [HB04.out]; exact (Array.getElem?_eq_some_iff.1 (show X1.heap[bk]? = _ from by rw [← hGX]; exact HX3.out.1)).1)).trans (by rw [← hGX]; exact HX3.out.1))).trans ?_
      simpa using hv
    have HL6 : Hid (∀ W, Below b03 X1 W → W.rangeAt ok 0 [.int .i64 om, .string oa, .string oq, .string od]) := fun W hb j v hv => by
      rw [Nat.zero_add]
      refine (cell_of_row _ _ j _ _ _ ((hb.block _ (by rw [HB04.out]; exact (Array.getElem?_eq_some_iff.1 (show X1.heap[ok]? = _ from by rw [← hGX]; exact HX3.out.2)).1)).trans (by rw [← hGX]; exact HX3.out.2))).trans ?_
      simpa using hv
    have HX7 : Hid (w3.drew = X1) := hGX
    clear hGX
    refine wpAnyH_take (i := 0) (v := .agg #[a, b, c]) rfl (by kernel_rfl) (by kernel_rfl) (by kernel_rfl) (Mrg13.put (fun _ _ _ h => h)) (yieldsIf_load_mid (by rfl) 50 (.tmp 2) rfl bk 0 rfl [a, b, c] _ HL5.out Try.underlying50 rfl (by kernel_rfl)) hS2 ?_
    (try simp only [List.getElem_toArray, List.getElem_cons_succ, List.getElem_cons_zero, Act.put, List.setIfInBounds_toArray, List.set_cons_zero, List.set_cons_succ])
    refine wpAnyH_take (i := 2) (v := .agg #[.int .i64 om, .string oa, .string oq, .string od]) rfl (by kernel_rfl) (by kernel_rfl) (by kernel_rfl) (Mrg13.put (fun _ _ _ h => h)) (yieldsIf_load_mid (by rfl) 55 (.tmp 3) rfl ok 0 rfl [.int .i64 om, .string oa, .string oq, .string od] _ HL6.out Try.underlying55 rfl (by kernel_rfl)) hS2 ?_
    (try simp only [List.getElem_toArray, List.getElem_cons_succ, List.getElem_cons_zero, Act.put, List.setIfInBounds_toArray, List.set_cons_zero, List.set_cons_succ])
    refine held_two (i := 1) (k := 8) (by kernel_rfl) rfl rfl (by rfl) (by rfl) ?_ ?_
    · go_simp
      refine (HTO.out X1 (HBX.out X1 HX7.out X1 (by rw [← HB04.out]; exact hS2))).mono ?_
      rintro e W8 ⟨⟨r111, r112, r113, rfl, r11h⟩, hb10⟩
      obtain ⟨r11a1, r11c1, rfl, _⟩ := r11h.ra.form
      obtain ⟨r11a2, r11c2, rfl, _⟩ := r11h.rb.form
      obtain ⟨r11a3, r11c3, rfl, _⟩ := r11h.rc.form
      have HF12 := hidF (And.intro r11h.va (And.intro r11h.vb r11h.vc))
      clear r11h
      have hS9 : Below b03 X1 W8 := blFl hS2 hb10 (by rw [HB04.out]; exact hS2.size)
      refine ⟨hS9, ?_⟩
      (try simp only [List.getElem_toArray, List.getElem_cons_succ, List.getElem_cons_zero, Act.put, List.setIfInBounds_toArray, List.set_cons_zero, List.set_cons_succ])
      refine held_two (i := 3) (k := 8) (by kernel_rfl) rfl rfl (by rfl) (by rfl) ?_ ?_
      · go_simp
        refine (HTQ.out W8).mono ?_
        rintro e W13 ⟨rfl, hb15⟩
        have hS14 : Below b03 X1 W13 := blFl hS9 hb15 (by rw [HB04.out]; exact hS9.size)
        have HF16 := hidF (And.intro (HF12.out.1.below hb15) (And.intro (HF12.out.2.1.below hb15) (HF12.out.2.2.below hb15)))
        refine ⟨hS14, ?_⟩
        (try simp only [List.getElem_toArray, List.getElem_cons_succ, List.getElem_cons_zero, Act.put, List.setIfInBounds_toArray, List.set_cons_zero, List.set_cons_succ])
        refine held_two (i := 4) (k := 8) (by kernel_rfl) rfl rfl (by rfl) (by rfl) ?_ ?_
        · go_simp
          refine (HSP.out W13 _ _ _ HF16.out).mono ?_
          rintro e W17 ⟨⟨s201, s202, s203, rfl, s20p, s20q, s20r⟩, hb19⟩
          obtain ⟨s20a1, s20c1, rfl⟩ := s20p.slice
          obtain ⟨s20a2, s20c2, rfl⟩ := s20q.slice
          obtain ⟨s20a3, s20c3, rfl⟩ := s20r.slice
          have HF21 := hidF (And.intro s20p (And.intro s20q s20r))
          clear s20p s20q s20r
          have hS18 : Below b03 X1 W17 := blFl hS14 hb19 (by rw [HB04.out]; exact hS14.size)
          have HF22 := hidF (And.intro (HF16.out.1.below hb19) (And.intro (HF16.out.2.1.below hb19) (HF16.out.2.2.below hb19)))
          refine ⟨hS18, ?_⟩
          (try simp only [List.getElem_toArray, List.getElem_cons_succ, List.getElem_cons_zero, Act.put, List.setIfInBounds_toArray, List.set_cons_zero, List.set_cons_succ])
          refine wpAnyH_take (i := 5) (v := .tuple #[.agg #[.slice s20a1 Y.length s20c1, .slice s20a2 Z.length s20c2, .slice s20a3 U.length s20c3], .int .i64 cc]) rfl (by kernel_rfl) (by kernel_rfl) (by kernel_rfl) (Mrg13.put (fun _ _ _ h => h)) (Or.inl ⟨by rfl, by intro w' hS'; go_simp <;> (first | omega | rfl)⟩) hS18 ?_
          (try simp only [List.getElem_toArray, List.getElem_cons_succ, List.getElem_cons_zero, Act.put, List.setIfInBounds_toArray, List.set_cons_zero, List.set_cons_succ])
          refine wpAnyH_take (i := 6) (v := .agg #[.slice s20a1 Y.length s20c1, .slice s20a2 Z.length s20c2, .slice s20a3 U.length s20c3]) rfl (by kernel_rfl) (by kernel_rfl) (by kernel_rfl) (Mrg13.put (fun _ _ _ h => h)) (Or.inl ⟨by rfl, by intro w' hS'; go_simp <;> (first | omega | rfl)⟩) hS18 ?_
          (try simp only [List.getElem_toArray, List.getElem_cons_succ, List.getElem_cons_zero, Act.put, List.setIfInBounds_toArray, List.set_cons_zero, List.set_cons_succ])
          refine wpAnyH_take (i := 7) (v := .int .i64 cc) rfl (by kernel_rfl) (by kernel_rfl) (by kernel_rfl) (Mrg13.put (fun _ _ _ h => h)) (Or.inl ⟨by rfl, by intro w' hS'; go_simp <;> (first | omega | rfl)⟩) hS18 ?_
          (try simp only [List.getElem_toArray, List.getElem_cons_succ, List.getElem_cons_zero, Act.put, List.setIfInBounds_toArray, List.set_cons_zero, List.set_cons_succ])
          refine held_stepS (i := 8) (by kernel_rfl) rfl (by rfl) ?_
          go_simp
          have hb25 : Below W17.heap.size W17 (W17.alloc (.cells #[.slice none 0 0, .slice none 0 0, .slice none 0 0] 27)) := (Below.refl _ _).alloc (Nat.le_refl _) _
          have HK27a := heap_alloc_new W17 (.cells #[.slice none 0 0, .slice none 0 0, .slice none 0 0] 27)
          generalize hGW : W17.alloc (.cells #[.slice none 0 0, .slice none 0 0, .slice none 0 0] 27) = W23 at hb25 HK27a ⊢
          clear hGW
          obtain ⟨k26, hkn⟩ : ∃ k, k = W17.heap.size := ⟨_, rfl⟩
          have hS24 : Below b03 X1 W23 := blFl hS18 hb25 (by rw [HB04.out]; exact hS18.size)
          have HK27 : Hid (W23.heap[k26]? = some (.cells #[.slice none 0 0, .slice none 0 0, .slice none 0 0] 27 (0, 0)) ∧ b03 ≤ k26) := ⟨by rw [hkn]; exact HK27a, by rw [hkn, HB04.out]; exact hS18.size⟩
          rw [← hkn]
          have HF28 := hidF (And.intro (HF22.out.1.below hb25) (And.intro (HF22.out.2.1.below hb25) (HF22.out.2.2.below hb25)))
          have HF29 := hidF (And.intro (HF21.out.1.below hb25) (And.intro (HF21.out.2.1.below hb25) (HF21.out.2.2.below hb25)))
          refine ⟨hS24, ?_⟩
          (try simp only [List.getElem_toArray, List.getElem_cons_succ, List.getElem_cons_zero, Act.put, List.setIfInBounds_toArray, List.set_cons_zero, List.set_cons_succ])
          clear hkn HK27a
          have hz4 := HK27.out.1
          have z0 := cell_of_row _ _ 0 _ _ _ hz4
          have z1 := cell_of_row _ _ 1 _ _ _ hz4
          have z2 := cell_of_row _ _ 2 _ _ _ hz4
          have f0 := frozen_of_row _ _ 0 _ _ hz4
          have f1 := frozen_of_row _ _ 1 _ _ hz4
          have f2 := frozen_of_row _ _ 2 _ _ hz4
          have hS9 : Below b03 X1 (set3b W23 k26 (.slice s20a1 Y.length s20c1) (.slice s20a2 Z.length s20c2) (.slice s20a3 U.length s20c3)) := ((hS24.setCell (p := ⟨k26, 0, none⟩) HK27.out.2 _).setCell (p := ⟨k26, 1, none⟩) HK27.out.2 _).setCell (p := ⟨k26, 2, none⟩) HK27.out.2 _
          have hR9 : (set3b W23 k26 (.slice s20a1 Y.length s20c1) (.slice s20a2 Z.length s20c2) (.slice s20a3 U.length s20c3)).heap[k26]? = some (.cells #[.slice s20a1 Y.length s20c1, .slice s20a2 Z.length s20c2, .slice s20a3 U.length s20c3] 27 (0, 0)) := heap_setCell_same _ _ _ _ _ _ (heap_setCell_same _ _ _ _ _ _ (heap_setCell_same _ _ _ _ _ _ hz4))
          have hO9 : FlV (set3b W23 k26 (.slice s20a1 Y.length s20c1) (.slice s20a2 Z.length s20c2) (.slice s20a3 U.length s20c3)) (.slice s20a1 Y.length s20c1) Y ∧ FlV (set3b W23 k26 (.slice s20a1 Y.length s20c1) (.slice s20a2 Z.length s20c2) (.slice s20a3 U.length s20c3)) (.slice s20a2 Z.length s20c2) Z ∧ DqV (set3b W23 k26 (.slice s20a1 Y.length s20c1) (.slice s20a2 Z.length s20c2) (.slice s20a3 U.length s20c3)) (.slice s20a3 U.length s20c3) U := ⟨HF29.out.1.set3b hz4, HF29.out.2.1.set3b hz4, HF29.out.2.2.set3b hz4⟩
          refine held_stepS (i := 9) (by kernel_rfl) rfl (by rfl) ?_
          go_simp
          refine ⟨hS9, ?_⟩
          (try simp only [List.getElem_toArray, List.getElem_cons_succ, List.getElem_cons_zero, Act.put, List.setIfInBounds_toArray, List.set_cons_zero, List.set_cons_succ])
          clear z0 z1 z2 f0 f1 f2 hz4
          refine held_stepS (i := 10) (by kernel_rfl) rfl (by rfl) ?_
          go_simp
          refine ⟨hS9, ?_⟩
          (try simp only [List.getElem_toArray, List.getElem_cons_succ, List.getElem_cons_zero, Act.put, List.setIfInBounds_toArray, List.set_cons_zero, List.set_cons_succ])
          refine wpAnyH_done (by kernel_rfl) ?_ _
          exact Or.inl ⟨r11a1, r11c1, r11a2, r11c2, r11a3, r11c3, s20a1, s20c1, s20a2, s20c2, s20a3, s20c3, k26, rfl, rfl, hS9, hR9, hO9, HK27.out.2⟩
        · go_simp
          have hb32 : Below W13.heap.size W13 (W13.alloc (.cells #[.slice none 0 0, .slice none 0 0, .slice none 0 0] 27)) := (Below.refl _ _).alloc (Nat.le_refl _) _
          have HK34a := heap_alloc_new W13 (.cells #[.slice none 0 0, .slice none 0 0, .slice none 0 0] 27)
          generalize hGW : W13.alloc (.cells #[.slice none 0 0, .slice none 0 0, .slice none 0 0] 27) = W30 at hb32 HK34a ⊢
          clear hGW
          obtain ⟨k33, hkn⟩ : ∃ k, k = W13.heap.size := ⟨_, rfl⟩
          have hS31 : Below b03 X1 W30 := blFl hS14 hb32 (by rw [HB04.out]; exact hS14.size)
          have HK34 : Hid (W30.heap[k33]? = some (.cells #[.slice none 0 0, .slice none 0 0, .slice none 0 0] 27 (0, 0)) ∧ b03 ≤ k33) := ⟨by rw [hkn]; exact HK34a, by rw [hkn, HB04.out]; exact hS14.size⟩
          rw [← hkn]
          have HF35 := hidF (And.intro (HF16.out.1.below hb32) (And.intro (HF16.out.2.1.below hb32) (HF16.out.2.2.below hb32)))
          refine ⟨hS31, ?_⟩
          (try simp only [List.getElem_toArray, List.getElem_cons_succ, List.getElem_cons_zero, Act.put, List.setIfInBounds_toArray, List.set_cons_zero, List.set_cons_succ])
          clear hkn HK34a
          refine held_stepS (i := 4) (by kernel_rfl) rfl (by rfl) ?_
          go_simp
          refine (HSP.out W30 _ _ _ HF35.out).mono ?_
          rintro e W36 ⟨⟨s391, s392, s393, rfl, s39p, s39q, s39r⟩, hb38⟩
          obtain ⟨s39a1, s39c1, rfl⟩ := s39p.slice
          obtain ⟨s39a2, s39c2, rfl⟩ := s39q.slice
          obtain ⟨s39a3, s39c3, rfl⟩ := s39r.slice
          have HF40 := hidF (And.intro s39p (And.intro s39q s39r))
          clear s39p s39q s39r
          have hS37 : Below b03 X1 W36 := blFl hS31 hb38 (by rw [HB04.out]; exact hS31.size)
          have HK41 : Hid (W36.heap[k33]? = some (.cells #[.slice none 0 0, .slice none 0 0, .slice none 0 0] 27 (0, 0)) ∧ b03 ≤ k33) := ⟨(hb38.block _ (Array.getElem?_eq_some_iff.1 HK34.out.1).1).trans HK34.out.1, HK34.out.2⟩
          have HF42 := hidF (And.intro (HF35.out.1.below hb38) (And.intro (HF35.out.2.1.below hb38) (HF35.out.2.2.below hb38)))
          refine ⟨hS37, ?_⟩
          (try simp only [List.getElem_toArray, List.getElem_cons_succ, List.getElem_cons_zero, Act.put, List.setIfInBounds_toArray, List.set_cons_zero, List.set_cons_succ])
          refine wpAnyH_take (i := 5) (v := .tuple #[.agg #[.slice s39a1 Y.length s39c1, .slice s39a2 Z.length s39c2, .slice s39a3 U.length s39c3], .int .i64 cc]) rfl (by kernel_rfl) (by kernel_rfl) (by kernel_rfl) (Mrg13.put (fun _ _ _ h => h)) (Or.inl ⟨by rfl, by intro w' hS'; go_simp <;> (first | omega | rfl)⟩) hS37 ?_
          (try simp only [List.getElem_toArray, List.getElem_cons_succ, List.getElem_cons_zero, Act.put, List.setIfInBounds_toArray, List.set_cons_zero, List.set_cons_succ])
          refine wpAnyH_take (i := 6) (v := .agg #[.slice s39a1 Y.length s39c1, .slice s39a2 Z.length s39c2, .slice s39a3 U.length s39c3]) rfl (by kernel_rfl) (by kernel_rfl) (by kernel_rfl) (Mrg13.put (fun _ _ _ h => h)) (Or.inl ⟨by rfl, by intro w' hS'; go_simp <;> (first | omega | rfl)⟩) hS37 ?_
          (try simp only [List.getElem_toArray, List.getElem_cons_succ, List.getElem_cons_zero, Act.put, List.setIfInBounds_toArray, List.set_cons_zero, List.set_cons_succ])
          refine wpAnyH_take (i := 7) (v := .int .i64 cc) rfl (by kernel_rfl) (by kernel_rfl) (by kernel_rfl) (Mrg13.put (fun _ _ _ h => h)) (Or.inl ⟨by rfl, by intro w' hS'; go_simp <;> (first | omega | rfl)⟩) hS37 ?_
          (try simp only [List.getElem_toArray, List.getElem_cons_succ, List.getElem_cons_zero, Act.put, List.setIfInBounds_toArray, List.set_cons_zero, List.set_cons_succ])
          have hz4 := HK41.out.1
          have z0 := cell_of_row _ _ 0 _ _ _ hz4
          have z1 := cell_of_row _ _ 1 _ _ _ hz4
          have z2 := cell_of_row _ _ 2 _ _ _ hz4
          have f0 := frozen_of_row _ _ 0 _ _ hz4
          have f1 := frozen_of_row _ _ 1 _ _ hz4
          have f2 := frozen_of_row _ _ 2 _ _ hz4
          have hS9 : Below b03 X1 (set3b W36 k33 (.slice s39a1 Y.length s39c1) (.slice s39a2 Z.length s39c2) (.slice s39a3 U.length s39c3)) := ((hS37.setCell (p := ⟨k33, 0, none⟩) HK41.out.2 _).setCell (p := ⟨k33, 1, none⟩) HK41.out.2 _).setCell (p := ⟨k33, 2, none⟩) HK41.out.2 _
          have hR9 : (set3b W36 k33 (.slice s39a1 Y.length s39c1) (.slice s39a2 Z.length s39c2) (.slice s39a3 U.length s39c3)).heap[k33]? = some (.cells #[.slice s39a1 Y.length s39c1, .slice s39a2 Z.length s39c2, .slice s39a3 U.length s39c3] 27 (0, 0)) := heap_setCell_same _ _ _ _ _ _ (heap_setCell_same _ _ _ _ _ _ (heap_setCell_same _ _ _ _ _ _ hz4))
          have hO9 : FlV (set3b W36 k33 (.slice s39a1 Y.length s39c1) (.slice s39a2 Z.length s39c2) (.slice s39a3 U.length s39c3)) (.slice s39a1 Y.length s39c1) Y ∧ FlV (set3b W36 k33 (.slice s39a1 Y.length s39c1) (.slice s39a2 Z.length s39c2) (.slice s39a3 U.length s39c3)) (.slice s39a2 Z.length s39c2) Z ∧ DqV (set3b W36 k33 (.slice s39a1 Y.length s39c1) (.slice s39a2 Z.length s39c2) (.slice s39a3 U.length s39c3)) (.slice s39a3 U.length s39c3) U := ⟨HF40.out.1.set3b hz4, HF40.out.2.1.set3b hz4, HF40.out.2.2.set3b hz4⟩
          refine held_stepS (i := 9) (by kernel_rfl) rfl (by rfl) ?_
          go_simp
          refine ⟨hS9, ?_⟩
          (try simp only [List.getElem_toArray, List.getElem_cons_succ, List.getElem_cons_zero, Act.put, List.setIfInBounds_toArray, List.set_cons_zero, List.set_cons_succ])
          clear z0 z1 z2 f0 f1 f2 hz4
          refine held_stepS (i := 10) (by kernel_rfl) rfl (by rfl) ?_
          go_simp
          refine ⟨hS9, ?_⟩
          (try simp only [List.getElem_toArray, List.getElem_cons_succ, List.getElem_cons_zero, Act.put, List.setIfInBounds_toArray, List.set_cons_zero, List.set_cons_succ])
          refine wpAnyH_done (by kernel_rfl) ?_ _
          exact Or.inl ⟨r11a1, r11c1, r11a2, r11c2, r11a3, r11c3, s39a1, s39c1, s39a2, s39c2, s39a3, s39c3, k33, rfl, rfl, hS9, hR9, hO9, HK41.out.2⟩
      · go_simp
        have hb45 : Below W8.heap.size W8 (W8.alloc (.cells #[.slice none 0 0, .slice none 0 0, .slice none 0 0] 27)) := (Below.refl _ _).alloc (Nat.le_refl _) _
        have HK47a := heap_alloc_new W8 (.cells #[.slice none 0 0, .slice none 0 0, .slice none 0 0] 27)
        generalize hGW : W8.alloc (.cells #[.slice none 0 0, .slice none 0 0, .slice none 0 0] 27) = W43 at hb45 HK47a ⊢
        clear hGW
        obtain ⟨k46, hkn⟩ : ∃ k, k = W8.heap.size := ⟨_, rfl⟩
        have hS44 : Below b03 X1 W43 := blFl hS9 hb45 (by rw [HB04.out]; exact hS9.size)
        have HK47 : Hid (W43.heap[k46]? = some (.cells #[.slice none 0 0, .slice none 0 0, .slice none 0 0] 27 (0, 0)) ∧ b03 ≤ k46) := ⟨by rw [hkn]; exact HK47a, by rw [hkn, HB04.out]; exact hS9.size⟩
        rw [← hkn]
        have HF48 := hidF (And.intro (HF12.out.1.below hb45) (And.intro (HF12.out.2.1.below hb45) (HF12.out.2.2.below hb45)))
        refine ⟨hS44, ?_⟩
        (try simp only [List.getElem_toArray, List.getElem_cons_succ, List.getElem_cons_zero, Act.put, List.setIfInBounds_toArray, List.set_cons_zero, List.set_cons_succ])
        clear hkn HK47a
        refine held_stepS (i := 3) (by kernel_rfl) rfl (by rfl) ?_
        go_simp
        refine (HTQ.out W43).mono ?_
        rintro e W49 ⟨rfl, hb51⟩
        have hS50 : Below b03 X1 W49 := blFl hS44 hb51 (by rw [HB04.out]; exact hS44.size)
        have HK52 : Hid (W49.heap[k46]? = some (.cells #[.slice none 0 0, .slice none 0 0, .slice none 0 0] 27 (0, 0)) ∧ b03 ≤ k46) := ⟨(hb51.block _ (Array.getElem?_eq_some_iff.1 HK47.out.1).1).trans HK47.out.1, HK47.out.2⟩
        have HF53 := hidF (And.intro (HF48.out.1.below hb51) (And.intro (HF48.out.2.1.below hb51) (HF48.out.2.2.below hb51)))
        refine ⟨hS50, ?_⟩
        (try simp only [List.getElem_toArray, List.getElem_cons_succ, List.getElem_cons_zero, Act.put, List.setIfInBounds_toArray, List.set_cons_zero, List.set_cons_succ])
        refine held_stepS (i := 4) (by kernel_rfl) rfl (by rfl) ?_
        go_simp
        refine (HSP.out W49 _ _ _ HF53.out).mono ?_
        rintro e W54 ⟨⟨s571, s572, s573, rfl, s57p, s57q, s57r⟩, hb56⟩
        obtain ⟨s57a1, s57c1, rfl⟩ := s57p.slice
        obtain ⟨s57a2, s57c2, rfl⟩ := s57q.slice
        obtain ⟨s57a3, s57c3, rfl⟩ := s57r.slice
        have HF58 := hidF (And.intro s57p (And.intro s57q s57r))
        clear s57p s57q s57r
        have hS55 : Below b03 X1 W54 := blFl hS50 hb56 (by rw [HB04.out]; exact hS50.size)
        have HK59 : Hid (W54.heap[k46]? = some (.cells #[.slice none 0 0, .slice none 0 0, .slice none 0 0] 27 (0, 0)) ∧ b03 ≤ k46) := ⟨(hb56.block _ (Array.getElem?_eq_some_iff.1 HK52.out.1).1).trans HK52.out.1, HK52.out.2⟩
        have HF60 := hidF (And.intro (HF53.out.1.below hb56) (And.intro (HF53.out.2.1.below hb56) (HF53.out.2.2.below hb56)))
        refine ⟨hS55, ?_⟩
        (try simp only [List.getElem_toArray, List.getElem_cons_succ, List.getElem_cons_zero, Act.put, List.setIfInBounds_toArray, List.set_cons_zero, List.set_cons_succ])
        refine wpAnyH_take (i := 5) (v := .tuple #[.agg #[.slice s57a1 Y.length s57c1, .slice s57a2 Z.length s57c2, .slice s57a3 U.length s57c3], .int .i64 cc]) rfl (by kernel_rfl) (by kernel_rfl) (by kernel_rfl) (Mrg13.put (fun _ _ _ h => h)) (Or.inl ⟨by rfl, by intro w' hS'; go_simp <;> (first | omega | rfl)⟩) hS55 ?_
        (try simp only [List.getElem_toArray, List.getElem_cons_succ, List.getElem_cons_zero, Act.put, List.setIfInBounds_toArray, List.set_cons_zero, List.set_cons_succ])
        refine wpAnyH_take (i := 6) (v := .agg #[.slice s57a1 Y.length s57c1, .slice s57a2 Z.length s57c2, .slice s57a3 U.length s57c3]) rfl (by kernel_rfl) (by kernel_rfl) (by kernel_rfl) (Mrg13.put (fun _ _ _ h => h)) (Or.inl ⟨by rfl, by intro w' hS'; go_simp <;> (first | omega | rfl)⟩) hS55 ?_
        (try simp only [List.getElem_toArray, List.getElem_cons_succ, List.getElem_cons_zero, Act.put, List.setIfInBounds_toArray, List.set_cons_zero, List.set_cons_succ])
        refine wpAnyH_take (i := 7) (v := .int .i64 cc) rfl (by kernel_rfl) (by kernel_rfl) (by kernel_rfl) (Mrg13.put (fun _ _ _ h => h)) (Or.inl ⟨by rfl, by intro w' hS'; go_simp <;> (first | omega | rfl)⟩) hS55 ?_
        (try simp only [List.getElem_toArray, List.getElem_cons_succ, List.getElem_cons_zero, Act.put, List.setIfInBounds_toArray, List.set_cons_zero, List.set_cons_succ])
        have hz4 := HK59.out.1
        have z0 := cell_of_row _ _ 0 _ _ _ hz4
        have z1 := cell_of_row _ _ 1 _ _ _ hz4
        have z2 := cell_of_row _ _ 2 _ _ _ hz4
        have f0 := frozen_of_row _ _ 0 _ _ hz4
        have f1 := frozen_of_row _ _ 1 _ _ hz4
        have f2 := frozen_of_row _ _ 2 _ _ hz4
        have hS9 : Below b03 X1 (set3b W54 k46 (.slice s57a1 Y.length s57c1) (.slice s57a2 Z.length s57c2) (.slice s57a3 U.length s57c3)) := ((hS55.setCell (p := ⟨k46, 0, none⟩) HK59.out.2 _).setCell (p := ⟨k46, 1, none⟩) HK59.out.2 _).setCell (p := ⟨k46, 2, none⟩) HK59.out.2 _
        have hR9 : (set3b W54 k46 (.slice s57a1 Y.length s57c1) (.slice s57a2 Z.length s57c2) (.slice s57a3 U.length s57c3)).heap[k46]? = some (.cells #[.slice s57a1 Y.length s57c1, .slice s57a2 Z.length s57c2, .slice s57a3 U.length s57c3] 27 (0, 0)) := heap_setCell_same _ _ _ _ _ _ (heap_setCell_same _ _ _ _ _ _ (heap_setCell_same _ _ _ _ _ _ hz4))
        have hO9 : FlV (set3b W54 k46 (.slice s57a1 Y.length s57c1) (.slice s57a2 Z.length s57c2) (.slice s57a3 U.length s57c3)) (.slice s57a1 Y.length s57c1) Y ∧ FlV (set3b W54 k46 (.slice s57a1 Y.length s57c1) (.slice s57a2 Z.length s57c2) (.slice s57a3 U.length s57c3)) (.slice s57a2 Z.length s57c2) Z ∧ DqV (set3b W54 k46 (.slice s57a1 Y.length s57c1) (.slice s57a2 Z.length s57c2) (.slice s57a3 U.length s57c3)) (.slice s57a3 U.length s57c3) U := ⟨HF58.out.1.set3b hz4, HF58.out.2.1.set3b hz4, HF58.out.2.2.set3b hz4⟩
        refine held_stepS (i := 9) (by kernel_rfl) rfl (by rfl) ?_
        go_simp
        refine ⟨hS9, ?_⟩
        (try simp only [List.getElem_toArray, List.getElem_cons_succ, List.getElem_cons_zero, Act.put, List.setIfInBounds_toArray, List.set_cons_zero, List.set_cons_succ])
        clear z0 z1 z2 f0 f1 f2 hz4
        refine held_stepS (i := 10) (by kernel_rfl) rfl (by rfl) ?_
        go_simp
        refine ⟨hS9, ?_⟩
        (try simp only [List.getElem_toArray, List.getElem_cons_succ, List.getElem_cons_zero, Act.put, List.setIfInBounds_toArray, List.set_cons_zero, List.set_cons_succ])
        refine wpAnyH_done (by kernel_rfl) ?_ _
        exact Or.inl ⟨r11a1, r11c1, r11a2, r11c2, r11a3, r11c3, s57a1, s57c1, s57a2, s57c2, s57a3, s57c3, k46, rfl, rfl, hS9, hR9, hO9, HK59.out.2⟩
    · go_simp
      have hb63 : Below X1.heap.size X1 (X1.alloc (.cells #[.slice none 0 0, .slice none 0 0, .slice none 0 0] 27)) := (Below.refl _ _).alloc (Nat.le_refl _) _
      have HK65a := heap_alloc_new X1 (.cells #[.slice none 0 0, .slice none 0 0, .slice none 0 0] 27)
      generalize hGW : X1.alloc (.cells #[.slice none 0 0, .slice none 0 0, .slice none 0 0] 27) = W61 at hb63 HK65a ⊢
      clear hGW
      obtain ⟨k64, hkn⟩ : ∃ k, k = X1.heap.size := ⟨_, rfl⟩
      have hS62 : Below b03 X1 W61 := blFl hS2 hb63 (by rw [HB04.out]; exact hS2.size)
      have HK65 : Hid (W61.heap[k64]? = some (.cells #[.slice none 0 0, .slice none 0 0, .slice none 0 0] 27 (0, 0)) ∧ b03 ≤ k64) := ⟨by rw [hkn]; exact HK65a, by rw [hkn, HB04.out]; exact hS2.size⟩
      rw [← hkn]
      refine ⟨hS62, ?_⟩
      (try simp only [List.getElem_toArray, List.getElem_cons_succ, List.getElem_cons_zero, Act.put, List.setIfInBounds_toArray, List.set_cons_zero, List.set_cons_succ])
      clear hkn HK65a
      refine held_stepS (i := 1) (by kernel_rfl) rfl (by rfl) ?_
      go_simp
      refine (HTO.out W61 (HBX.out X1 HX7.out W61 (by rw [← HB04.out]; exact hS62))).mono ?_
      rintro e W66 ⟨⟨r691, r692, r693, rfl, r69h⟩, hb68⟩
      obtain ⟨r69a1, r69c1, rfl, _⟩ := r69h.ra.form
      obtain ⟨r69a2, r69c2, rfl, _⟩ := r69h.rb.form
      obtain ⟨r69a3, r69c3, rfl, _⟩ := r69h.rc.form
      have HF70 := hidF (And.intro r69h.va (And.intro r69h.vb r69h.vc))
      clear r69h
      have hS67 : Below b03 X1 W66 := blFl hS62 hb68 (by rw [HB04.out]; exact hS62.size)
      have HK71 : Hid (W66.heap[k64]? = some (.cells #[.slice none 0 0, .slice none 0 0, .slice none 0 0] 27 (0, 0)) ∧ b03 ≤ k64) := ⟨(hb68.block _ (Array.getElem?_eq_some_iff.1 HK65.out.1).1).trans HK65.out.1, HK65.out.2⟩
      refine ⟨hS67, ?_⟩
      (try simp only [List.getElem_toArray, List.getElem_cons_succ, List.getElem_cons_zero, Act.put, List.setIfInBounds_toArray, List.set_cons_zero, List.set_cons_succ])
      refine held_stepS (i := 3) (by kernel_rfl) rfl (by rfl) ?_
      go_simp
      refine (HTQ.out W66).mono ?_
      rintro e W72 ⟨rfl, hb74⟩
      have hS73 : Below b03 X1 W72 := blFl hS67 hb74 (by rw [HB04.out]; exact hS67.size)
      have HK75 : Hid (W72.heap[k64]? = some (.cells #[.slice none 0 0, .slice none 0 0, .slice none 0 0] 27 (0, 0)) ∧ b03 ≤ k64) := ⟨(hb74.block _ (Array.getElem?_eq_some_iff.1 HK71.out.1).1).trans HK71.out.1, HK71.out.2⟩
      have HF76 := hidF (And.intro (HF70.out.1.below hb74) (And.intro (HF70.out.2.1.below hb74) (HF70.out.2.2.below hb74)))
      refine ⟨hS73, ?_⟩
      (try simp only [List.getElem_toArray, List.getElem_cons_succ, List.getElem_cons_zero, Act.put, List.setIfInBounds_toArray, List.set_cons_zero, List.set_cons_succ])
      refine held_stepS (i := 4) (by kernel_rfl) rfl (by rfl) ?_
      go_simp
      refine (HSP.out W72 _ _ _ HF76.out).mono ?_
      rintro e W77 ⟨⟨s801, s802, s803, rfl, s80p, s80q, s80r⟩, hb79⟩
      obtain ⟨s80a1, s80c1, rfl⟩ := s80p.slice
      obtain ⟨s80a2, s80c2, rfl⟩ := s80q.slice
      obtain ⟨s80a3, s80c3, rfl⟩ := s80r.slice
      have HF81 := hidF (And.intro s80p (And.intro s80q s80r))
      clear s80p s80q s80r
      have hS78 : Below b03 X1 W77 := blFl hS73 hb79 (by rw [HB04.out]; exact hS73.size)
      have HK82 : Hid (W77.heap[k64]? = some (.cells #[.slice none 0 0, .slice none 0 0, .slice none 0 0] 27 (0, 0)) ∧ b03 ≤ k64) := ⟨(hb79.block _ (Array.getElem?_eq_some_iff.1 HK75.out.1).1).trans HK75.out.1, HK75.out.2⟩
      have HF83 := hidF (And.intro (HF76.out.1.below hb79) (And.intro (HF76.out.2.1.below hb79) (HF76.out.2.2.below hb79)))
      refine ⟨hS78, ?_⟩
      (try simp only [List.getElem_toArray, List.getElem_cons_succ, List.getElem_cons_zero, Act.put, List.setIfInBounds_toArray, List.set_cons_zero, List.set_cons_succ])
      refine wpAnyH_take (i := 5) (v := .tuple #[.agg #[.slice s80a1 Y.length s80c1, .slice s80a2 Z.length s80c2, .slice s80a3 U.length s80c3], .int .i64 cc]) rfl (by kernel_rfl) (by kernel_rfl) (by kernel_rfl) (Mrg13.put (fun _ _ _ h => h)) (Or.inl ⟨by rfl, by intro w' hS'; go_simp <;> (first | omega | rfl)⟩) hS78 ?_
      (try simp only [List.getElem_toArray, List.getElem_cons_succ, List.getElem_cons_zero, Act.put, List.setIfInBounds_toArray, List.set_cons_zero, List.set_cons_succ])
      refine wpAnyH_take (i := 6) (v := .agg #[.slice s80a1 Y.length s80c1, .slice s80a2 Z.length s80c2, .slice s80a3 U.length s80c3]) rfl (by kernel_rfl) (by kernel_rfl) (by kernel_rfl) (Mrg13.put (fun _ _ _ h => h)) (Or.inl ⟨by rfl, by intro w' hS'; go_simp <;> (first | omega | rfl)⟩) hS78 ?_
      (try simp only [List.getElem_toArray, List.getElem_cons_succ, List.getElem_cons_zero, Act.put, List.setIfInBounds_toArray, List.set_cons_zero, List.set_cons_succ])
      refine wpAnyH_take (i := 7) (v := .int .i64 cc) rfl (by kernel_rfl) (by kernel_rfl) (by kernel_rfl) (Mrg13.put (fun _ _ _ h => h)) (Or.inl ⟨by rfl, by intro w' hS'; go_simp <;> (first | omega | rfl)⟩) hS78 ?_
      (try simp only [List.getElem_toArray, List.getElem_cons_succ, List.getElem_cons_zero, Act.put, List.setIfInBounds_toArray, List.set_cons_zero, List.set_cons_succ])
      have hz4 := HK82.out.1
      have z0 := cell_of_row _ _ 0 _ _ _ hz4
      have z1 := cell_of_row _ _ 1 _ _ _ hz4
      have z2 := cell_of_row _ _ 2 _ _ _ hz4
      have f0 := frozen_of_row _ _ 0 _ _ hz4
      have f1 := frozen_of_row _ _ 1 _ _ hz4
      have f2 := frozen_of_row _ _ 2 _ _ hz4
      have hS9 : Below b03 X1 (set3b W77 k64 (.slice s80a1 Y.length s80c1) (.slice s80a2 Z.length s80c2) (.slice s80a3 U.length s80c3)) := ((hS78.setCell (p := ⟨k64, 0, none⟩) HK82.out.2 _).setCell (p := ⟨k64, 1, none⟩) HK82.out.2 _).setCell (p := ⟨k64, 2, none⟩) HK82.out.2 _
      have hR9 : (set3b W77 k64 (.slice s80a1 Y.length s80c1) (.slice s80a2 Z.length s80c2) (.slice s80a3 U.length s80c3)).heap[k64]? = some (.cells #[.slice s80a1 Y.length s80c1, .slice s80a2 Z.length s80c2, .slice s80a3 U.length s80c3] 27 (0, 0)) := heap_setCell_same _ _ _ _ _ _ (heap_setCell_same _ _ _ _ _ _ (heap_setCell_same _ _ _ _ _ _ hz4))
      have hO9 : FlV (set3b W77 k64 (.slice s80a1 Y.length s80c1) (.slice s80a2 Z.length s80c2) (.slice s80a3 U.length s80c3)) (.slice s80a1 Y.length s80c1) Y ∧ FlV (set3b W77 k64 (.slice s80a1 Y.length s80c1) (.slice s80a2 Z.length s80c2) (.slice s80a3 U.length s80c3)) (.slice s80a2 Z.length s80c2) Z ∧ DqV (set3b W77 k64 (.slice s80a1 Y.length s80c1) (.slice s80a2 Z.length s80c2) (.slice s80a3 U.length s80c3)) (.slice s80a3 U.length s80c3) U := ⟨HF81.out.1.set3b hz4, HF81.out.2.1.set3b hz4, HF81.out.2.2.set3b hz4⟩
      refine held_stepS (i := 9) (by kernel_rfl) rfl (by rfl) ?_
      go_simp
      refine ⟨hS9, ?_⟩
      (try simp only [List.getElem_toArray, List.getElem_cons_succ, List.getElem_cons_zero, Act.put, List.setIfInBounds_toArray, List.set_cons_zero, List.set_cons_succ])
      clear z0 z1 z2 f0 f1 f2 hz4
      refine held_stepS (i := 10) (by kernel_rfl) rfl (by rfl) ?_
      go_simp
      refine ⟨hS9, ?_⟩
      (try simp only [List.getElem_toArray, List.getElem_cons_succ, List.getElem_cons_zero, Act.put, List.setIfInBounds_toArray, List.set_cons_zero, List.set_cons_succ])
      refine wpAnyH_done (by kernel_rfl) ?_ _
      exact Or.inl ⟨r69a1, r69c1, r69a2, r69c2, r69a3, r69c3, s80a1, s80c1, s80a2, s80c2, s80a3, s80c3, k64, rfl, rfl, hS9, hR9, hO9, HK82.out.2⟩
  intro q1 q2 q3 q4 q5 q6 u1 v1 u2 v2 u3 v3 gw w4 hF
  simp only [Act.put, List.setIfInBounds_toArray, List.set_cons_zero, List.set_cons_succ]
  obtain ⟨hb4, hgw, hp4, hgl⟩ := hF
  have HB4 : Hid (Below w.heap.size w w4) := blFl HB3.out.drew hb4 HB3.out.drew.size
  have HX4 : Hid (w4.heap[bk]? = some (.cells #[a, b, c] 50 (0, 0)) ∧ w4.heap[ok]? = some (.cells #[.int .i64 om, .string oa, .string oq, .string od] 55 (0, 0))) := ⟨(hb4.block _ (Array.getElem?_eq_some_iff.1 HX3.out.1).1).trans HX3.out.1, (hb4.block _ (Array.getElem?_eq_some_iff.1 HX3.out.2).1).trans HX3.out.2⟩
  have HW4 : Hid (w4.heap[gw]? = some (.cells #[.slice u1 Y.length v1, .slice u2 Z.length v2, .slice u3 U.length v3] 27 (0, 0))) := hgw
  have HP4 := hidF hp4
  have HGW : Hid (bk < gw ∧ ok < gw ∧ gw < w4.heap.size) := ⟨Nat.lt_of_lt_of_le (Array.getElem?_eq_some_iff.1 HX3.out.1).1 hgl, Nat.lt_of_lt_of_le (Array.getElem?_eq_some_iff.1 HX3.out.2).1 hgl, (Array.getElem?_eq_some_iff.1 hgw).1⟩
  have HL4 : Hid (∀ g, (.slice u1 Y.length v1 : Value).ownBlock = some g ∨ (.slice u2 Z.length v2 : Value).ownBlock = some g ∨ (.slice u3 U.length v3 : Value).ownBlock = some g → g < w4.heap.size) := fun g hg => by
    rcases hg with h | h | h
    · exact flv_lt HP4.out.1 h
    · exact flv_lt HP4.out.2.1 h
    · exact dqv_lt HP4.out.2.2 h
  clear hb4 hgw hp4 hgl HX3 HBX HB3
  go_wp2_with (refine wpList_load_row rfl 50 _ rfl bk rfl 50 #[a, b, c] (0, 0) _ HX4.out.1 Try.underlying50 rfl hi ?_)
  refine (HTO.out _ HB4.out).mono ?_
  rintro e w6 ⟨⟨x1, x2, x3, rfl, hv6⟩, hb6⟩
  obtain ⟨y1, z1, rfl, _⟩ := hv6.ra.form
  obtain ⟨y2, z2, rfl, _⟩ := hv6.rb.form
  obtain ⟨y3, z3, rfl, _⟩ := hv6.rc.form
  have hb7 : Below w6.heap.size w6 (w6.alloc (.cells #[.slice y1 n z1, .slice y2 m z2, .slice y3 k z3] 27)) := (Below.refl _ _).alloc (Nat.le_refl _) _
  have hb47 : Below w4.heap.size w4 (w6.alloc (.cells #[.slice y1 n z1, .slice y2 m z2, .slice y3 k z3] 27)) := blFl hb6 hb7 hb6.size
  have HQ7 : Hid ((w6.alloc (.cells #[.slice y1 n z1, .slice y2 m z2, .slice y3 k z3] 27)).heap[w6.heap.size]? = some (.cells #[.slice y1 n z1, .slice y2 m z2, .slice y3 k z3] 27 (0, 0))) := heap_alloc_new w6 _
  have HX7 : Hid ((w6.alloc (.cells #[.slice y1 n z1, .slice y2 m z2, .slice y3 k z3] 27)).heap[bk]? = some (.cells #[a, b, c] 50 (0, 0)) ∧ (w6.alloc (.cells #[.slice y1 n z1, .slice y2 m z2, .slice y3 k z3] 27)).heap[ok]? = some (.cells #[.int .i64 om, .string oa, .string oq, .string od] 55 (0, 0)) ∧ (w6.alloc (.cells #[.slice y1 n z1, .slice y2 m z2, .slice y3 k z3] 27)).heap[gw]? = some (.cells #[.slice u1 Y.length v1, .slice u2 Z.length v2, .slice u3 U.length v3] 27 (0, 0))) := ⟨(hb47.block _ (Array.getElem?_eq_some_iff.1 HX4.out.1).1).trans HX4.out.1, (hb47.block _ (Array.getElem?_eq_some_iff.1 HX4.out.2).1).trans HX4.out.2, (hb47.block _ (Array.getElem?_eq_some_iff.1 HW4.out).1).trans HW4.out⟩
  have HB7 := hidF (blFl HB4.out hb47 HB4.out.size)
  have HP7 := hidF (And.intro (HP4.out.1.below hb47) (And.intro (HP4.out.2.1.below hb47) (HP4.out.2.2.below hb47)))
  have HV7 : Hid (DkX w4.heap.size (w6.alloc (.cells #[.slice y1 n z1, .slice y2 m z2, .slice y3 k z3] 27)) (.slice y1 n z1) (.slice y2 m z2) (.slice y3 k z3) n m k L S Q) := ⟨hv6.va.below hb7, hv6.vb.below hb7, hv6.vc.below hb7, hv6.ra.keep fun g hg => hb7.block g (hv6.at_ g (Or.inl hg)).2, hv6.rb.keep fun g hg => hb7.block g (hv6.at_ g (Or.inr (Or.inl hg))).2, hv6.rc.keep fun g hg => hb7.block g (hv6.at_ g (Or.inr (Or.inr hg))).2, fun g hg => ⟨(hv6.at_ g hg).1, Nat.lt_of_lt_of_le (hv6.at_ g hg).2 hb7.size⟩, hv6.ab, hv6.bc⟩
  have HXL : Hid (∀ g, (.slice y1 n z1 : Value).ownBlock = some g ∨ (.slice y2 m z2 : Value).ownBlock = some g ∨ (.slice y3 k z3 : Value).ownBlock = some g → w4.heap.size ≤ g ∧ g < w6.heap.size) := hv6.at_
  have HS7 : Hid (w4.heap.size ≤ w6.heap.size ∧ (w6.alloc (.cells #[.slice y1 n z1, .slice y2 m z2, .slice y3 k z3] 27)).heap.size = w6.heap.size + 1) := ⟨hb6.size, World.size_alloc _ _⟩
  clear hv6 hb6 hb7 hb47 HX4 HW4 HB4 HP4
  go_wp2_with fail
  generalize hW7 : w6.alloc (.cells #[.slice y1 n z1, .slice y2 m z2, .slice y3 k z3] 27) = w7 at HQ7 HX7 HB7 HP7 HV7 HS7 ⊢
  clear hW7
  obtain ⟨gx, hgx⟩ : ∃ gx, gx = w6.heap.size := ⟨_, rfl⟩
  rw [← hgx] at HQ7 HXL HS7 ⊢
  clear hgx
  have HXB : Hid (∀ X0, w7.drew = X0 → ∀ W, Below X0.heap.size X0 W → FlV W (.slice y1 n z1) L ∧ FlV W (.slice y2 m z2) S ∧ DqV W (.slice y3 k z3) Q) := fun X0 h W hb => by rw [← h] at hb; have hb' : Below w7.heap.size w7 W := blFl (Below.refl _ _).drew hb (Nat.le_refl _); exact ⟨HV7.out.va.below hb', HV7.out.vb.below hb', HV7.out.vc.below hb'⟩
  refine region_merge7 (f := fun a0 s1 t1 s2 t2 s3 t3 gg => (((((((((a0.put (some 37) (.agg #[.slice y1 n z1, .slice y2 m z2, .slice y3 k z3])).put (some 38) (.agg #[.int .i64 om, .string oa, .string oq, .string od])).put (some 39) (.agg #[.int .i64 om, .string oa, .string oq, .string od])).put (some 40) (.tuple #[.agg #[.slice s1 Y.length t1, .slice s2 Z.length t2, .slice s3 U.length t3], .int .i64 cc])).put (some 36) (.tuple #[.agg #[.slice s1 Y.length t1, .slice s2 Z.length t2, .slice s3 U.length t3], .int .i64 cc])).put (some 41) (.agg #[.slice s1 Y.length t1, .slice s2 Z.length t2, .slice s3 U.length t3])).put (some 42) (.int .i64 cc)).put (some 9) (.pointer (some ⟨gg, 0, none⟩))).put (some 10) (.int .i64 cc))) (F := fun s1 t1 s2 t2 s3 t3 gg W => Below w7.drew.heap.size w7.drew W ∧ W.heap[gg]? = some (.cells #[.slice s1 Y.length t1, .slice s2 Z.length t2, .slice s3 U.length t3] 27 (0, 0)) ∧ own3 w7.drew.heap.size W (.slice s1 Y.length t1) (.slice s2 Z.length t2) (.slice s3 U.length t3) Y Z U ∧ w7.drew.heap.size ≤ gg ∧ ((∀ j, (.slice s1 Y.length t1 : Value).ownBlock = some j → (.slice s2 Z.length t2 : Value).ownBlock ≠ some j ∧ (.slice s3 U.length t3 : Value).ownBlock ≠ some j) ∧ (∀ j, (.slice s2 Z.length t2 : Value).ownBlock = some j → (.slice s3 U.length t3 : Value).ownBlock ≠ some j))) ?_ ?_
  · refine wp_region_held (S := fun W => Below w7.drew.heap.size w7.drew W) (by kernel_rfl) ?_
    change wpAnyH _ _ _ _ _ _ _ _ (World.drew _)
    have hS85 : Below w7.drew.heap.size w7.drew w7.drew := Below.refl _ _
    generalize hGX : w7.drew = X84 at hS85 ⊢
    obtain ⟨b086, hb0⟩ : ∃ b, b = X84.heap.size := ⟨_, rfl⟩
    have HB087 : Hid (b086 = X84.heap.size) := hb0
    rw [← hb0] at hS85 ⊢
    clear hb0
    have HL88 : Hid (∀ W, Below b086 X84 W → W.rangeAt gx 0 [.slice y1 n z1, .slice y2 m z2, .slice y3 k z3]) := fun W hb j v hv => by
      rw [Nat.zero_add]
      refine (cell_of_row _ _ j _ _ _ ((hb.block _ (by rw [HB087.out]; exact (Array.getElem?_eq_some_iff.1 (show X84.heap[gx]? = _ from by rw [← hGX]; exact HQ7.out)).1)).trans (by rw [← hGX]; exact HQ7.out))).trans ?_
      simpa using hv
    have HL89 : Hid (∀ W, Below b086 X84 W → W.rangeAt ok 0 [.int .i64 om, .string oa, .string oq, .string od]) := fun W hb j v hv => by
      rw [Nat.zero_add]
      refine (cell_of_row _ _ j _ _ _ ((hb.block _ (by rw [HB087.out]; exact (Array.getElem?_eq_some_iff.1 (show X84.heap[ok]? = _ from by rw [← hGX]; exact HX7.out.2.1)).1)).trans (by rw [← hGX]; exact HX7.out.2.1))).trans ?_
      simpa using hv
    have HX90 : Hid (w7.drew = X84) := hGX
    clear hGX
    refine wpAnyH_take (i := 0) (v := .agg #[.slice y1 n z1, .slice y2 m z2, .slice y3 k z3]) rfl (by kernel_rfl) (by kernel_rfl) (by kernel_rfl) (Mrg7.put (fun _ _ _ h => h)) (yieldsIf_load_mid (by rfl) 27 (.tmp 8) rfl gx 0 rfl [.slice y1 n z1, .slice y2 m z2, .slice y3 k z3] _ HL88.out Try.underlying27 rfl (by kernel_rfl)) hS85 ?_
    (try simp only [List.getElem_toArray, List.getElem_cons_succ, List.getElem_cons_zero, Act.put, List.setIfInBounds_toArray, List.set_cons_zero, List.set_cons_succ])
    refine wpAnyH_take (i := 1) (v := .agg #[.int .i64 om, .string oa, .string oq, .string od]) rfl (by kernel_rfl) (by kernel_rfl) (by kernel_rfl) (Mrg7.put (fun _ _ _ h => h)) (yieldsIf_load_mid (by rfl) 55 (.tmp 3) rfl ok 0 rfl [.int .i64 om, .string oa, .string oq, .string od] _ HL89.out Try.underlying55 rfl (by kernel_rfl)) hS85 ?_
    (try simp only [List.getElem_toArray, List.getElem_cons_succ, List.getElem_cons_zero, Act.put, List.setIfInBounds_toArray, List.set_cons_zero, List.set_cons_succ])
    refine held_two (i := 2) (k := 7) (by kernel_rfl) rfl rfl (by rfl) (by rfl) ?_ ?_
    · go_simp
      refine (HTQ.out X84).mono ?_
      rintro e W91 ⟨rfl, hb93⟩
      have hS92 : Below b086 X84 W91 := blFl hS85 hb93 (by rw [HB087.out]; exact hS85.size)
      refine ⟨hS92, ?_⟩
      (try simp only [List.getElem_toArray, List.getElem_cons_succ, List.getElem_cons_zero, Act.put, List.setIfInBounds_toArray, List.set_cons_zero, List.set_cons_succ])
      refine held_two (i := 3) (k := 7) (by kernel_rfl) rfl rfl (by rfl) (by rfl) ?_ ?_
      · go_simp
        refine (HIM.out W91 _ _ _ (HXB.out X84 HX90.out W91 (by rw [← HB087.out]; exact hS92))).mono ?_
        rintro e W94 ⟨⟨s971, s972, s973, rfl, s97p, s97q, s97r, s97d, s97f⟩, hb96⟩
        obtain ⟨s97a1, s97c1, rfl⟩ := ownF_slice s97p
        obtain ⟨s97a2, s97c2, rfl⟩ := ownF_slice s97q
        obtain ⟨s97a3, s97c3, rfl⟩ := ownQ_slice s97r
        have HF98 := hidF (And.intro s97p (And.intro s97q s97r))
        have HF98d := hidF (And.intro s97d s97f)
        clear s97p s97q s97r s97d s97f
        have hS95 : Below b086 X84 W94 := blFl hS92 hb96 (by rw [HB087.out]; exact hS92.size)
        refine ⟨hS95, ?_⟩
        (try simp only [List.getElem_toArray, List.getElem_cons_succ, List.getElem_cons_zero, Act.put, List.setIfInBounds_toArray, List.set_cons_zero, List.set_cons_succ])
        refine wpAnyH_take (i := 4) (v := .tuple #[.agg #[.slice s97a1 Y.length s97c1, .slice s97a2 Z.length s97c2, .slice s97a3 U.length s97c3], .int .i64 cc]) rfl (by kernel_rfl) (by kernel_rfl) (by kernel_rfl) (Mrg7.put (fun _ _ _ h => h)) (Or.inl ⟨by rfl, by intro w' hS'; go_simp <;> (first | omega | rfl)⟩) hS95 ?_
        (try simp only [List.getElem_toArray, List.getElem_cons_succ, List.getElem_cons_zero, Act.put, List.setIfInBounds_toArray, List.set_cons_zero, List.set_cons_succ])
        refine wpAnyH_take (i := 5) (v := .agg #[.slice s97a1 Y.length s97c1, .slice s97a2 Z.length s97c2, .slice s97a3 U.length s97c3]) rfl (by kernel_rfl) (by kernel_rfl) (by kernel_rfl) (Mrg7.put (fun _ _ _ h => h)) (Or.inl ⟨by rfl, by intro w' hS'; go_simp <;> (first | omega | rfl)⟩) hS95 ?_
        (try simp only [List.getElem_toArray, List.getElem_cons_succ, List.getElem_cons_zero, Act.put, List.setIfInBounds_toArray, List.set_cons_zero, List.set_cons_succ])
        refine wpAnyH_take (i := 6) (v := .int .i64 cc) rfl (by kernel_rfl) (by kernel_rfl) (by kernel_rfl) (Mrg7.put (fun _ _ _ h => h)) (Or.inl ⟨by rfl, by intro w' hS'; go_simp <;> (first | omega | rfl)⟩) hS95 ?_
        (try simp only [List.getElem_toArray, List.getElem_cons_succ, List.getElem_cons_zero, Act.put, List.setIfInBounds_toArray, List.set_cons_zero, List.set_cons_succ])
        refine held_stepS (i := 7) (by kernel_rfl) rfl (by rfl) ?_
        go_simp
        have hb101 : Below W94.heap.size W94 (W94.alloc (.cells #[.slice none 0 0, .slice none 0 0, .slice none 0 0] 27)) := (Below.refl _ _).alloc (Nat.le_refl _) _
        have HK103a := heap_alloc_new W94 (.cells #[.slice none 0 0, .slice none 0 0, .slice none 0 0] 27)
        generalize hGW : W94.alloc (.cells #[.slice none 0 0, .slice none 0 0, .slice none 0 0] 27) = W99 at hb101 HK103a ⊢
        clear hGW
        obtain ⟨k102, hkn⟩ : ∃ k, k = W94.heap.size := ⟨_, rfl⟩
        have hS100 : Below b086 X84 W99 := blFl hS95 hb101 (by rw [HB087.out]; exact hS95.size)
        have HK103 : Hid (W99.heap[k102]? = some (.cells #[.slice none 0 0, .slice none 0 0, .slice none 0 0] 27 (0, 0)) ∧ b086 ≤ k102) := ⟨by rw [hkn]; exact HK103a, by rw [hkn, HB087.out]; exact hS95.size⟩
        rw [← hkn]
        have HF104 := hidF (own3_call HF98.out hb101)
        refine ⟨hS100, ?_⟩
        (try simp only [List.getElem_toArray, List.getElem_cons_succ, List.getElem_cons_zero, Act.put, List.setIfInBounds_toArray, List.set_cons_zero, List.set_cons_succ])
        clear hkn HK103a
        have hz4 := HK103.out.1
        have z0 := cell_of_row _ _ 0 _ _ _ hz4
        have z1 := cell_of_row _ _ 1 _ _ _ hz4
        have z2 := cell_of_row _ _ 2 _ _ _ hz4
        have f0 := frozen_of_row _ _ 0 _ _ hz4
        have f1 := frozen_of_row _ _ 1 _ _ hz4
        have f2 := frozen_of_row _ _ 2 _ _ hz4
        have hS9 : Below b086 X84 (set3b W99 k102 (.slice s97a1 Y.length s97c1) (.slice s97a2 Z.length s97c2) (.slice s97a3 U.length s97c3)) := ((hS100.setCell (p := ⟨k102, 0, none⟩) HK103.out.2 _).setCell (p := ⟨k102, 1, none⟩) HK103.out.2 _).setCell (p := ⟨k102, 2, none⟩) HK103.out.2 _
        have hR9 : (set3b W99 k102 (.slice s97a1 Y.length s97c1) (.slice s97a2 Z.length s97c2) (.slice s97a3 U.length s97c3)).heap[k102]? = some (.cells #[.slice s97a1 Y.length s97c1, .slice s97a2 Z.length s97c2, .slice s97a3 U.length s97c3] 27 (0, 0)) := heap_setCell_same _ _ _ _ _ _ (heap_setCell_same _ _ _ _ _ _ (heap_setCell_same _ _ _ _ _ _ hz4))
        have hO9 : own3 b086 (set3b W99 k102 (.slice s97a1 Y.length s97c1) (.slice s97a2 Z.length s97c2) (.slice s97a3 U.length s97c3)) (.slice s97a1 Y.length s97c1) (.slice s97a2 Z.length s97c2) (.slice s97a3 U.length s97c3) Y Z U := own3_set (own3_base HF104.out (by rw [HB087.out]; exact hS92.size)) hz4
        refine held_stepS (i := 8) (by kernel_rfl) rfl (by rfl) ?_
        go_simp
        refine ⟨hS9, ?_⟩
        (try simp only [List.getElem_toArray, List.getElem_cons_succ, List.getElem_cons_zero, Act.put, List.setIfInBounds_toArray, List.set_cons_zero, List.set_cons_succ])
        clear z0 z1 z2 f0 f1 f2 hz4
        refine held_stepS (i := 9) (by kernel_rfl) rfl (by rfl) ?_
        go_simp
        refine ⟨hS9, ?_⟩
        (try simp only [List.getElem_toArray, List.getElem_cons_succ, List.getElem_cons_zero, Act.put, List.setIfInBounds_toArray, List.set_cons_zero, List.set_cons_succ])
        refine wpAnyH_done (by kernel_rfl) ?_ _
        exact Or.inl ⟨s97a1, s97c1, s97a2, s97c2, s97a3, s97c3, k102, rfl, rfl, hS9, hR9, hO9, HK103.out.2, HF98d.out⟩
      · go_simp
        have hb107 : Below W91.heap.size W91 (W91.alloc (.cells #[.slice none 0 0, .slice none 0 0, .slice none 0 0] 27)) := (Below.refl _ _).alloc (Nat.le_refl _) _
        have HK109a := heap_alloc_new W91 (.cells #[.slice none 0 0, .slice none 0 0, .slice none 0 0] 27)
        generalize hGW : W91.alloc (.cells #[.slice none 0 0, .slice none 0 0, .slice none 0 0] 27) = W105 at hb107 HK109a ⊢
        clear hGW
        obtain ⟨k108, hkn⟩ : ∃ k, k = W91.heap.size := ⟨_, rfl⟩
        have hS106 : Below b086 X84 W105 := blFl hS92 hb107 (by rw [HB087.out]; exact hS92.size)
        have HK109 : Hid (W105.heap[k108]? = some (.cells #[.slice none 0 0, .slice none 0 0, .slice none 0 0] 27 (0, 0)) ∧ b086 ≤ k108) := ⟨by rw [hkn]; exact HK109a, by rw [hkn, HB087.out]; exact hS92.size⟩
        rw [← hkn]
        refine ⟨hS106, ?_⟩
        (try simp only [List.getElem_toArray, List.getElem_cons_succ, List.getElem_cons_zero, Act.put, List.setIfInBounds_toArray, List.set_cons_zero, List.set_cons_succ])
        clear hkn HK109a
        refine held_stepS (i := 3) (by kernel_rfl) rfl (by rfl) ?_
        go_simp
        refine (HIM.out W105 _ _ _ (HXB.out X84 HX90.out W105 (by rw [← HB087.out]; exact hS106))).mono ?_
        rintro e W110 ⟨⟨s1131, s1132, s1133, rfl, s113p, s113q, s113r, s113d, s113f⟩, hb112⟩
        obtain ⟨s113a1, s113c1, rfl⟩ := ownF_slice s113p
        obtain ⟨s113a2, s113c2, rfl⟩ := ownF_slice s113q
        obtain ⟨s113a3, s113c3, rfl⟩ := ownQ_slice s113r
        have HF114 := hidF (And.intro s113p (And.intro s113q s113r))
        have HF114d := hidF (And.intro s113d s113f)
        clear s113p s113q s113r s113d s113f
        have hS111 : Below b086 X84 W110 := blFl hS106 hb112 (by rw [HB087.out]; exact hS106.size)
        have HK115 : Hid (W110.heap[k108]? = some (.cells #[.slice none 0 0, .slice none 0 0, .slice none 0 0] 27 (0, 0)) ∧ b086 ≤ k108) := ⟨(hb112.block _ (Array.getElem?_eq_some_iff.1 HK109.out.1).1).trans HK109.out.1, HK109.out.2⟩
        refine ⟨hS111, ?_⟩
        (try simp only [List.getElem_toArray, List.getElem_cons_succ, List.getElem_cons_zero, Act.put, List.setIfInBounds_toArray, List.set_cons_zero, List.set_cons_succ])
        refine wpAnyH_take (i := 4) (v := .tuple #[.agg #[.slice s113a1 Y.length s113c1, .slice s113a2 Z.length s113c2, .slice s113a3 U.length s113c3], .int .i64 cc]) rfl (by kernel_rfl) (by kernel_rfl) (by kernel_rfl) (Mrg7.put (fun _ _ _ h => h)) (Or.inl ⟨by rfl, by intro w' hS'; go_simp <;> (first | omega | rfl)⟩) hS111 ?_
        (try simp only [List.getElem_toArray, List.getElem_cons_succ, List.getElem_cons_zero, Act.put, List.setIfInBounds_toArray, List.set_cons_zero, List.set_cons_succ])
        refine wpAnyH_take (i := 5) (v := .agg #[.slice s113a1 Y.length s113c1, .slice s113a2 Z.length s113c2, .slice s113a3 U.length s113c3]) rfl (by kernel_rfl) (by kernel_rfl) (by kernel_rfl) (Mrg7.put (fun _ _ _ h => h)) (Or.inl ⟨by rfl, by intro w' hS'; go_simp <;> (first | omega | rfl)⟩) hS111 ?_
        (try simp only [List.getElem_toArray, List.getElem_cons_succ, List.getElem_cons_zero, Act.put, List.setIfInBounds_toArray, List.set_cons_zero, List.set_cons_succ])
        refine wpAnyH_take (i := 6) (v := .int .i64 cc) rfl (by kernel_rfl) (by kernel_rfl) (by kernel_rfl) (Mrg7.put (fun _ _ _ h => h)) (Or.inl ⟨by rfl, by intro w' hS'; go_simp <;> (first | omega | rfl)⟩) hS111 ?_
        (try simp only [List.getElem_toArray, List.getElem_cons_succ, List.getElem_cons_zero, Act.put, List.setIfInBounds_toArray, List.set_cons_zero, List.set_cons_succ])
        have hz4 := HK115.out.1
        have z0 := cell_of_row _ _ 0 _ _ _ hz4
        have z1 := cell_of_row _ _ 1 _ _ _ hz4
        have z2 := cell_of_row _ _ 2 _ _ _ hz4
        have f0 := frozen_of_row _ _ 0 _ _ hz4
        have f1 := frozen_of_row _ _ 1 _ _ hz4
        have f2 := frozen_of_row _ _ 2 _ _ hz4
        have hS9 : Below b086 X84 (set3b W110 k108 (.slice s113a1 Y.length s113c1) (.slice s113a2 Z.length s113c2) (.slice s113a3 U.length s113c3)) := ((hS111.setCell (p := ⟨k108, 0, none⟩) HK115.out.2 _).setCell (p := ⟨k108, 1, none⟩) HK115.out.2 _).setCell (p := ⟨k108, 2, none⟩) HK115.out.2 _
        have hR9 : (set3b W110 k108 (.slice s113a1 Y.length s113c1) (.slice s113a2 Z.length s113c2) (.slice s113a3 U.length s113c3)).heap[k108]? = some (.cells #[.slice s113a1 Y.length s113c1, .slice s113a2 Z.length s113c2, .slice s113a3 U.length s113c3] 27 (0, 0)) := heap_setCell_same _ _ _ _ _ _ (heap_setCell_same _ _ _ _ _ _ (heap_setCell_same _ _ _ _ _ _ hz4))
        have hO9 : own3 b086 (set3b W110 k108 (.slice s113a1 Y.length s113c1) (.slice s113a2 Z.length s113c2) (.slice s113a3 U.length s113c3)) (.slice s113a1 Y.length s113c1) (.slice s113a2 Z.length s113c2) (.slice s113a3 U.length s113c3) Y Z U := own3_set (own3_base HF114.out (by rw [HB087.out]; exact hS106.size)) hz4
        refine held_stepS (i := 8) (by kernel_rfl) rfl (by rfl) ?_
        go_simp
        refine ⟨hS9, ?_⟩
        (try simp only [List.getElem_toArray, List.getElem_cons_succ, List.getElem_cons_zero, Act.put, List.setIfInBounds_toArray, List.set_cons_zero, List.set_cons_succ])
        clear z0 z1 z2 f0 f1 f2 hz4
        refine held_stepS (i := 9) (by kernel_rfl) rfl (by rfl) ?_
        go_simp
        refine ⟨hS9, ?_⟩
        (try simp only [List.getElem_toArray, List.getElem_cons_succ, List.getElem_cons_zero, Act.put, List.setIfInBounds_toArray, List.set_cons_zero, List.set_cons_succ])
        refine wpAnyH_done (by kernel_rfl) ?_ _
        exact Or.inl ⟨s113a1, s113c1, s113a2, s113c2, s113a3, s113c3, k108, rfl, rfl, hS9, hR9, hO9, HK115.out.2, HF114d.out⟩
    · go_simp
      have hb118 : Below X84.heap.size X84 (X84.alloc (.cells #[.slice none 0 0, .slice none 0 0, .slice none 0 0] 27)) := (Below.refl _ _).alloc (Nat.le_refl _) _
      have HK120a := heap_alloc_new X84 (.cells #[.slice none 0 0, .slice none 0 0, .slice none 0 0] 27)
      generalize hGW : X84.alloc (.cells #[.slice none 0 0, .slice none 0 0, .slice none 0 0] 27) = W116 at hb118 HK120a ⊢
      clear hGW
      obtain ⟨k119, hkn⟩ : ∃ k, k = X84.heap.size := ⟨_, rfl⟩
      have hS117 : Below b086 X84 W116 := blFl hS85 hb118 (by rw [HB087.out]; exact hS85.size)
      have HK120 : Hid (W116.heap[k119]? = some (.cells #[.slice none 0 0, .slice none 0 0, .slice none 0 0] 27 (0, 0)) ∧ b086 ≤ k119) := ⟨by rw [hkn]; exact HK120a, by rw [hkn, HB087.out]; exact hS85.size⟩
      rw [← hkn]
      refine ⟨hS117, ?_⟩
      (try simp only [List.getElem_toArray, List.getElem_cons_succ, List.getElem_cons_zero, Act.put, List.setIfInBounds_toArray, List.set_cons_zero, List.set_cons_succ])
      clear hkn HK120a
      refine held_stepS (i := 2) (by kernel_rfl) rfl (by rfl) ?_
      go_simp
      refine (HTQ.out W116).mono ?_
      rintro e W121 ⟨rfl, hb123⟩
      have hS122 : Below b086 X84 W121 := blFl hS117 hb123 (by rw [HB087.out]; exact hS117.size)
      have HK124 : Hid (W121.heap[k119]? = some (.cells #[.slice none 0 0, .slice none 0 0, .slice none 0 0] 27 (0, 0)) ∧ b086 ≤ k119) := ⟨(hb123.block _ (Array.getElem?_eq_some_iff.1 HK120.out.1).1).trans HK120.out.1, HK120.out.2⟩
      refine ⟨hS122, ?_⟩
      (try simp only [List.getElem_toArray, List.getElem_cons_succ, List.getElem_cons_zero, Act.put, List.setIfInBounds_toArray, List.set_cons_zero, List.set_cons_succ])
      refine held_stepS (i := 3) (by kernel_rfl) rfl (by rfl) ?_
      go_simp
      refine (HIM.out W121 _ _ _ (HXB.out X84 HX90.out W121 (by rw [← HB087.out]; exact hS122))).mono ?_
      rintro e W125 ⟨⟨s1281, s1282, s1283, rfl, s128p, s128q, s128r, s128d, s128f⟩, hb127⟩
      obtain ⟨s128a1, s128c1, rfl⟩ := ownF_slice s128p
      obtain ⟨s128a2, s128c2, rfl⟩ := ownF_slice s128q
      obtain ⟨s128a3, s128c3, rfl⟩ := ownQ_slice s128r
      have HF129 := hidF (And.intro s128p (And.intro s128q s128r))
      have HF129d := hidF (And.intro s128d s128f)
      clear s128p s128q s128r s128d s128f
      have hS126 : Below b086 X84 W125 := blFl hS122 hb127 (by rw [HB087.out]; exact hS122.size)
      have HK130 : Hid (W125.heap[k119]? = some (.cells #[.slice none 0 0, .slice none 0 0, .slice none 0 0] 27 (0, 0)) ∧ b086 ≤ k119) := ⟨(hb127.block _ (Array.getElem?_eq_some_iff.1 HK124.out.1).1).trans HK124.out.1, HK124.out.2⟩
      refine ⟨hS126, ?_⟩
      (try simp only [List.getElem_toArray, List.getElem_cons_succ, List.getElem_cons_zero, Act.put, List.setIfInBounds_toArray, List.set_cons_zero, List.set_cons_succ])
      refine wpAnyH_take (i := 4) (v := .tuple #[.agg #[.slice s128a1 Y.length s128c1, .slice s128a2 Z.length s128c2, .slice s128a3 U.length s128c3], .int .i64 cc]) rfl (by kernel_rfl) (by kernel_rfl) (by kernel_rfl) (Mrg7.put (fun _ _ _ h => h)) (Or.inl ⟨by rfl, by intro w' hS'; go_simp <;> (first | omega | rfl)⟩) hS126 ?_
      (try simp only [List.getElem_toArray, List.getElem_cons_succ, List.getElem_cons_zero, Act.put, List.setIfInBounds_toArray, List.set_cons_zero, List.set_cons_succ])
      refine wpAnyH_take (i := 5) (v := .agg #[.slice s128a1 Y.length s128c1, .slice s128a2 Z.length s128c2, .slice s128a3 U.length s128c3]) rfl (by kernel_rfl) (by kernel_rfl) (by kernel_rfl) (Mrg7.put (fun _ _ _ h => h)) (Or.inl ⟨by rfl, by intro w' hS'; go_simp <;> (first | omega | rfl)⟩) hS126 ?_
      (try simp only [List.getElem_toArray, List.getElem_cons_succ, List.getElem_cons_zero, Act.put, List.setIfInBounds_toArray, List.set_cons_zero, List.set_cons_succ])
      refine wpAnyH_take (i := 6) (v := .int .i64 cc) rfl (by kernel_rfl) (by kernel_rfl) (by kernel_rfl) (Mrg7.put (fun _ _ _ h => h)) (Or.inl ⟨by rfl, by intro w' hS'; go_simp <;> (first | omega | rfl)⟩) hS126 ?_
      (try simp only [List.getElem_toArray, List.getElem_cons_succ, List.getElem_cons_zero, Act.put, List.setIfInBounds_toArray, List.set_cons_zero, List.set_cons_succ])
      have hz4 := HK130.out.1
      have z0 := cell_of_row _ _ 0 _ _ _ hz4
      have z1 := cell_of_row _ _ 1 _ _ _ hz4
      have z2 := cell_of_row _ _ 2 _ _ _ hz4
      have f0 := frozen_of_row _ _ 0 _ _ hz4
      have f1 := frozen_of_row _ _ 1 _ _ hz4
      have f2 := frozen_of_row _ _ 2 _ _ hz4
      have hS9 : Below b086 X84 (set3b W125 k119 (.slice s128a1 Y.length s128c1) (.slice s128a2 Z.length s128c2) (.slice s128a3 U.length s128c3)) := ((hS126.setCell (p := ⟨k119, 0, none⟩) HK130.out.2 _).setCell (p := ⟨k119, 1, none⟩) HK130.out.2 _).setCell (p := ⟨k119, 2, none⟩) HK130.out.2 _
      have hR9 : (set3b W125 k119 (.slice s128a1 Y.length s128c1) (.slice s128a2 Z.length s128c2) (.slice s128a3 U.length s128c3)).heap[k119]? = some (.cells #[.slice s128a1 Y.length s128c1, .slice s128a2 Z.length s128c2, .slice s128a3 U.length s128c3] 27 (0, 0)) := heap_setCell_same _ _ _ _ _ _ (heap_setCell_same _ _ _ _ _ _ (heap_setCell_same _ _ _ _ _ _ hz4))
      have hO9 : own3 b086 (set3b W125 k119 (.slice s128a1 Y.length s128c1) (.slice s128a2 Z.length s128c2) (.slice s128a3 U.length s128c3)) (.slice s128a1 Y.length s128c1) (.slice s128a2 Z.length s128c2) (.slice s128a3 U.length s128c3) Y Z U := own3_set (own3_base HF129.out (by rw [HB087.out]; exact hS122.size)) hz4
      refine held_stepS (i := 8) (by kernel_rfl) rfl (by rfl) ?_
      go_simp
      refine ⟨hS9, ?_⟩
      (try simp only [List.getElem_toArray, List.getElem_cons_succ, List.getElem_cons_zero, Act.put, List.setIfInBounds_toArray, List.set_cons_zero, List.set_cons_succ])
      clear z0 z1 z2 f0 f1 f2 hz4
      refine held_stepS (i := 9) (by kernel_rfl) rfl (by rfl) ?_
      go_simp
      refine ⟨hS9, ?_⟩
      (try simp only [List.getElem_toArray, List.getElem_cons_succ, List.getElem_cons_zero, Act.put, List.setIfInBounds_toArray, List.set_cons_zero, List.set_cons_succ])
      refine wpAnyH_done (by kernel_rfl) ?_ _
      exact Or.inl ⟨s128a1, s128c1, s128a2, s128c2, s128a3, s128c3, k119, rfl, rfl, hS9, hR9, hO9, HK130.out.2, HF129d.out⟩
  intro s1 t1 s2 t2 s3 t3 gg w8 hF
  simp only [Act.put, List.setIfInBounds_toArray, List.set_cons_zero, List.set_cons_succ]
  obtain ⟨hb8, hgg, ho8, hgl, hdis⟩ := hF
  have hb78 : Below w7.heap.size w7 w8 := blFl (Below.refl _ _).drew hb8 (Nat.le_refl _)
  obtain ⟨AA, hAA⟩ : ∃ AA : World → Prop, AA = fun W => DoW w W bk ok gw gx gg a b c (.slice u1 Y.length v1) (.slice u2 Z.length v2) (.slice u3 U.length v3) (.slice y1 n z1) (.slice y2 m z2) (.slice y3 k z3) (.slice s1 Y.length t1) (.slice s2 Z.length t2) (.slice s3 U.length t3) #[.int .i64 om, .string oa, .string oq, .string od] Y Z U ∧ DkX w4.heap.size W (.slice y1 n z1) (.slice y2 m z2) (.slice y3 k z3) n m k L S Q ∧ own3 w7.heap.size W (.slice s1 Y.length t1) (.slice s2 Z.length t2) (.slice s3 U.length t3) Y Z U := ⟨_, rfl⟩
  have hA8 : AA w8 := by
    rw [hAA]
    exact ⟨⟨blFl HB7.out hb78 HB7.out.size, (hb78.block _ (Array.getElem?_eq_some_iff.1 HX7.out.1).1).trans HX7.out.1, (hb78.block _ (Array.getElem?_eq_some_iff.1 HX7.out.2.1).1).trans HX7.out.2.1, (hb78.block _ (Array.getElem?_eq_some_iff.1 HX7.out.2.2).1).trans HX7.out.2.2, (hb78.block _ (Array.getElem?_eq_some_iff.1 HQ7.out).1).trans HQ7.out, hgg, HP7.out.1.below hb78, HP7.out.2.1.below hb78, HP7.out.2.2.below hb78⟩, ⟨HV7.out.va.below hb78, HV7.out.vb.below hb78, HV7.out.vc.below hb78, HV7.out.ra.keep fun g hg => hb78.block g (HV7.out.at_ g (Or.inl hg)).2, HV7.out.rb.keep fun g hg => hb78.block g (HV7.out.at_ g (Or.inr (Or.inl hg))).2, HV7.out.rc.keep fun g hg => hb78.block g (HV7.out.at_ g (Or.inr (Or.inr hg))).2, fun g hg => ⟨(HV7.out.at_ g hg).1, Nat.lt_of_lt_of_le (HV7.out.at_ g hg).2 hb78.size⟩, HV7.out.ab, HV7.out.bc⟩, ho8⟩
  have HAB : Hid (∀ W W', AA W → Below W.heap.size W W' → AA W') := fun W W' h hb => by
    rw [hAA] at h ⊢
    obtain ⟨h1, h2, h3⟩ := h
    exact ⟨h1.below hb, ⟨h2.va.below hb, h2.vb.below hb, h2.vc.below hb, h2.ra.keep fun g hg => hb.block g (h2.at_ g (Or.inl hg)).2, h2.rb.keep fun g hg => hb.block g (h2.at_ g (Or.inr (Or.inl hg))).2, h2.rc.keep fun g hg => hb.block g (h2.at_ g (Or.inr (Or.inr hg))).2, fun g hg => ⟨(h2.at_ g hg).1, Nat.lt_of_lt_of_le (h2.at_ g hg).2 hb.size⟩, h2.ab, h2.bc⟩, own3_call h3 hb⟩
  have HAS : Hid (∀ W, AA W → DoW w W bk ok gw gx gg a b c (.slice u1 Y.length v1) (.slice u2 Z.length v2) (.slice u3 U.length v3) (.slice y1 n z1) (.slice y2 m z2) (.slice y3 k z3) (.slice s1 Y.length t1) (.slice s2 Z.length t2) (.slice s3 U.length t3) #[.int .i64 om, .string oa, .string oq, .string od] Y Z U) := fun W h => by rw [hAA] at h; exact h.1
  have HAX : Hid (∀ W, AA W → DkX w4.heap.size W (.slice y1 n z1) (.slice y2 m z2) (.slice y3 k z3) n m k L S Q) := fun W h => by rw [hAA] at h; exact h.2.1
  have HAG : Hid (∀ W, AA W → own3 w7.heap.size W (.slice s1 Y.length t1) (.slice s2 Z.length t2) (.slice s3 U.length t3) Y Z U) := fun W h => by rw [hAA] at h; exact h.2.2
  have HGB : Hid (∀ g, (.slice s1 Y.length t1 : Value).ownBlock = some g ∨ (.slice s2 Z.length t2 : Value).ownBlock = some g ∨ (.slice s3 U.length t3 : Value).ownBlock = some g → w7.heap.size ≤ g ∧ g ≠ gg) := fun g hg => ⟨(own3_lt ho8 hg).1, own3_ne ho8 hgg hg⟩
  have HGO := hidF hdis
  have HGL : Hid (w7.heap.size ≤ gg) := hgl
  have HEY9 := hidF (HEY.out _ _ _ _ _ _ _ (HAG.out _ hA8).fl (HAS.out _ hA8).p)
  have hg9 := (HAS.out _ hA8).rg
  have hw9 := (HAS.out _ hA8).rw_
  clear hAA hb8 hgg ho8 hgl hdis hb78 HXB HX7 HQ7 HB7 HP7 HV7
  go_wp2_with (first | refine wpList_load_row rfl 27 _ rfl gg rfl 27 #[.slice s1 Y.length t1, .slice s2 Z.length t2, .slice s3 U.length t3] (0, 0) _ hg9 Try.underlying27 rfl hj ?_ | refine wpList_load_row rfl 27 _ rfl gw rfl 27 #[.slice u1 Y.length v1, .slice u2 Z.length v2, .slice u3 U.length v3] (0, 0) _ hw9 Try.underlying27 rfl hj ?_)
  clear hg9 hw9
  refine HEY9.out.mono ?_
  rintro e w10 ⟨rfl, hb10⟩
  have hA10 := HAB.out _ _ hA8 hb10
  clear hA8 hb10 HEY9
  go_wp2_with fail
  have hSd : AA w10.drew := HAB.out _ _ hA10 (Below.refl _ _).drew
  have HSX : Hid (∀ w', AA w' → w'.rangeAt gx 0 [.slice y1 n z1, .slice y2 m z2, .slice y3 k z3]) := fun w' hq j v hv => by
    rw [Nat.zero_add]
    refine (cell_of_row _ _ j _ _ _ (HAS.out _ hq).rx).trans ?_
    simpa using hv
  have HSY : Hid (∀ w', AA w' → w'.rangeAt bk 0 [a, b, c]) := fun w' hq j v hv => by
    rw [Nat.zero_add]
    refine (cell_of_row _ _ j _ _ _ (HAS.out _ hq).rb).trans ?_
    simpa using hv
  clear hA10
  refine wp_region_held (S := AA) (by kernel_rfl) ?_
  change wpAnyH _ _ _ _ _ _ _ _ (World.drew _)
  generalize hX2 : w10.drew = X2 at hSd ⊢
  clear hX2
  refine wpAnyH_take (i := 0) (v := .agg #[.slice y1 n z1, .slice y2 m z2, .slice y3 k z3]) rfl (by kernel_rfl) (by kernel_rfl) (by kernel_rfl) (fun _ _ _ h => h) (yieldsIf_load_mid (by rfl) 27 (.tmp 8) rfl gx 0 rfl [.slice y1 n z1, .slice y2 m z2, .slice y3 k z3] _ HSX.out Try.underlying27 rfl (by kernel_rfl)) hSd ?_
  (try simp only [List.getElem_toArray, List.getElem_cons_succ, List.getElem_cons_zero, Act.put, List.setIfInBounds_toArray, List.set_cons_zero, List.set_cons_succ])
  refine wpAnyH_take (i := 1) (v := .agg #[a, b, c]) rfl (by kernel_rfl) (by kernel_rfl) (by kernel_rfl) (fun _ _ _ h => h) (yieldsIf_load_mid (by rfl) 50 (.tmp 2) rfl bk 0 rfl [a, b, c] _ HSY.out Try.underlying50 rfl (by kernel_rfl)) hSd ?_
  (try simp only [List.getElem_toArray, List.getElem_cons_succ, List.getElem_cons_zero, Act.put, List.setIfInBounds_toArray, List.set_cons_zero, List.set_cons_succ])
  have HQ8 := hidF (HTO.out X2 (HAS.out _ hSd).bel)
  refine held_stepS (i := 2) (by kernel_rfl) rfl (by rfl) ?_
  go_simp
  refine HQ8.out.mono ?_
  rintro e w11 ⟨⟨q1, q2, q3, rfl, hu⟩, hb11⟩
  have hS11 := HAB.out _ _ hSd hb11
  refine ⟨hS11, ?_⟩
  (try simp only [List.getElem_toArray, List.getElem_cons_succ, List.getElem_cons_zero, Act.put, List.setIfInBounds_toArray, List.set_cons_zero, List.set_cons_succ])
  have HE11 := hidF (HEQ.out w11 _ _ ⟨_, _, _, rfl, (HAX.out _ hS11).va, (HAX.out _ hS11).vb, (HAX.out _ hS11).vc⟩ ⟨_, _, _, rfl, hu.va, hu.vb, hu.vc⟩)
  clear hu hb11 hSd HQ8
  refine held_stepS (i := 3) (by kernel_rfl) rfl (by rfl) ?_
  go_simp
  refine HE11.out.mono ?_
  rintro e w12 ⟨rfl, hb12⟩
  have hS12 := HAB.out _ _ hS11 hb12
  refine ⟨hS12, ?_⟩
  (try simp only [List.getElem_toArray, List.getElem_cons_succ, List.getElem_cons_zero, Act.put, List.setIfInBounds_toArray, List.set_cons_zero, List.set_cons_succ])
  clear hb12 hS11 HE11
  refine wpAnyH_take (i := 4) (v := .bool false) rfl (by kernel_rfl) (by kernel_rfl) (by kernel_rfl) (fun _ _ _ h => h) (Or.inl ⟨by rfl, by intro w' hS'; go_simp <;> (first | omega | rfl)⟩) hS12 ?_
  (try simp only [List.getElem_toArray, List.getElem_cons_succ, List.getElem_cons_zero, Act.put, List.setIfInBounds_toArray, List.set_cons_zero, List.set_cons_succ])
  refine wpAnyH_done (by kernel_rfl) ?_ _
  clear HSX HSY
  have HX12 := hidF (HAX.out _ hS12)
  have hnm := HNM.out
  have HMX := hidF (markDk_any (.slice y1 n z1) (.slice y2 m z2) (.slice y3 k z3) n m k 1 w12 hnm.1 hnm.2.1 hnm.2.2.1 hnm.2.2.2 (by omega) (by omega) HX12.out.ra HX12.out.rb HX12.out.rc (fun g hg => (HX12.out.at_ g hg).2) HX12.out.ab HX12.out.bc)
  have HS12 := hidF (HAS.out _ hS12)
  have HG12 := hidF (HAG.out _ hS12)
  have rx12 := HS12.out.rx
  clear hS12 hnm HX12 HAX HAG HAS HAB
  go_wp2_with (refine wpList_load_row rfl 27 _ rfl gx rfl 27 #[.slice y1 n z1, .slice y2 m z2, .slice y3 k z3] (0, 0) _ rx12 Try.underlying27 rfl hj ?_)
  refine HMX.out.mono ?_
  rintro e w13 ⟨⟨rfl, _, _⟩, hf13⟩
  have hxl := HXL.out
  have hs7 := HS7.out
  have hgw := HGW.out
  have hgb := HGB.out
  have hl4 := HL4.out
  have hgl := HGL.out
  have hbk9 := HBK.out
  have HS13 := hidF (HS12.out.frp hf13 (fun j hp => by have := hxl j hp; omega) (fun hp => by have := hxl _ hp; omega) (fun hp => by have := hxl _ hp; omega) (fun hp => by have := hxl _ hp; omega) (fun hp => by have := hxl _ hp; omega) (fun hp => by have := hxl _ hp; omega) (fun j hj hp => by have := hxl j hp; have := hl4 j hj; omega))
  have HG13 : Hid (own3 w7.heap.size w13 (.slice s1 Y.length t1) (.slice s2 Z.length t2) (.slice s3 U.length t3) Y Z U) := own3_keep HG12.out fun g hg => hf13.block g (own3_lt HG12.out hg).2 (fun hp => by have := hxl g hp; have := (own3_lt HG12.out hg).1; omega)
  have HE13 := hidF (HEY.out w13 _ _ _ _ _ _ HG13.out.fl HS13.out.p)
  clear hf13 rx12 HMX HS12 HG12 hxl hgb hl4
  obtain ⟨kx, hkx⟩ : ∃ kx : Nat, kx = 1 + 2 * n + 2 * m + 4 * k := ⟨_, rfl⟩
  rw [← hkx]
  have hkn : ¬ (kx : Int) < 0 := by omega
  have hg9 := HS13.out.rg
  have hw9 := HS13.out.rw_
  clear hkx hs7 hgw hgl hbk9
  have m0 := cell_of_row _ _ 0 _ _ _ hg9
  have m1 := cell_of_row _ _ 1 _ _ _ hg9
  have m2 := cell_of_row _ _ 2 _ _ _ hg9
  have n0 := cell_of_row _ _ 0 _ _ _ hw9
  have n1 := cell_of_row _ _ 1 _ _ _ hw9
  have n2 := cell_of_row _ _ 2 _ _ _ hw9
  clear hg9 hw9
  go_wp2_with fail
  refine HE13.out.mono ?_
  rintro e w14 ⟨rfl, hb14⟩
  have HS14 := hidF (HS13.out.below hb14)
  have HG14 := hidF (own3_call HG13.out hb14)
  have hfw : Y.length ≤ 60 ∧ Z.length ≤ 60 ∧ U.length ≤ 200 := HFEW.out
  have HMG := hidF (markDkQ_any (.slice s1 Y.length t1) (.slice s2 Z.length t2) (.slice s3 U.length t3) Y.length Z.length U.length 1 w14 (by omega) (by omega) (by omega) (by omega) (by omega) (by omega) (rwf_own HG14.out.1) (rwf_own HG14.out.2.1) (rwq_own HG14.out.2.2) (fun g hg => (own3_lt HG14.out hg).2) HGO.out.1 HGO.out.2)
  have rg14 := HS14.out.rg
  clear hb14 HE13 HS13 HG13 m0 m1 m2 n0 n1 n2 hfw hkn
  go_wp2_with (refine wpList_load_row rfl 27 _ rfl gg rfl 27 #[.slice s1 Y.length t1, .slice s2 Z.length t2, .slice s3 U.length t3] (0, 0) _ rg14 Try.underlying27 rfl hj ?_)
  refine HMG.out.mono ?_
  rintro e w15 ⟨⟨rfl, hm1, hm2, hm3⟩, hf15⟩
  have hgb := HGB.out
  have hl4 := HL4.out
  have hs7 := HS7.out
  have hgw := HGW.out
  have hbk9 := HBK.out
  have HS15 := hidF (HS14.out.frp hf15 (fun j hp => by have := hgb j hp; omega) (fun hp => by have := hgb _ hp; omega) (fun hp => by have := hgb _ hp; omega) (fun hp => by have := hgb _ hp; omega) (fun hp => by have := hgb _ hp; omega) (fun hp => (hgb _ hp).2 rfl) (fun j hj hp => by have := hgb j hp; have := hl4 j hj; omega))
  have HM15 := hidF (And.intro hm1 (And.intro hm2 hm3))
  have hfw : Y.length ≤ 60 ∧ Z.length ≤ 60 ∧ U.length ≤ 200 := HFEW.out
  have HH15 := hidF (heldDkQ_any (.slice s1 Y.length t1) (.slice s2 Z.length t2) (.slice s3 U.length t3) Y.length Z.length U.length 1 w15 hfw.1 hfw.2.1 hfw.2.2 (by omega) (by omega) hm1 hm2 hm3)
  obtain ⟨kg, hkg⟩ : ∃ kg : Nat, kg = 1 + 2 * Y.length + 2 * Z.length + 4 * U.length := ⟨_, rfl⟩
  rw [← hkg] at HH15 ⊢
  have hkn : ¬ (kg : Int) < 0 := by omega
  have HKG := hidF hkg
  have rg15 := HS15.out.rg
  clear hkg hf15 hm1 hm2 hm3 hgb hl4 hs7 hgw hbk9 hfw rg14 HMG HS14 HG14
  go_wp2_with (refine wpList_load_row rfl 27 _ rfl gg rfl 27 #[.slice s1 Y.length t1, .slice s2 Z.length t2, .slice s3 U.length t3] (0, 0) _ rg15 Try.underlying27 rfl hj ?_)
  refine HH15.out.mono ?_
  rintro e w16 ⟨rfl, hb16⟩
  have HS16 := hidF (HS15.out.below hb16)
  have HM16 := hidF (And.intro (mkf_below HM15.out.1 hb16) (And.intro (mkf_below HM15.out.2.1 hb16) (HM15.out.2.2.below hb16)))
  clear hb16 HH15 HS15 HM15 rg15
  go_wp2_with fail
  have HBZ : Hid (∀ X0, w16.drew = X0 → ∀ W, Below X0.heap.size X0 W → Below w.heap.size w W) := fun X0 h W hb => by rw [← h] at hb; exact blFl HS16.out.bel.drew hb HS16.out.bel.drew.size
  refine region_merge13 (f := fun a0 q1 q2 q3 q4 q5 q6 a1 b1 a2 b2 a3 b3 hk => ((((((((((a0.put (some 85) (.agg #[a, b, c])).put (some 86) (.agg #[.slice q1 n q2, .slice q3 m q4, .slice q5 k q6])).put (some 87) (.agg #[.int .i64 om, .string oa, .string oq, .string od])).put (some 88) (.agg #[.int .i64 om, .string oa, .string oq, .string od])).put (some 89) (.tuple #[.agg #[.slice a1 Y.length b1, .slice a2 Z.length b2, .slice a3 U.length b3], .int .i64 cc])).put (some 84) (.tuple #[.agg #[.slice a1 Y.length b1, .slice a2 Z.length b2, .slice a3 U.length b3], .int .i64 cc])).put (some 90) (.agg #[.slice a1 Y.length b1, .slice a2 Z.length b2, .slice a3 U.length b3])).put (some 91) (.int .i64 cc)).put (some 14) (.pointer (some ⟨hk, 0, none⟩))).put (some 15) (.int .i64 cc))) (F := fun (_ : Option Addr) (_ : Nat) (_ : Option Addr) (_ : Nat) (_ : Option Addr) (_ : Nat) a1 b1 a2 b2 a3 b3 hk W => Below w16.drew.heap.size w16.drew W ∧ W.heap[hk]? = some (.cells #[.slice a1 Y.length b1, .slice a2 Z.length b2, .slice a3 U.length b3] 27 (0, 0)) ∧ own3 w16.drew.heap.size W (.slice a1 Y.length b1) (.slice a2 Z.length b2) (.slice a3 U.length b3) Y Z U ∧ w16.drew.heap.size ≤ hk ∧ ((∀ j, (.slice a1 Y.length b1 : Value).ownBlock = some j → (.slice a2 Z.length b2 : Value).ownBlock ≠ some j ∧ (.slice a3 U.length b3 : Value).ownBlock ≠ some j) ∧ (∀ j, (.slice a2 Z.length b2 : Value).ownBlock = some j → (.slice a3 U.length b3 : Value).ownBlock ≠ some j))) ?_ ?_
  · refine wp_region_held (S := fun W => Below w16.drew.heap.size w16.drew W) (by kernel_rfl) ?_
    change wpAnyH _ _ _ _ _ _ _ _ (World.drew _)
    have hS132 : Below w16.drew.heap.size w16.drew w16.drew := Below.refl _ _
    generalize hGX : w16.drew = X131 at hS132 ⊢
    obtain ⟨b0133, hb0⟩ : ∃ b, b = X131.heap.size := ⟨_, rfl⟩
    have HB0134 : Hid (b0133 = X131.heap.size) := hb0
    rw [← hb0] at hS132 ⊢
    clear hb0
    have HL135 : Hid (∀ W, Below b0133 X131 W → W.rangeAt bk 0 [a, b, c]) := fun W hb j v hv => by
      rw [Nat.zero_add]
      refine (cell_of_row _ _ j _ _ _ ((hb.block _ (by rw [HB0134.out]; exact (Array.getElem?_eq_some_iff.1 (show X131.heap[bk]? = _ from by rw [← hGX]; exact HS16.out.rb)).1)).trans (by rw [← hGX]; exact HS16.out.rb))).trans ?_
      simpa using hv
    have HL136 : Hid (∀ W, Below b0133 X131 W → W.rangeAt ok 0 [.int .i64 om, .string oa, .string oq, .string od]) := fun W hb j v hv => by
      rw [Nat.zero_add]
      refine (cell_of_row _ _ j _ _ _ ((hb.block _ (by rw [HB0134.out]; exact (Array.getElem?_eq_some_iff.1 (show X131.heap[ok]? = _ from by rw [← hGX]; exact HS16.out.ro)).1)).trans (by rw [← hGX]; exact HS16.out.ro))).trans ?_
      simpa using hv
    have HX137 : Hid (w16.drew = X131) := hGX
    clear hGX
    refine wpAnyH_take (i := 0) (v := .agg #[a, b, c]) rfl (by kernel_rfl) (by kernel_rfl) (by kernel_rfl) (Mrg13.put (fun _ _ _ h => h)) (yieldsIf_load_mid (by rfl) 50 (.tmp 2) rfl bk 0 rfl [a, b, c] _ HL135.out Try.underlying50 rfl (by kernel_rfl)) hS132 ?_
    (try simp only [List.getElem_toArray, List.getElem_cons_succ, List.getElem_cons_zero, Act.put, List.setIfInBounds_toArray, List.set_cons_zero, List.set_cons_succ])
    refine wpAnyH_take (i := 2) (v := .agg #[.int .i64 om, .string oa, .string oq, .string od]) rfl (by kernel_rfl) (by kernel_rfl) (by kernel_rfl) (Mrg13.put (fun _ _ _ h => h)) (yieldsIf_load_mid (by rfl) 55 (.tmp 3) rfl ok 0 rfl [.int .i64 om, .string oa, .string oq, .string od] _ HL136.out Try.underlying55 rfl (by kernel_rfl)) hS132 ?_
    (try simp only [List.getElem_toArray, List.getElem_cons_succ, List.getElem_cons_zero, Act.put, List.setIfInBounds_toArray, List.set_cons_zero, List.set_cons_succ])
    refine held_two (i := 1) (k := 8) (by kernel_rfl) rfl rfl (by rfl) (by rfl) ?_ ?_
    · go_simp
      refine (HTO.out X131 (HBZ.out X131 HX137.out X131 (by rw [← HB0134.out]; exact hS132))).mono ?_
      rintro e W138 ⟨⟨r1411, r1412, r1413, rfl, r141h⟩, hb140⟩
      obtain ⟨r141a1, r141c1, rfl, _⟩ := r141h.ra.form
      obtain ⟨r141a2, r141c2, rfl, _⟩ := r141h.rb.form
      obtain ⟨r141a3, r141c3, rfl, _⟩ := r141h.rc.form
      have HF142 := hidF (And.intro r141h.va (And.intro r141h.vb r141h.vc))
      clear r141h
      have hS139 : Below b0133 X131 W138 := blFl hS132 hb140 (by rw [HB0134.out]; exact hS132.size)
      refine ⟨hS139, ?_⟩
      (try simp only [List.getElem_toArray, List.getElem_cons_succ, List.getElem_cons_zero, Act.put, List.setIfInBounds_toArray, List.set_cons_zero, List.set_cons_succ])
      refine held_two (i := 3) (k := 8) (by kernel_rfl) rfl rfl (by rfl) (by rfl) ?_ ?_
      · go_simp
        refine (HTQ.out W138).mono ?_
        rintro e W143 ⟨rfl, hb145⟩
        have hS144 : Below b0133 X131 W143 := blFl hS139 hb145 (by rw [HB0134.out]; exact hS139.size)
        have HF146 := hidF (And.intro (HF142.out.1.below hb145) (And.intro (HF142.out.2.1.below hb145) (HF142.out.2.2.below hb145)))
        refine ⟨hS144, ?_⟩
        (try simp only [List.getElem_toArray, List.getElem_cons_succ, List.getElem_cons_zero, Act.put, List.setIfInBounds_toArray, List.set_cons_zero, List.set_cons_succ])
        refine held_two (i := 4) (k := 8) (by kernel_rfl) rfl rfl (by rfl) (by rfl) ?_ ?_
        · go_simp
          refine (HIM.out W143 _ _ _ HF146.out).mono ?_
          rintro e W147 ⟨⟨s1501, s1502, s1503, rfl, s150p, s150q, s150r, s150d, s150f⟩, hb149⟩
          obtain ⟨s150a1, s150c1, rfl⟩ := ownF_slice s150p
          obtain ⟨s150a2, s150c2, rfl⟩ := ownF_slice s150q
          obtain ⟨s150a3, s150c3, rfl⟩ := ownQ_slice s150r
          have HF151 := hidF (And.intro s150p (And.intro s150q s150r))
          have HF151d := hidF (And.intro s150d s150f)
          clear s150p s150q s150r s150d s150f
          have hS148 : Below b0133 X131 W147 := blFl hS144 hb149 (by rw [HB0134.out]; exact hS144.size)
          have HF152 := hidF (And.intro (HF146.out.1.below hb149) (And.intro (HF146.out.2.1.below hb149) (HF146.out.2.2.below hb149)))
          refine ⟨hS148, ?_⟩
          (try simp only [List.getElem_toArray, List.getElem_cons_succ, List.getElem_cons_zero, Act.put, List.setIfInBounds_toArray, List.set_cons_zero, List.set_cons_succ])
          refine wpAnyH_take (i := 5) (v := .tuple #[.agg #[.slice s150a1 Y.length s150c1, .slice s150a2 Z.length s150c2, .slice s150a3 U.length s150c3], .int .i64 cc]) rfl (by kernel_rfl) (by kernel_rfl) (by kernel_rfl) (Mrg13.put (fun _ _ _ h => h)) (Or.inl ⟨by rfl, by intro w' hS'; go_simp <;> (first | omega | rfl)⟩) hS148 ?_
          (try simp only [List.getElem_toArray, List.getElem_cons_succ, List.getElem_cons_zero, Act.put, List.setIfInBounds_toArray, List.set_cons_zero, List.set_cons_succ])
          refine wpAnyH_take (i := 6) (v := .agg #[.slice s150a1 Y.length s150c1, .slice s150a2 Z.length s150c2, .slice s150a3 U.length s150c3]) rfl (by kernel_rfl) (by kernel_rfl) (by kernel_rfl) (Mrg13.put (fun _ _ _ h => h)) (Or.inl ⟨by rfl, by intro w' hS'; go_simp <;> (first | omega | rfl)⟩) hS148 ?_
          (try simp only [List.getElem_toArray, List.getElem_cons_succ, List.getElem_cons_zero, Act.put, List.setIfInBounds_toArray, List.set_cons_zero, List.set_cons_succ])
          refine wpAnyH_take (i := 7) (v := .int .i64 cc) rfl (by kernel_rfl) (by kernel_rfl) (by kernel_rfl) (Mrg13.put (fun _ _ _ h => h)) (Or.inl ⟨by rfl, by intro w' hS'; go_simp <;> (first | omega | rfl)⟩) hS148 ?_
          (try simp only [List.getElem_toArray, List.getElem_cons_succ, List.getElem_cons_zero, Act.put, List.setIfInBounds_toArray, List.set_cons_zero, List.set_cons_succ])
          refine held_stepS (i := 8) (by kernel_rfl) rfl (by rfl) ?_
          go_simp
          have hb155 : Below W147.heap.size W147 (W147.alloc (.cells #[.slice none 0 0, .slice none 0 0, .slice none 0 0] 27)) := (Below.refl _ _).alloc (Nat.le_refl _) _
          have HK157a := heap_alloc_new W147 (.cells #[.slice none 0 0, .slice none 0 0, .slice none 0 0] 27)
          generalize hGW : W147.alloc (.cells #[.slice none 0 0, .slice none 0 0, .slice none 0 0] 27) = W153 at hb155 HK157a ⊢
          clear hGW
          obtain ⟨k156, hkn⟩ : ∃ k, k = W147.heap.size := ⟨_, rfl⟩
          have hS154 : Below b0133 X131 W153 := blFl hS148 hb155 (by rw [HB0134.out]; exact hS148.size)
          have HK157 : Hid (W153.heap[k156]? = some (.cells #[.slice none 0 0, .slice none 0 0, .slice none 0 0] 27 (0, 0)) ∧ b0133 ≤ k156) := ⟨by rw [hkn]; exact HK157a, by rw [hkn, HB0134.out]; exact hS148.size⟩
          rw [← hkn]
          have HF158 := hidF (And.intro (HF152.out.1.below hb155) (And.intro (HF152.out.2.1.below hb155) (HF152.out.2.2.below hb155)))
          have HF159 := hidF (own3_call HF151.out hb155)
          refine ⟨hS154, ?_⟩
          (try simp only [List.getElem_toArray, List.getElem_cons_succ, List.getElem_cons_zero, Act.put, List.setIfInBounds_toArray, List.set_cons_zero, List.set_cons_succ])
          clear hkn HK157a
          have hz4 := HK157.out.1
          have z0 := cell_of_row _ _ 0 _ _ _ hz4
          have z1 := cell_of_row _ _ 1 _ _ _ hz4
          have z2 := cell_of_row _ _ 2 _ _ _ hz4
          have f0 := frozen_of_row _ _ 0 _ _ hz4
          have f1 := frozen_of_row _ _ 1 _ _ hz4
          have f2 := frozen_of_row _ _ 2 _ _ hz4
          have hS9 : Below b0133 X131 (set3b W153 k156 (.slice s150a1 Y.length s150c1) (.slice s150a2 Z.length s150c2) (.slice s150a3 U.length s150c3)) := ((hS154.setCell (p := ⟨k156, 0, none⟩) HK157.out.2 _).setCell (p := ⟨k156, 1, none⟩) HK157.out.2 _).setCell (p := ⟨k156, 2, none⟩) HK157.out.2 _
          have hR9 : (set3b W153 k156 (.slice s150a1 Y.length s150c1) (.slice s150a2 Z.length s150c2) (.slice s150a3 U.length s150c3)).heap[k156]? = some (.cells #[.slice s150a1 Y.length s150c1, .slice s150a2 Z.length s150c2, .slice s150a3 U.length s150c3] 27 (0, 0)) := heap_setCell_same _ _ _ _ _ _ (heap_setCell_same _ _ _ _ _ _ (heap_setCell_same _ _ _ _ _ _ hz4))
          have hO9 : own3 b0133 (set3b W153 k156 (.slice s150a1 Y.length s150c1) (.slice s150a2 Z.length s150c2) (.slice s150a3 U.length s150c3)) (.slice s150a1 Y.length s150c1) (.slice s150a2 Z.length s150c2) (.slice s150a3 U.length s150c3) Y Z U := own3_set (own3_base HF159.out (by rw [HB0134.out]; exact hS144.size)) hz4
          refine held_stepS (i := 9) (by kernel_rfl) rfl (by rfl) ?_
          go_simp
          refine ⟨hS9, ?_⟩
          (try simp only [List.getElem_toArray, List.getElem_cons_succ, List.getElem_cons_zero, Act.put, List.setIfInBounds_toArray, List.set_cons_zero, List.set_cons_succ])
          clear z0 z1 z2 f0 f1 f2 hz4
          refine held_stepS (i := 10) (by kernel_rfl) rfl (by rfl) ?_
          go_simp
          refine ⟨hS9, ?_⟩
          (try simp only [List.getElem_toArray, List.getElem_cons_succ, List.getElem_cons_zero, Act.put, List.setIfInBounds_toArray, List.set_cons_zero, List.set_cons_succ])
          refine wpAnyH_done (by kernel_rfl) ?_ _
          exact Or.inl ⟨r141a1, r141c1, r141a2, r141c2, r141a3, r141c3, s150a1, s150c1, s150a2, s150c2, s150a3, s150c3, k156, rfl, rfl, hS9, hR9, hO9, HK157.out.2, HF151d.out⟩
        · go_simp
          have hb162 : Below W143.heap.size W143 (W143.alloc (.cells #[.slice none 0 0, .slice none 0 0, .slice none 0 0] 27)) := (Below.refl _ _).alloc (Nat.le_refl _) _
          have HK164a := heap_alloc_new W143 (.cells #[.slice none 0 0, .slice none 0 0, .slice none 0 0] 27)
          generalize hGW : W143.alloc (.cells #[.slice none 0 0, .slice none 0 0, .slice none 0 0] 27) = W160 at hb162 HK164a ⊢
          clear hGW
          obtain ⟨k163, hkn⟩ : ∃ k, k = W143.heap.size := ⟨_, rfl⟩
          have hS161 : Below b0133 X131 W160 := blFl hS144 hb162 (by rw [HB0134.out]; exact hS144.size)
          have HK164 : Hid (W160.heap[k163]? = some (.cells #[.slice none 0 0, .slice none 0 0, .slice none 0 0] 27 (0, 0)) ∧ b0133 ≤ k163) := ⟨by rw [hkn]; exact HK164a, by rw [hkn, HB0134.out]; exact hS144.size⟩
          rw [← hkn]
          have HF165 := hidF (And.intro (HF146.out.1.below hb162) (And.intro (HF146.out.2.1.below hb162) (HF146.out.2.2.below hb162)))
          refine ⟨hS161, ?_⟩
          (try simp only [List.getElem_toArray, List.getElem_cons_succ, List.getElem_cons_zero, Act.put, List.setIfInBounds_toArray, List.set_cons_zero, List.set_cons_succ])
          clear hkn HK164a
          refine held_stepS (i := 4) (by kernel_rfl) rfl (by rfl) ?_
          go_simp
          refine (HIM.out W160 _ _ _ HF165.out).mono ?_
          rintro e W166 ⟨⟨s1691, s1692, s1693, rfl, s169p, s169q, s169r, s169d, s169f⟩, hb168⟩
          obtain ⟨s169a1, s169c1, rfl⟩ := ownF_slice s169p
          obtain ⟨s169a2, s169c2, rfl⟩ := ownF_slice s169q
          obtain ⟨s169a3, s169c3, rfl⟩ := ownQ_slice s169r
          have HF170 := hidF (And.intro s169p (And.intro s169q s169r))
          have HF170d := hidF (And.intro s169d s169f)
          clear s169p s169q s169r s169d s169f
          have hS167 : Below b0133 X131 W166 := blFl hS161 hb168 (by rw [HB0134.out]; exact hS161.size)
          have HK171 : Hid (W166.heap[k163]? = some (.cells #[.slice none 0 0, .slice none 0 0, .slice none 0 0] 27 (0, 0)) ∧ b0133 ≤ k163) := ⟨(hb168.block _ (Array.getElem?_eq_some_iff.1 HK164.out.1).1).trans HK164.out.1, HK164.out.2⟩
          have HF172 := hidF (And.intro (HF165.out.1.below hb168) (And.intro (HF165.out.2.1.below hb168) (HF165.out.2.2.below hb168)))
          refine ⟨hS167, ?_⟩
          (try simp only [List.getElem_toArray, List.getElem_cons_succ, List.getElem_cons_zero, Act.put, List.setIfInBounds_toArray, List.set_cons_zero, List.set_cons_succ])
          refine wpAnyH_take (i := 5) (v := .tuple #[.agg #[.slice s169a1 Y.length s169c1, .slice s169a2 Z.length s169c2, .slice s169a3 U.length s169c3], .int .i64 cc]) rfl (by kernel_rfl) (by kernel_rfl) (by kernel_rfl) (Mrg13.put (fun _ _ _ h => h)) (Or.inl ⟨by rfl, by intro w' hS'; go_simp <;> (first | omega | rfl)⟩) hS167 ?_
          (try simp only [List.getElem_toArray, List.getElem_cons_succ, List.getElem_cons_zero, Act.put, List.setIfInBounds_toArray, List.set_cons_zero, List.set_cons_succ])
          refine wpAnyH_take (i := 6) (v := .agg #[.slice s169a1 Y.length s169c1, .slice s169a2 Z.length s169c2, .slice s169a3 U.length s169c3]) rfl (by kernel_rfl) (by kernel_rfl) (by kernel_rfl) (Mrg13.put (fun _ _ _ h => h)) (Or.inl ⟨by rfl, by intro w' hS'; go_simp <;> (first | omega | rfl)⟩) hS167 ?_
          (try simp only [List.getElem_toArray, List.getElem_cons_succ, List.getElem_cons_zero, Act.put, List.setIfInBounds_toArray, List.set_cons_zero, List.set_cons_succ])
          refine wpAnyH_take (i := 7) (v := .int .i64 cc) rfl (by kernel_rfl) (by kernel_rfl) (by kernel_rfl) (Mrg13.put (fun _ _ _ h => h)) (Or.inl ⟨by rfl, by intro w' hS'; go_simp <;> (first | omega | rfl)⟩) hS167 ?_
          (try simp only [List.getElem_toArray, List.getElem_cons_succ, List.getElem_cons_zero, Act.put, List.setIfInBounds_toArray, List.set_cons_zero, List.set_cons_succ])
          have hz4 := HK171.out.1
          have z0 := cell_of_row _ _ 0 _ _ _ hz4
          have z1 := cell_of_row _ _ 1 _ _ _ hz4
          have z2 := cell_of_row _ _ 2 _ _ _ hz4
          have f0 := frozen_of_row _ _ 0 _ _ hz4
          have f1 := frozen_of_row _ _ 1 _ _ hz4
          have f2 := frozen_of_row _ _ 2 _ _ hz4
          have hS9 : Below b0133 X131 (set3b W166 k163 (.slice s169a1 Y.length s169c1) (.slice s169a2 Z.length s169c2) (.slice s169a3 U.length s169c3)) := ((hS167.setCell (p := ⟨k163, 0, none⟩) HK171.out.2 _).setCell (p := ⟨k163, 1, none⟩) HK171.out.2 _).setCell (p := ⟨k163, 2, none⟩) HK171.out.2 _
          have hR9 : (set3b W166 k163 (.slice s169a1 Y.length s169c1) (.slice s169a2 Z.length s169c2) (.slice s169a3 U.length s169c3)).heap[k163]? = some (.cells #[.slice s169a1 Y.length s169c1, .slice s169a2 Z.length s169c2, .slice s169a3 U.length s169c3] 27 (0, 0)) := heap_setCell_same _ _ _ _ _ _ (heap_setCell_same _ _ _ _ _ _ (heap_setCell_same _ _ _ _ _ _ hz4))
          have hO9 : own3 b0133 (set3b W166 k163 (.slice s169a1 Y.length s169c1) (.slice s169a2 Z.length s169c2) (.slice s169a3 U.length s169c3)) (.slice s169a1 Y.length s169c1) (.slice s169a2 Z.length s169c2) (.slice s169a3 U.length s169c3) Y Z U := own3_set (own3_base HF170.out (by rw [HB0134.out]; exact hS161.size)) hz4
          refine held_stepS (i := 9) (by kernel_rfl) rfl (by rfl) ?_
          go_simp
          refine ⟨hS9, ?_⟩
          (try simp only [List.getElem_toArray, List.getElem_cons_succ, List.getElem_cons_zero, Act.put, List.setIfInBounds_toArray, List.set_cons_zero, List.set_cons_succ])
          clear z0 z1 z2 f0 f1 f2 hz4
          refine held_stepS (i := 10) (by kernel_rfl) rfl (by rfl) ?_
          go_simp
          refine ⟨hS9, ?_⟩
          (try simp only [List.getElem_toArray, List.getElem_cons_succ, List.getElem_cons_zero, Act.put, List.setIfInBounds_toArray, List.set_cons_zero, List.set_cons_succ])
          refine wpAnyH_done (by kernel_rfl) ?_ _
          exact Or.inl ⟨r141a1, r141c1, r141a2, r141c2, r141a3, r141c3, s169a1, s169c1, s169a2, s169c2, s169a3, s169c3, k163, rfl, rfl, hS9, hR9, hO9, HK171.out.2, HF170d.out⟩
      · go_simp
        have hb175 : Below W138.heap.size W138 (W138.alloc (.cells #[.slice none 0 0, .slice none 0 0, .slice none 0 0] 27)) := (Below.refl _ _).alloc (Nat.le_refl _) _
        have HK177a := heap_alloc_new W138 (.cells #[.slice none 0 0, .slice none 0 0, .slice none 0 0] 27)
        generalize hGW : W138.alloc (.cells #[.slice none 0 0, .slice none 0 0, .slice none 0 0] 27) = W173 at hb175 HK177a ⊢
        clear hGW
        obtain ⟨k176, hkn⟩ : ∃ k, k = W138.heap.size := ⟨_, rfl⟩
        have hS174 : Below b0133 X131 W173 := blFl hS139 hb175 (by rw [HB0134.out]; exact hS139.size)
        have HK177 : Hid (W173.heap[k176]? = some (.cells #[.slice none 0 0, .slice none 0 0, .slice none 0 0] 27 (0, 0)) ∧ b0133 ≤ k176) := ⟨by rw [hkn]; exact HK177a, by rw [hkn, HB0134.out]; exact hS139.size⟩
        rw [← hkn]
        have HF178 := hidF (And.intro (HF142.out.1.below hb175) (And.intro (HF142.out.2.1.below hb175) (HF142.out.2.2.below hb175)))
        refine ⟨hS174, ?_⟩
        (try simp only [List.getElem_toArray, List.getElem_cons_succ, List.getElem_cons_zero, Act.put, List.setIfInBounds_toArray, List.set_cons_zero, List.set_cons_succ])
        clear hkn HK177a
        refine held_stepS (i := 3) (by kernel_rfl) rfl (by rfl) ?_
        go_simp
        refine (HTQ.out W173).mono ?_
        rintro e W179 ⟨rfl, hb181⟩
        have hS180 : Below b0133 X131 W179 := blFl hS174 hb181 (by rw [HB0134.out]; exact hS174.size)
        have HK182 : Hid (W179.heap[k176]? = some (.cells #[.slice none 0 0, .slice none 0 0, .slice none 0 0] 27 (0, 0)) ∧ b0133 ≤ k176) := ⟨(hb181.block _ (Array.getElem?_eq_some_iff.1 HK177.out.1).1).trans HK177.out.1, HK177.out.2⟩
        have HF183 := hidF (And.intro (HF178.out.1.below hb181) (And.intro (HF178.out.2.1.below hb181) (HF178.out.2.2.below hb181)))
        refine ⟨hS180, ?_⟩
        (try simp only [List.getElem_toArray, List.getElem_cons_succ, List.getElem_cons_zero, Act.put, List.setIfInBounds_toArray, List.set_cons_zero, List.set_cons_succ])
        refine held_stepS (i := 4) (by kernel_rfl) rfl (by rfl) ?_
        go_simp
        refine (HIM.out W179 _ _ _ HF183.out).mono ?_
        rintro e W184 ⟨⟨s1871, s1872, s1873, rfl, s187p, s187q, s187r, s187d, s187f⟩, hb186⟩
        obtain ⟨s187a1, s187c1, rfl⟩ := ownF_slice s187p
        obtain ⟨s187a2, s187c2, rfl⟩ := ownF_slice s187q
        obtain ⟨s187a3, s187c3, rfl⟩ := ownQ_slice s187r
        have HF188 := hidF (And.intro s187p (And.intro s187q s187r))
        have HF188d := hidF (And.intro s187d s187f)
        clear s187p s187q s187r s187d s187f
        have hS185 : Below b0133 X131 W184 := blFl hS180 hb186 (by rw [HB0134.out]; exact hS180.size)
        have HK189 : Hid (W184.heap[k176]? = some (.cells #[.slice none 0 0, .slice none 0 0, .slice none 0 0] 27 (0, 0)) ∧ b0133 ≤ k176) := ⟨(hb186.block _ (Array.getElem?_eq_some_iff.1 HK182.out.1).1).trans HK182.out.1, HK182.out.2⟩
        have HF190 := hidF (And.intro (HF183.out.1.below hb186) (And.intro (HF183.out.2.1.below hb186) (HF183.out.2.2.below hb186)))
        refine ⟨hS185, ?_⟩
        (try simp only [List.getElem_toArray, List.getElem_cons_succ, List.getElem_cons_zero, Act.put, List.setIfInBounds_toArray, List.set_cons_zero, List.set_cons_succ])
        refine wpAnyH_take (i := 5) (v := .tuple #[.agg #[.slice s187a1 Y.length s187c1, .slice s187a2 Z.length s187c2, .slice s187a3 U.length s187c3], .int .i64 cc]) rfl (by kernel_rfl) (by kernel_rfl) (by kernel_rfl) (Mrg13.put (fun _ _ _ h => h)) (Or.inl ⟨by rfl, by intro w' hS'; go_simp <;> (first | omega | rfl)⟩) hS185 ?_
        (try simp only [List.getElem_toArray, List.getElem_cons_succ, List.getElem_cons_zero, Act.put, List.setIfInBounds_toArray, List.set_cons_zero, List.set_cons_succ])
        refine wpAnyH_take (i := 6) (v := .agg #[.slice s187a1 Y.length s187c1, .slice s187a2 Z.length s187c2, .slice s187a3 U.length s187c3]) rfl (by kernel_rfl) (by kernel_rfl) (by kernel_rfl) (Mrg13.put (fun _ _ _ h => h)) (Or.inl ⟨by rfl, by intro w' hS'; go_simp <;> (first | omega | rfl)⟩) hS185 ?_
        (try simp only [List.getElem_toArray, List.getElem_cons_succ, List.getElem_cons_zero, Act.put, List.setIfInBounds_toArray, List.set_cons_zero, List.set_cons_succ])
        refine wpAnyH_take (i := 7) (v := .int .i64 cc) rfl (by kernel_rfl) (by kernel_rfl) (by kernel_rfl) (Mrg13.put (fun _ _ _ h => h)) (Or.inl ⟨by rfl, by intro w' hS'; go_simp <;> (first | omega | rfl)⟩) hS185 ?_
        (try simp only [List.getElem_toArray, List.getElem_cons_succ, List.getElem_cons_zero, Act.put, List.setIfInBounds_toArray, List.set_cons_zero, List.set_cons_succ])
        have hz4 := HK189.out.1
        have z0 := cell_of_row _ _ 0 _ _ _ hz4
        have z1 := cell_of_row _ _ 1 _ _ _ hz4
        have z2 := cell_of_row _ _ 2 _ _ _ hz4
        have f0 := frozen_of_row _ _ 0 _ _ hz4
        have f1 := frozen_of_row _ _ 1 _ _ hz4
        have f2 := frozen_of_row _ _ 2 _ _ hz4
        have hS9 : Below b0133 X131 (set3b W184 k176 (.slice s187a1 Y.length s187c1) (.slice s187a2 Z.length s187c2) (.slice s187a3 U.length s187c3)) := ((hS185.setCell (p := ⟨k176, 0, none⟩) HK189.out.2 _).setCell (p := ⟨k176, 1, none⟩) HK189.out.2 _).setCell (p := ⟨k176, 2, none⟩) HK189.out.2 _
        have hR9 : (set3b W184 k176 (.slice s187a1 Y.length s187c1) (.slice s187a2 Z.length s187c2) (.slice s187a3 U.length s187c3)).heap[k176]? = some (.cells #[.slice s187a1 Y.length s187c1, .slice s187a2 Z.length s187c2, .slice s187a3 U.length s187c3] 27 (0, 0)) := heap_setCell_same _ _ _ _ _ _ (heap_setCell_same _ _ _ _ _ _ (heap_setCell_same _ _ _ _ _ _ hz4))
        have hO9 : own3 b0133 (set3b W184 k176 (.slice s187a1 Y.length s187c1) (.slice s187a2 Z.length s187c2) (.slice s187a3 U.length s187c3)) (.slice s187a1 Y.length s187c1) (.slice s187a2 Z.length s187c2) (.slice s187a3 U.length s187c3) Y Z U := own3_set (own3_base HF188.out (by rw [HB0134.out]; exact hS180.size)) hz4
        refine held_stepS (i := 9) (by kernel_rfl) rfl (by rfl) ?_
        go_simp
        refine ⟨hS9, ?_⟩
        (try simp only [List.getElem_toArray, List.getElem_cons_succ, List.getElem_cons_zero, Act.put, List.setIfInBounds_toArray, List.set_cons_zero, List.set_cons_succ])
        clear z0 z1 z2 f0 f1 f2 hz4
        refine held_stepS (i := 10) (by kernel_rfl) rfl (by rfl) ?_
        go_simp
        refine ⟨hS9, ?_⟩
        (try simp only [List.getElem_toArray, List.getElem_cons_succ, List.getElem_cons_zero, Act.put, List.setIfInBounds_toArray, List.set_cons_zero, List.set_cons_succ])
        refine wpAnyH_done (by kernel_rfl) ?_ _
        exact Or.inl ⟨r141a1, r141c1, r141a2, r141c2, r141a3, r141c3, s187a1, s187c1, s187a2, s187c2, s187a3, s187c3, k176, rfl, rfl, hS9, hR9, hO9, HK189.out.2, HF188d.out⟩
    · go_simp
      have hb193 : Below X131.heap.size X131 (X131.alloc (.cells #[.slice none 0 0, .slice none 0 0, .slice none 0 0] 27)) := (Below.refl _ _).alloc (Nat.le_refl _) _
      have HK195a := heap_alloc_new X131 (.cells #[.slice none 0 0, .slice none 0 0, .slice none 0 0] 27)
      generalize hGW : X131.alloc (.cells #[.slice none 0 0, .slice none 0 0, .slice none 0 0] 27) = W191 at hb193 HK195a ⊢
      clear hGW
      obtain ⟨k194, hkn⟩ : ∃ k, k = X131.heap.size := ⟨_, rfl⟩
      have hS192 : Below b0133 X131 W191 := blFl hS132 hb193 (by rw [HB0134.out]; exact hS132.size)
      have HK195 : Hid (W191.heap[k194]? = some (.cells #[.slice none 0 0, .slice none 0 0, .slice none 0 0] 27 (0, 0)) ∧ b0133 ≤ k194) := ⟨by rw [hkn]; exact HK195a, by rw [hkn, HB0134.out]; exact hS132.size⟩
      rw [← hkn]
      refine ⟨hS192, ?_⟩
      (try simp only [List.getElem_toArray, List.getElem_cons_succ, List.getElem_cons_zero, Act.put, List.setIfInBounds_toArray, List.set_cons_zero, List.set_cons_succ])
      clear hkn HK195a
      refine held_stepS (i := 1) (by kernel_rfl) rfl (by rfl) ?_
      go_simp
      refine (HTO.out W191 (HBZ.out X131 HX137.out W191 (by rw [← HB0134.out]; exact hS192))).mono ?_
      rintro e W196 ⟨⟨r1991, r1992, r1993, rfl, r199h⟩, hb198⟩
      obtain ⟨r199a1, r199c1, rfl, _⟩ := r199h.ra.form
      obtain ⟨r199a2, r199c2, rfl, _⟩ := r199h.rb.form
      obtain ⟨r199a3, r199c3, rfl, _⟩ := r199h.rc.form
      have HF200 := hidF (And.intro r199h.va (And.intro r199h.vb r199h.vc))
      clear r199h
      have hS197 : Below b0133 X131 W196 := blFl hS192 hb198 (by rw [HB0134.out]; exact hS192.size)
      have HK201 : Hid (W196.heap[k194]? = some (.cells #[.slice none 0 0, .slice none 0 0, .slice none 0 0] 27 (0, 0)) ∧ b0133 ≤ k194) := ⟨(hb198.block _ (Array.getElem?_eq_some_iff.1 HK195.out.1).1).trans HK195.out.1, HK195.out.2⟩
      refine ⟨hS197, ?_⟩
      (try simp only [List.getElem_toArray, List.getElem_cons_succ, List.getElem_cons_zero, Act.put, List.setIfInBounds_toArray, List.set_cons_zero, List.set_cons_succ])
      refine held_stepS (i := 3) (by kernel_rfl) rfl (by rfl) ?_
      go_simp
      refine (HTQ.out W196).mono ?_
      rintro e W202 ⟨rfl, hb204⟩
      have hS203 : Below b0133 X131 W202 := blFl hS197 hb204 (by rw [HB0134.out]; exact hS197.size)
      have HK205 : Hid (W202.heap[k194]? = some (.cells #[.slice none 0 0, .slice none 0 0, .slice none 0 0] 27 (0, 0)) ∧ b0133 ≤ k194) := ⟨(hb204.block _ (Array.getElem?_eq_some_iff.1 HK201.out.1).1).trans HK201.out.1, HK201.out.2⟩
      have HF206 := hidF (And.intro (HF200.out.1.below hb204) (And.intro (HF200.out.2.1.below hb204) (HF200.out.2.2.below hb204)))
      refine ⟨hS203, ?_⟩
      (try simp only [List.getElem_toArray, List.getElem_cons_succ, List.getElem_cons_zero, Act.put, List.setIfInBounds_toArray, List.set_cons_zero, List.set_cons_succ])
      refine held_stepS (i := 4) (by kernel_rfl) rfl (by rfl) ?_
      go_simp
      refine (HIM.out W202 _ _ _ HF206.out).mono ?_
      rintro e W207 ⟨⟨s2101, s2102, s2103, rfl, s210p, s210q, s210r, s210d, s210f⟩, hb209⟩
      obtain ⟨s210a1, s210c1, rfl⟩ := ownF_slice s210p
      obtain ⟨s210a2, s210c2, rfl⟩ := ownF_slice s210q
      obtain ⟨s210a3, s210c3, rfl⟩ := ownQ_slice s210r
      have HF211 := hidF (And.intro s210p (And.intro s210q s210r))
      have HF211d := hidF (And.intro s210d s210f)
      clear s210p s210q s210r s210d s210f
      have hS208 : Below b0133 X131 W207 := blFl hS203 hb209 (by rw [HB0134.out]; exact hS203.size)
      have HK212 : Hid (W207.heap[k194]? = some (.cells #[.slice none 0 0, .slice none 0 0, .slice none 0 0] 27 (0, 0)) ∧ b0133 ≤ k194) := ⟨(hb209.block _ (Array.getElem?_eq_some_iff.1 HK205.out.1).1).trans HK205.out.1, HK205.out.2⟩
      have HF213 := hidF (And.intro (HF206.out.1.below hb209) (And.intro (HF206.out.2.1.below hb209) (HF206.out.2.2.below hb209)))
      refine ⟨hS208, ?_⟩
      (try simp only [List.getElem_toArray, List.getElem_cons_succ, List.getElem_cons_zero, Act.put, List.setIfInBounds_toArray, List.set_cons_zero, List.set_cons_succ])
      refine wpAnyH_take (i := 5) (v := .tuple #[.agg #[.slice s210a1 Y.length s210c1, .slice s210a2 Z.length s210c2, .slice s210a3 U.length s210c3], .int .i64 cc]) rfl (by kernel_rfl) (by kernel_rfl) (by kernel_rfl) (Mrg13.put (fun _ _ _ h => h)) (Or.inl ⟨by rfl, by intro w' hS'; go_simp <;> (first | omega | rfl)⟩) hS208 ?_
      (try simp only [List.getElem_toArray, List.getElem_cons_succ, List.getElem_cons_zero, Act.put, List.setIfInBounds_toArray, List.set_cons_zero, List.set_cons_succ])
      refine wpAnyH_take (i := 6) (v := .agg #[.slice s210a1 Y.length s210c1, .slice s210a2 Z.length s210c2, .slice s210a3 U.length s210c3]) rfl (by kernel_rfl) (by kernel_rfl) (by kernel_rfl) (Mrg13.put (fun _ _ _ h => h)) (Or.inl ⟨by rfl, by intro w' hS'; go_simp <;> (first | omega | rfl)⟩) hS208 ?_
      (try simp only [List.getElem_toArray, List.getElem_cons_succ, List.getElem_cons_zero, Act.put, List.setIfInBounds_toArray, List.set_cons_zero, List.set_cons_succ])
      refine wpAnyH_take (i := 7) (v := .int .i64 cc) rfl (by kernel_rfl) (by kernel_rfl) (by kernel_rfl) (Mrg13.put (fun _ _ _ h => h)) (Or.inl ⟨by rfl, by intro w' hS'; go_simp <;> (first | omega | rfl)⟩) hS208 ?_
      (try simp only [List.getElem_toArray, List.getElem_cons_succ, List.getElem_cons_zero, Act.put, List.setIfInBounds_toArray, List.set_cons_zero, List.set_cons_succ])
      have hz4 := HK212.out.1
      have z0 := cell_of_row _ _ 0 _ _ _ hz4
      have z1 := cell_of_row _ _ 1 _ _ _ hz4
      have z2 := cell_of_row _ _ 2 _ _ _ hz4
      have f0 := frozen_of_row _ _ 0 _ _ hz4
      have f1 := frozen_of_row _ _ 1 _ _ hz4
      have f2 := frozen_of_row _ _ 2 _ _ hz4
      have hS9 : Below b0133 X131 (set3b W207 k194 (.slice s210a1 Y.length s210c1) (.slice s210a2 Z.length s210c2) (.slice s210a3 U.length s210c3)) := ((hS208.setCell (p := ⟨k194, 0, none⟩) HK212.out.2 _).setCell (p := ⟨k194, 1, none⟩) HK212.out.2 _).setCell (p := ⟨k194, 2, none⟩) HK212.out.2 _
      have hR9 : (set3b W207 k194 (.slice s210a1 Y.length s210c1) (.slice s210a2 Z.length s210c2) (.slice s210a3 U.length s210c3)).heap[k194]? = some (.cells #[.slice s210a1 Y.length s210c1, .slice s210a2 Z.length s210c2, .slice s210a3 U.length s210c3] 27 (0, 0)) := heap_setCell_same _ _ _ _ _ _ (heap_setCell_same _ _ _ _ _ _ (heap_setCell_same _ _ _ _ _ _ hz4))
      have hO9 : own3 b0133 (set3b W207 k194 (.slice s210a1 Y.length s210c1) (.slice s210a2 Z.length s210c2) (.slice s210a3 U.length s210c3)) (.slice s210a1 Y.length s210c1) (.slice s210a2 Z.length s210c2) (.slice s210a3 U.length s210c3) Y Z U := own3_set (own3_base HF211.out (by rw [HB0134.out]; exact hS203.size)) hz4
      refine held_stepS (i := 9) (by kernel_rfl) rfl (by rfl) ?_
      go_simp
      refine ⟨hS9, ?_⟩
      (try simp only [List.getElem_toArray, List.getElem_cons_succ, List.getElem_cons_zero, Act.put, List.setIfInBounds_toArray, List.set_cons_zero, List.set_cons_succ])
      clear z0 z1 z2 f0 f1 f2 hz4
      refine held_stepS (i := 10) (by kernel_rfl) rfl (by rfl) ?_
      go_simp
      refine ⟨hS9, ?_⟩
      (try simp only [List.getElem_toArray, List.getElem_cons_succ, List.getElem_cons_zero, Act.put, List.setIfInBounds_toArray, List.set_cons_zero, List.set_cons_succ])
      refine wpAnyH_done (by kernel_rfl) ?_ _
      exact Or.inl ⟨r199a1, r199c1, r199a2, r199c2, r199a3, r199c3, s210a1, s210c1, s210a2, s210c2, s210a3, s210c3, k194, rfl, rfl, hS9, hR9, hO9, HK212.out.2, HF211d.out⟩
  intro q1 q2 q3 q4 q5 q6 a1 b1 a2 b2 a3 b3 hk w18 hF
  simp only [Act.put, List.setIfInBounds_toArray, List.set_cons_zero, List.set_cons_succ]
  obtain ⟨hb18, hr18, ho18, _, _⟩ := hF
  have hb19 : Below w16.heap.size w16 w18 := blFl (Below.refl _ _).drew hb18 (Nat.le_refl _)
  have HS19 := hidF (HS16.out.below hb19)
  have HM19 := hidF (And.intro (mkf_below HM16.out.1 hb19) (And.intro (mkf_below HM16.out.2.1 hb19) (HM16.out.2.2.below hb19)))
  have HE19 := hidF (HEY.out _ _ _ _ _ _ _ ho18.fl HS19.out.p)
  have hw19 := HS19.out.rw_
  clear hb18 hb19 ho18 HS16 HM16 HBZ
  go_wp2_with (first | refine wpList_load_row rfl 27 _ rfl hk rfl 27 #[.slice a1 Y.length b1, .slice a2 Z.length b2, .slice a3 U.length b3] (0, 0) _ hr18 Try.underlying27 rfl hj ?_ | refine wpList_load_row rfl 27 _ rfl gw rfl 27 #[.slice u1 Y.length v1, .slice u2 Z.length v2, .slice u3 U.length v3] (0, 0) _ hw19 Try.underlying27 rfl hj ?_)
  clear hr18 hw19
  refine HE19.out.mono ?_
  rintro e w20 ⟨rfl, hb20⟩
  have HS20 := hidF (HS19.out.below hb20)
  have hfw : Y.length ≤ 60 ∧ Z.length ≤ 60 ∧ U.length ≤ 200 := HFEW.out
  have hh20 := heldDkQ_any (.slice s1 Y.length t1) (.slice s2 Z.length t2) (.slice s3 U.length t3) Y.length Z.length U.length 1 w20 hfw.1 hfw.2.1 hfw.2.2 (by omega) (by omega) (mkf_below HM19.out.1 hb20) (mkf_below HM19.out.2.1 hb20) (HM19.out.2.2.below hb20)
  rw [← HKG.out] at hh20
  have HH20 := hidF hh20
  have rg20 := HS20.out.rg
  clear hb20 hh20 hfw HS19 HM19 HE19
  go_wp2_with (refine wpList_load_row rfl 27 _ rfl gg rfl 27 #[.slice s1 Y.length t1, .slice s2 Z.length t2, .slice s3 U.length t3] (0, 0) _ rg20 Try.underlying27 rfl hj ?_)
  refine HH20.out.mono ?_
  rintro e w21 ⟨rfl, hb21⟩
  have HB21 := hidF (blFl HS20.out.bel hb21 HS20.out.bel.size)
  clear hb21 HS20 HH20 rg20
  go_wp2_with fail
  go_ret
  exact ⟨rfl, HB21.out⟩
theorem array3x {α : Type} {cs : Array α} (h : cs.size = 3) : ∃ c0 c1 c2, cs = #[c0, c1, c2] := by
  obtain ⟨l⟩ := cs
  match l, h with
  | [c0, c1, c2], _ => exact ⟨c0, c1, c2, rfl⟩
set_option maxRecDepth 100000 in
theorem read3 {H : Type} {enc : TypeId × Value → H} {W : World} {v : Value} {d : DataW H} {ps : List MemPlace} (h0 : DataW.Trod enc Try.prog W 0 (fun _ => true) true 50 v d ps) (ho : Value.okWide Try.prog W .any 0 50 v) :
    ∃ (a b c : Value) (n m k : Nat) (F G : Nat → FlI) (O : Nat → DqI), v = .agg #[a, b, c] ∧ (n ≤ maxLen ∧ m ≤ maxLen ∧ k ≤ maxLen) ∧ (∀ i, i < n → (F i).a.size ≤ maxLen ∧ (F i).d.size ≤ maxLen) ∧ (∀ i, i < m → (G i).a.size ≤ maxLen ∧ (G i).d.size ≤ maxLen) ∧ (∀ i, i < k → (O i).a.size ≤ maxLen ∧ (O i).p.size ≤ maxLen ∧ (O i).d.size ≤ maxLen) ∧ FlIn W a n F ∧ FlIn W b m G ∧ DqIn W c k O := by
  obtain ⟨cs, rfl, hsz⟩ := okWide_struct Try.underlying50 ho
  have hsz3 : cs.size = 3 := hsz.trans (by kernel_rfl)
  obtain ⟨c0, c1, c2, rfl⟩ := array3x hsz3
  obtain ⟨fuel, hf⟩ := h0
  obtain ⟨y0, y1, y2, n, _, _, t0, t1, t2⟩ := Go.Deep.trod_struct3 Try.underlying50 hf
  have cF : Try.prog.cellsOf 47 = 1 := by kernel_rfl
  have cD : Try.prog.cellsOf 48 = 1 := by kernel_rfl
  rw [cF] at t0 t1
  rw [cD] at t2
  simp [Value.cells] at t0 t1 t2
  obtain ⟨a1, n1, k1, rfl⟩ : ∃ a n k, c0 = .slice a n k := by
    rcases Go.Deep.open_slice Try.underlying47 t0 with ⟨h, _⟩ | ⟨a', len, cap, m, nn, D, Pl, hcs, _⟩
    · cases h; exact ⟨_, _, _, rfl⟩
    · cases hcs; exact ⟨_, _, _, rfl⟩
  obtain ⟨a2, n2, k2, rfl⟩ : ∃ a n k, c1 = .slice a n k := by
    rcases Go.Deep.open_slice Try.underlying47 t1 with ⟨h, _⟩ | ⟨a', len, cap, m, nn, D, Pl, hcs, _⟩
    · cases h; exact ⟨_, _, _, rfl⟩
    · cases hcs; exact ⟨_, _, _, rfl⟩
  obtain ⟨a3, n3, k3, rfl⟩ : ∃ a n k, c2 = .slice a n k := by
    rcases Go.Deep.open_slice Try.underlying48 t2 with ⟨h, _⟩ | ⟨a', len, cap, m, nn, D, Pl, hcs, _⟩
    · cases h; exact ⟨_, _, _, rfl⟩
    · cases hcs; exact ⟨_, _, _, rfl⟩
  obtain ⟨F, m1, z1, i1⟩ := read_slFl (d := y0.1) (ps := y0.2) ⟨n, by simpa [Value.cells] using t0⟩
  obtain ⟨G, m2, z2, i2⟩ := read_slFl (d := y1.1) (ps := y1.2) ⟨n, by simpa [Value.cells] using t1⟩
  obtain ⟨O, m3, z3, i3⟩ := read_slDq (d := y2.1) (ps := y2.2) ⟨n, by simpa [Value.cells] using t2⟩
  exact ⟨_, _, _, n1, n2, n3, F, G, O, rfl, ⟨m1, m2, m3⟩, z1, z2, z3, i1, i2, i3⟩
theorem array4x {α : Type} {cs : Array α} (h : cs.size = 4) : ∃ c0 c1 c2 c3, cs = #[c0, c1, c2, c3] := by
  obtain ⟨l⟩ := cs
  match l, h with
  | [c0, c1, c2, c3], _ => exact ⟨c0, c1, c2, c3, rfl⟩
set_option maxRecDepth 100000 in
theorem read4 {H : Type} {enc : TypeId × Value → H} {W : World} {v : Value} {d : DataW H} {ps : List MemPlace} (h0 : DataW.Trod enc Try.prog W 0 (fun _ => true) true 55 v d ps) (ho : Value.okWide Try.prog W .any 0 55 v) :
    ∃ (m : Int) (a p d : ByteArray), v = .agg #[.int .i64 m, .string a, .string p, .string d] ∧ a.size ≤ maxLen ∧ p.size ≤ maxLen ∧ d.size ≤ maxLen := by
  obtain ⟨cs, rfl, hsz⟩ := okWide_struct Try.underlying55 ho
  have hsz4 : cs.size = 4 := hsz.trans (by kernel_rfl)
  obtain ⟨c0, c1, c2, c3, rfl⟩ := array4x hsz4
  obtain ⟨fuel, hf⟩ := h0
  obtain ⟨y0, y1, y2, y3, n, _, _, t0, t1, t2, t3⟩ := Go.Joins.trod_struct4 Try.underlying55 hf
  have cI : Try.prog.cellsOf 2 = 1 := by kernel_rfl
  have cS : Try.prog.cellsOf 9 = 1 := by kernel_rfl
  obtain ⟨b0, e0, _⟩ := DataW.trod_int Try.underlying2 t0
  obtain ⟨b1, e1, _, z1⟩ := DataW.trod_string Try.underlying9 t1
  obtain ⟨b2, e2, _, z2⟩ := DataW.trod_string Try.underlying9 t2
  obtain ⟨b3, e3, _, z3⟩ := DataW.trod_string Try.underlying9 t3
  rw [cI] at e0
  rw [cS] at e1
  rw [cS] at e2
  rw [cS] at e3
  simp [Value.cells] at e0 e1 e2 e3
  exact ⟨b0, b1, b2, b3, by rw [e0, e1, e2, e3], z1, z2, z3⟩
set_option maxRecDepth 100000 in
theorem lifted (os : Os) (started : os.Started) (H : Type) (enc : TypeId × Value → H) :
    ReturnsInHanded {} Try.checked os 7 .any (Rows.fnExactDoSpec.pre6 enc Try.prog Try.f7 Rows.fnExactDoRow.domain false) (Rows.fnExactDoSpec.post enc Try.prog Try.f7 false true false false) := by
  refine returnsInHanded_of_change (C := Try.checked) own started (by kernel_rfl) Try.func7
    (ChangeSpec.witness6 (enc := enc) (C := Try.checked) false ⟨#[], #[.agg #[.slice none 0 0, .slice none 0 0, .slice none 0 0], .agg #[.int .i64 0, .string ⟨#[]⟩, .string ⟨#[]⟩, .string ⟨#[]⟩]], []⟩ 8 (by kernel_rfl) (by kernel_rfl) (by kernel_rfl) (by kernel_rfl)) ?_
  intro W base args ds gs before hval0 hW hcnd _
  have hval : ∀ (j : Nat) t v, Try.f7.params[j]? = some t → args[j]? = some v → Value.okWide Try.prog W .any base t v := hval0
  have hW' := hW
  obtain ⟨p, q, hA0, hV, rfl, hfz, hnd⟩ := hW
  have hA : DataW.TrodAll enc Try.prog W 0 (fun _ => true) true Try.f7.params.toList args.toList ds p := hA0
  rw [Try.params7] at hA hval
  obtain ⟨v0, vs0, d0, ds0, p0, q0, hargs, rfl, rfl, h0, r0⟩ := trodAll_cons hA
  obtain ⟨v1, vs1, d1, ds1, p1, q1, rfl, rfl, rfl, h1, r1⟩ := trodAll_cons r0
  obtain ⟨rfl, rfl, rfl⟩ := trodAll_nil r1
  obtain rfl : args = #[v0, v1] := by cases args; simp_all
  obtain ⟨rfl, rfl⟩ := trodVars_none hV
  obtain ⟨a, b, c, n, m, k, F, G, O, rfl, ⟨m1, m2, m3⟩, z1, z2, z3, i1, i2, i3⟩ := read3 h0 (Value.okWide_any_base (hval 0 _ v0 rfl rfl))
  obtain ⟨om, oa, oq, od, rfl, s1, s2, s3⟩ := read4 h1 (Value.okWide_any_base (hval 1 _ v1 rfl rfl))
  have k0 := h0
  have k1 := h1
  have lt0 : ∀ x ∈ p0, x.block < W.heap.size := by obtain ⟨m, hm⟩ := k0; exact DataW.trod_lt m _ _ _ hm
  have lt1 : ∀ x ∈ p1, x.block < W.heap.size := by obtain ⟨m, hm⟩ := k1; exact DataW.trod_lt m _ _ _ hm
  clear hA0 hval0
  refine (walk a b c n m k F G O om oa oq od W m1 m2 m3 z1 z2 z3 s1 s2 s3 i1 i2 i3).mono fun e W' ⟨he, bel⟩ => ?_
  subst he
  exact ⟨_, rfl, _, _, _, [], _, [], hW', trodAll_mk1 (shut_bool Try.underlying4 _), (trodAll_cons_mk (Below.trod laidOut (by kernel_rfl) (of_decide_eq_true (by kernel_rfl)) k0 bel lt0) (trodAll_cons_mk (Below.trod laidOut (by kernel_rfl) (of_decide_eq_true (by kernel_rfl)) k1 bel lt1) trodAll_mk0)), rfl, bel.frame _, fun h => by cases h⟩

theorem over : Rows.fnExactDoRow.holds Try.pinned (OpenSpec.ofChange Rows.fnExactDoSpec) :=
  OpenClaim.holds_of_wide 7 Try.f7 rfl rfl rfl rfl rfl rfl rfl ⟨rfl, rfl, rfl, rfl, rfl⟩ rfl rfl rfl rfl rfl (by kernel_rfl) Try.func7 (by kernel_rfl)
    (of_decide_eq_true (by kernel_rfl)) (by unfold Func.isWrapper; first | (rw [if_pos (by decide +kernel)]; kernel_rfl) | (rw [if_neg (by decide +kernel)]; exact ⟨rfl, rfl⟩))
    (fun os started H enc _ => lifted os started H enc)
theorem proved : Rows.FnExactDoSaid :=
  over
#print axioms proved
end Go.Proofs.Ytanlggglbpibfaa.fnExactDo
