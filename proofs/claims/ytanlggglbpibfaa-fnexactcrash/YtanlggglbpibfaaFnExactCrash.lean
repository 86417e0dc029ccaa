/-
  Crash of the code answers as the model does: at every disk, list of places and number.
-/
import Derived.Test.YtanlggglbpibfaaRows
import Derived.Test.YtanlggglbpibfaaDkA3
import Derived.Test.YtanlggglbpibfaaDkA2
import Derived.Test.YtanlggglbpibfaaDkA6
import Derived.Test.YtanlggglbpibfaaDkA1
import Derived.Test.YtanlggglbpibfaaDkA4
import Derived.WalkKit
import Derived.ProofKit
import Derived.OpenShut
import Derived.ShutString
import Derived.ChangeOld
import Derived.Below
import Derived.Lib.SmallJoins
import Derived.Deep.Strs
import Derived.Deep.Slices
namespace Go.Proofs.Ytanlggglbpibfaa.fnExactCrash
open Go.ChangeShapes Go.WideShapes Go.ChangeAt Go.RowKit
open Go.ChangeMaps (open_string shut_string)
set_option linter.unusedVariables false
set_option linter.unusedSimpArgs false

theorem own : ownKnob Try.prog.godebug = none := by kernel_rfl
theorem laidOut : laidOutB Try.prog = true := by kernel_rfl
def own3 (B : Nat) (W : World) (a b c : Value) (Y Z : List FlI) (U : List DqI) : Prop := W.ownsRow B 88 2 a Y.length (flC Y) ∧ W.ownsRow B 88 2 b Z.length (flC Z) ∧ W.ownsRow B 36 4 c U.length (dqC U)
theorem own3_call {B : Nat} {W W' : World} {a b c : Value} {Y Z : List FlI} {U : List DqI} (h : own3 B W a b c Y Z U) (hb : Below W.heap.size W W') : own3 B W' a b c Y Z U := ⟨ownF_call h.1 hb, ownF_call h.2.1 hb, ownF_call h.2.2 hb⟩
theorem own3_base {B C : Nat} {W : World} {a b c : Value} {Y Z : List FlI} {U : List DqI} (h : own3 B W a b c Y Z U) (hb : C ≤ B) : own3 C W a b c Y Z U := ⟨ownF_base h.1 hb, ownF_base h.2.1 hb, ownF_base h.2.2 hb⟩
theorem own3_set {B : Nat} {W : World} {a b c : Value} {Y Z : List FlI} {U : List DqI} {x y z : Value} {k : Nat} {cs : Array Value} (h : own3 B W a b c Y Z U) (hk : W.heap[k]? = some (.cells cs 27 (0, 0))) : own3 B (set3b W k x y z) a b c Y Z U := ⟨own_set3b h.1 hk (by decide), own_set3b h.2.1 hk (by decide), own_set3b h.2.2 hk (by decide)⟩
theorem own3.fl {B : Nat} {W : World} {a b c : Value} {Y Z : List FlI} {U : List DqI} (h : own3 B W a b c Y Z U) : FlV W a Y ∧ FlV W b Z ∧ DqV W c U := ⟨FlV.of_own h.1, FlV.of_own h.2.1, DqV.of_own h.2.2⟩
theorem own3_ne {B : Nat} {W : World} {a b c : Value} {Y Z : List FlI} {U : List DqI} {k : Nat} {cs : Array Value} (h : own3 B W a b c Y Z U) (hk : W.heap[k]? = some (.cells cs 27 (0, 0))) {g : Nat} (hg : a.ownBlock = some g ∨ b.ownBlock = some g ∨ c.ownBlock = some g) : g ≠ k := by
  have key : ∀ {e : TypeId} {v : Value} {z n : Nat} {xs : List Value}, W.ownsRow B e z v n xs → e ≠ 27 → v.ownBlock = some g → g ≠ k := fun {e v z n xs} ho hne hv c => by
    obtain ⟨_, cur, hc⟩ := ownK_at2 ho hv
    rw [c, hk] at hc
    injection hc with hc
    injection hc with _ hc _
    exact hne hc.symm
  rcases hg with hg | hg | hg
  · exact key h.1 (by decide) hg
  · exact key h.2.1 (by decide) hg
  · exact key h.2.2 (by decide) hg
theorem own3_lt {B : Nat} {W : World} {a b c : Value} {Y Z : List FlI} {U : List DqI} (h : own3 B W a b c Y Z U) {g : Nat} (hg : a.ownBlock = some g ∨ b.ownBlock = some g ∨ c.ownBlock = some g) : B ≤ g ∧ g < W.heap.size := by
  rcases hg with hg | hg | hg
  · exact h.1.lt g hg
  · exact h.2.1.lt g hg
  · exact h.2.2.lt g hg
theorem own3_keep {B : Nat} {W W' : World} {a b c : Value} {Y Z : List FlI} {U : List DqI} (h : own3 B W a b c Y Z U) (hb : ∀ g, a.ownBlock = some g ∨ b.ownBlock = some g ∨ c.ownBlock = some g → W'.heap[g]? = W.heap[g]?) : own3 B W' a b c Y Z U :=
  ⟨ownK_keep2 h.1 fun g hg => hb g (Or.inl hg), ownK_keep2 h.2.1 fun g hg => hb g (Or.inr (Or.inl hg)), ownK_keep2 h.2.2 fun g hg => hb g (Or.inr (Or.inr hg))⟩
/-- what lies beside the marks -/
structure DoW (w W : World) (bk gw gx gg : Nat) (a b c p1 p2 p3 x1 x2 x3 g1 g2 g3 : Value) (Y Z : List FlI) (U : List DqI) : Prop where
  bel : Below w.heap.size w W
  rb : W.heap[bk]? = some (.cells #[a, b, c] 50 (0, 0))
  rw_ : W.heap[gw]? = some (.cells #[p1, p2, p3] 27 (0, 0))
  rx : W.heap[gx]? = some (.cells #[x1, x2, x3] 27 (0, 0))
  rg : W.heap[gg]? = some (.cells #[g1, g2, g3] 27 (0, 0))
  p : FlV W p1 Y ∧ FlV W p2 Z ∧ DqV W p3 U
theorem flv_lt {w : World} {v : Value} {L : List FlI} (h : FlV w v L) {g : Nat} (hg : v.ownBlock = some g) : g < w.heap.size := h.lt2 hg
theorem dqv_lt {w : World} {v : Value} {L : List DqI} (h : DqV w v L) {g : Nat} (hg : v.ownBlock = some g) : g < w.heap.size := by
  rcases h with ⟨rfl, _⟩ | ⟨k, c, rfl, hr⟩
  · cases hg
  · cases hg; exact hr.lt
theorem DoW.below {w W W' : World} {bk gw gx gg : Nat} {a b c p1 p2 p3 x1 x2 x3 g1 g2 g3 : Value} {Y Z : List FlI} {U : List DqI} (h : DoW w W bk gw gx gg a b c p1 p2 p3 x1 x2 x3 g1 g2 g3 Y Z U) (hb : Below W.heap.size W W') : DoW w W' bk gw gx gg a b c p1 p2 p3 x1 x2 x3 g1 g2 g3 Y Z U :=
  ⟨blFl h.bel hb h.bel.size, (hb.block _ (Array.getElem?_eq_some_iff.1 h.rb).1).trans h.rb, (hb.block _ (Array.getElem?_eq_some_iff.1 h.rw_).1).trans h.rw_, (hb.block _ (Array.getElem?_eq_some_iff.1 h.rx).1).trans h.rx, (hb.block _ (Array.getElem?_eq_some_iff.1 h.rg).1).trans h.rg, h.p.1.below hb, h.p.2.1.below hb, h.p.2.2.below hb⟩
theorem DoW.frp {w W W' : World} {bk gw gx gg : Nat} {a b c p1 p2 p3 x1 x2 x3 g1 g2 g3 : Value} {Y Z : List FlI} {U : List DqI} {P : Nat → Prop} (h : DoW w W bk gw gx gg a b c p1 p2 p3 x1 x2 x3 g1 g2 g3 Y Z U) (hf : FrP W W' P) (hP : ∀ j, P j → w.heap.size ≤ j) (h1 : ¬ P bk) (h2 : ¬ P gw) (h3 : ¬ P gx) (h4 : ¬ P gg) (hp : ∀ j, p1.ownBlock = some j ∨ p2.ownBlock = some j ∨ p3.ownBlock = some j → ¬ P j) : DoW w W' bk gw gx gg a b c p1 p2 p3 x1 x2 x3 g1 g2 g3 Y Z U := by
  refine ⟨⟨hf.os.trans h.bel.os, hf.tape.trans h.bel.tape, hf.output.trans h.bel.output, Nat.le_trans h.bel.size hf.size, fun j hj => (hf.block j (Nat.lt_of_lt_of_le hj h.bel.size) (fun c => by have := hP j c; omega)).trans (h.bel.block j hj)⟩, (hf.block _ (Array.getElem?_eq_some_iff.1 h.rb).1 h1).trans h.rb, (hf.block _ (Array.getElem?_eq_some_iff.1 h.rw_).1 h2).trans h.rw_, (hf.block _ (Array.getElem?_eq_some_iff.1 h.rx).1 h3).trans h.rx, (hf.block _ (Array.getElem?_eq_some_iff.1 h.rg).1 h4).trans h.rg, h.p.1.keep fun g hg => hf.block g (flv_lt h.p.1 hg) (hp g (Or.inl hg)), h.p.2.1.keep fun g hg => hf.block g (flv_lt h.p.2.1 hg) (hp g (Or.inr (Or.inl hg))), h.p.2.2.keep fun g hg => hf.block g (dqv_lt h.p.2.2 hg) (hp g (Or.inr (Or.inr hg)))⟩
theorem rwf_own {w : World} {B : Nat} {v : Value} {L : List FlI} (h : w.ownsRow B 88 2 v L.length (flC L)) : RwF w v L.length := by
  obtain ⟨a, c, e⟩ := ownF_slice h
  exact ⟨a, c, e, fun h0 => by obtain ⟨g, cap, cur, h1, h2, h3, h4, _⟩ := ownF_form h h0; rw [e] at h1; cases h1; exact ⟨g, cur, rfl, h3, h4⟩⟩
theorem rwq_own {w : World} {B : Nat} {v : Value} {L : List DqI} (h : w.ownsRow B 36 4 v L.length (dqC L)) : RwQ w v L.length := by
  obtain ⟨a, c, e⟩ := ownQ_slice h
  exact ⟨a, c, e, fun h0 => by obtain ⟨g, cap, cur, h1, h2, h3, h4, _⟩ := ownQ_form h h0; rw [e] at h1; cases h1; exact ⟨g, cur, rfl, h3, h4⟩⟩
theorem mkf_below {w w' : World} {v : Value} {n k : Nat} (h : MkF w v n k) (hw : Below w.heap.size w w') : MkF w' v n k := by
  obtain ⟨p, c, rfl, h⟩ := h
  exact ⟨p, c, rfl, fun h0 => by obtain ⟨g, rfl, h2, h3⟩ := h h0; exact ⟨g, rfl, Nat.lt_of_lt_of_le h2 hw.size, h3.below hw h2⟩⟩
theorem preD_tot (k : Nat) (O : Nat → DqI) : preD (dqM k O) (dqM k O).length ≤ dqTot O k := by
  have key : ∀ i, i ≤ k → preD (dqM k O) i ≤ dqTot O i := fun i => by
    induction i with
    | zero => intro _; exact Nat.le_refl _
    | succ i ih =>
      intro hi
      have h1 := ih (by omega)
      have h2 : dqF (dqM k O) i = O i := (dqF_map O k).2 i (by omega)
      show preD (dqM k O) i + (dqF (dqM k O) i).d.size ≤ dqTot O (i + 1)
      rw [h2]
      show _ ≤ dqTot O i + ((O i).a.size + (O i).p.size + (O i).d.size)
      omega
  have := key k (Nat.le_refl _)
  rw [dqM_len]; exact this
set_option maxRecDepth 100000 in
set_option maxHeartbeats 8000000 in
theorem walk (a b c : Value) (n m k : Nat) (F G : Nat → FlI) (O : Nat → DqI) (av : Option Addr) (nn cv : Nat) (K : Nat → Int) (tt : Int) (w : World) (hn : n ≤ maxLen) (hm : m ≤ maxLen) (hk : k ≤ maxLen) (d1 : ∀ i, i < n → (F i).a.size ≤ maxLen ∧ (F i).d.size ≤ maxLen) (d2 : ∀ i, i < m → (G i).a.size ≤ maxLen ∧ (G i).d.size ≤ maxLen) (d3 : ∀ i, i < k → (O i).a.size ≤ maxLen ∧ (O i).p.size ≤ maxLen ∧ (O i).d.size ≤ maxLen) (s1 : nn ≤ maxLen) (hkk : InI w (.slice av nn cv) nn K) (h1 : FlIn w a n F) (h2 : FlIn w b m G) (h3 : DqIn w c k O) :
    Calls Try.prog 9 #[.agg #[a, b, c], .slice av nn cv, .int .i64 tt] w fun e w' => e = .returned (.bool true) ∧ Below w.heap.size w w' := by
  have HSZ : Hid (∀ w', Below w.heap.size w w' → Calls Try.prog 26 #[.agg #[a, b, c], .int .i64 1048576] w' fun e w'' => (∃ z, e = .returned (.int .i64 z) ∧ (0 ≤ z → z = ((1048576 - (n + flTot F n) - (m + flTot G m) - (k + dqTot O k) : Nat) : Int) ∧ (n + flTot F n) + (m + flTot G m) + (k + dqTot O k) ≤ 1048576)) ∧ Below w'.heap.size w' w'') := fun w' hb => szDk_any a b c n m k 1048576 F G O w' (Nat.le_refl _) hn hm hk d1 d2 d3 (h1.below hb) (h2.below hb) (h3.below hb)
  have HIN : Hid (∀ w', Below w.heap.size w w' → FlIn w' a n F ∧ FlIn w' b m G ∧ DqIn w' c k O) := fun w' hb => ⟨h1.below hb, h2.below hb, h3.below hb⟩
  have HTI : Hid (∀ w', Below w.heap.size w w' → nn ≤ 1048576 → Calls Try.prog 35 #[.slice av nn cv] w' fun e w'' => (e = .returned (.slice (some ⟨w'.heap.size, 0, none⟩) nn nn) ∧ RwI w'' w'.heap.size nn K) ∧ Below w'.heap.size w' w'') := fun w' hb hn => toI_any _ nn K w' hn (hkk.below hb)
  unfold maxLen at s1
  clear hn hm hk d1 d2 d3 h1 h2 h3 hkk
  have HB1 : Hid (Below w.heap.size w (w.alloc (.cells #[a, b, c] 50))) := (Below.refl _ _).alloc (Nat.le_refl _) _
  have HX1 : Hid ((w.alloc (.cells #[a, b, c] 50)).heap[w.heap.size]? = some (.cells #[a, b, c] 50 (0, 0))) := heap_alloc_new w _
  have hi : Option.map (·.size) (Try.prog.info? 50) = some 3 := by kernel_rfl
  have hj : Option.map (·.size) (Try.prog.info? 27) = some 3 := by kernel_rfl
  by_cases hb1 : 1048576 < nn
  · clear HSZ HIN HX1 HTI
    go_enter Try.func9, Try.ntmps9
    go_wp2_with fail
    go_ret
    exact ⟨rfl, HB1.out⟩
  have hnn : nn ≤ 1048576 := by omega
  have HNN := hidF hnn
  go_enter Try.func9, Try.ntmps9
  go_wp2_with fail
  clear hb1 s1 hnn
  have hsz := HSZ.out _ HB1.out
  generalize w.alloc (.cells #[a, b, c] 50) = w1 at HB1 HX1 hsz ⊢
  obtain ⟨bk, hbk⟩ : ∃ bk, bk = w.heap.size := ⟨_, rfl⟩
  have HBK : Hid (bk = w.heap.size) := hbk
  rw [← hbk] at HX1 ⊢
  clear hbk
  refine hsz.mono ?_
  rintro e w2 ⟨⟨z, rfl, hz⟩, hb2⟩
  have HX2 : Hid (w2.heap[bk]? = some (.cells #[a, b, c] 50 (0, 0))) := (hb2.block _ (Array.getElem?_eq_some_iff.1 HX1.out).1).trans HX1.out
  have HB2 := hidF (blFl HB1.out hb2 HB1.out.size)
  clear hb2 HB1 HX1 HSZ hsz
  by_cases hz0 : z < 0
  · clear hz
    go_wp2_with fail
    go_ret
    exact ⟨rfl, HB2.out⟩
  have hzz := (hz (by omega)).2
  have hn : n ≤ 1048576 := by omega
  have hm : m ≤ 1048576 := by omega
  have hk : k ≤ 1048576 := by omega
  have hpd : preD (dqM k O) (dqM k O).length ≤ 1100000 := by have := preD_tot k O; omega
  have HTO : Hid (∀ w', Below w.heap.size w w' → Calls Try.prog 27 #[.agg #[a, b, c]] w' fun e w'' => (∃ x y z, e = .returned (.agg #[x, y, z]) ∧ DkX w'.heap.size w'' x y z n m k (flM n F) (flM m G) (dqM k O)) ∧ Below w'.heap.size w' w'') := fun w' hb => toDkX_any a b c n m k F G O w' hn hm hk (HIN.out w' hb).1 (HIN.out w' hb).2.1 (HIN.out w' hb).2.2
  have HSP : Hid (∀ w' x y z gi cx, RwI w' gi nn K → FlV w' x (flM n F) ∧ FlV w' y (flM m G) ∧ DqV w' z (dqM k O) → Calls Try.prog 34 #[.agg #[x, y, z], .slice (some ⟨gi, 0, none⟩) nn cx, .int .i64 tt] w' fun e w'' => CrV (crA (flM n F) (flM m G) (dqM k O) nn K tt) e w'' ∧ Below w'.heap.size w' w'') := fun w' x y z gi cx hr h => scrash15_any x y z _ _ _ gi cx nn K tt w' HNN.out (flM_le (by omega)) (flM_le (by omega)) (dqM_le (by omega)) hpd hr h.1 h.2.1 h.2.2
  have HIM : Hid (∀ w' x y z gi cx, RwI w' gi nn K → FlV w' x (flM n F) ∧ FlV w' y (flM m G) ∧ DqV w' z (dqM k O) → Calls Try.prog 16 #[.agg #[x, y, z], .slice (some ⟨gi, 0, none⟩) nn cx, .int .i64 tt] w' fun e w'' => CrO w'.heap.size (crA (flM n F) (flM m G) (dqM k O) nn K tt) e w'' ∧ Below w'.heap.size w' w'') := fun w' x y z gi cx hr h => crash15_any x y z _ _ _ gi cx nn K tt w' HNN.out (flM_le (by omega)) (flM_le (by omega)) (dqM_le (by omega)) hpd hr h.1 h.2.1 h.2.2
  have HFE0 : Hid ((crA (flM n F) (flM m G) (dqM k O) nn K tt).1.length ≤ 60) := crA_few _ _ _ _ _ _
  have HEQ : Hid (∀ w' u v, DkV w' u (flM n F) (flM m G) (dqM k O) → DkV w' v (flM n F) (flM m G) (dqM k O) → Calls Try.prog 28 #[u, v] w' fun e w'' => e = .returned (.bool true) ∧ Below w'.heap.size w' w'') := fun w' u v h h' => eqDk_any u v n m k F G O w' hn hm hk h h'
  have HNM : Hid (n ≤ 1048576 ∧ m ≤ 1048576 ∧ k ≤ 1048576 ∧ n + m + k ≤ 1048576) := ⟨hn, hm, hk, by omega⟩
  generalize crA (flM n F) (flM m G) (dqM k O) nn K tt = A at HSP HIM HFE0
  obtain ⟨M, cc⟩ := A
  have HFEM : Hid (M.length ≤ 60) := HFE0.out
  unfold CrV at HSP
  unfold CrO at HIM
  simp only at HSP HIM
  obtain ⟨Y, hY⟩ : ∃ Y, Y = M := ⟨_, rfl⟩
  obtain ⟨Z, hZ⟩ : ∃ Z, Z = M := ⟨_, rfl⟩
  obtain ⟨U, hU⟩ : ∃ U : List DqI, U = [] := ⟨_, rfl⟩
  have HFEW : Hid (Y.length ≤ 60 ∧ Z.length ≤ 60 ∧ U.length ≤ 200) := ⟨by rw [hY]; exact HFEM.out, by rw [hZ]; exact HFEM.out, by rw [hU]; simp⟩
  have HSP2 : Hid (∀ w' x y z gi cx, RwI w' gi nn K → FlV w' x (flM n F) ∧ FlV w' y (flM m G) ∧ DqV w' z (dqM k O) → Calls Try.prog 34 #[.agg #[x, y, z], .slice (some ⟨gi, 0, none⟩) nn cx, .int .i64 tt] w' fun e w'' => (∃ a b c, e = .returned (.tuple #[.agg #[a, b, c], .bool cc]) ∧ FlV w'' a Y ∧ FlV w'' b Z ∧ DqV w'' c U) ∧ Below w'.heap.size w' w'') := by rw [hY, hZ, hU]; exact HSP.out
  have HIM2 : Hid (∀ w' x y z gi cx, RwI w' gi nn K → FlV w' x (flM n F) ∧ FlV w' y (flM m G) ∧ DqV w' z (dqM k O) → Calls Try.prog 16 #[.agg #[x, y, z], .slice (some ⟨gi, 0, none⟩) nn cx, .int .i64 tt] w' fun e w'' => (∃ a b c, e = .returned (.tuple #[.agg #[a, b, c], .bool cc]) ∧ own3 w'.heap.size w'' a b c Y Z U ∧ (∀ k, a.ownBlock = some k → b.ownBlock ≠ some k ∧ c.ownBlock ≠ some k) ∧ (∀ k, b.ownBlock = some k → c.ownBlock ≠ some k)) ∧ Below w'.heap.size w' w'') := by rw [hY, hZ, hU]; exact HIM.out
  clear hY hZ hU HFEM HFE0 HSP HIM
  have HSP := HSP2
  have HIM := HIM2
  clear HSP2 HIM2
  generalize flM n F = L at HTO HSP HIM HEQ
  generalize flM m G = S at HTO HSP HIM HEQ
  generalize dqM k O = Q at HTO HSP HIM HEQ
  have HEY : Hid (∀ w' a b c d e f, FlV w' a Y ∧ FlV w' b Z ∧ DqV w' c U → FlV w' d Y ∧ FlV w' e Z ∧ DqV w' f U → Calls Try.prog 28 #[.agg #[a, b, c], .agg #[d, e, f]] w' fun e w'' => e = .returned (.bool true) ∧ Below w'.heap.size w' w'') := fun w' a b c d e f h h' => eqDl_any _ _ Y Z U w' (by have : Y.length ≤ 60 := HFEW.out.1; omega) (by have : Z.length ≤ 60 := HFEW.out.2.1; omega) (by have : U.length ≤ 200 := HFEW.out.2.2; omega) ⟨_, _, _, rfl, h⟩ ⟨_, _, _, rfl, h'⟩
  clear hzz hn hm hk HIN hz hpd
  go_wp2_with (refine wpList_load_row rfl 50 _ rfl bk rfl 50 #[a, b, c] (0, 0) _ HX2.out Try.underlying50 rfl hi ?_)
  refine (HTO.out _ HB2.out).mono ?_
  rintro e w3 ⟨⟨q1, q2, q3, rfl, hv3⟩, hb3⟩
  obtain ⟨e1, f1, rfl, _⟩ := hv3.ra.form
  obtain ⟨e2, f2, rfl, _⟩ := hv3.rb.form
  obtain ⟨e3, f3, rfl, _⟩ := hv3.rc.form
  have HX3 : Hid (w3.heap[bk]? = some (.cells #[a, b, c] 50 (0, 0))) := (hb3.block _ (Array.getElem?_eq_some_iff.1 HX2.out).1).trans HX2.out
  have HB3 := hidF (blFl HB2.out hb3 HB2.out.size)
  have HV3 := hidF (And.intro hv3.va (And.intro hv3.vb hv3.vc))
  have hti3 := HTI.out _ HB3.out HNN.out
  clear hb3 HB2 HX2 hv3 hz0
  go_wp2_with fail
  refine hti3.mono ?_
  rintro e w3b ⟨⟨rfl, hri3⟩, hb3b⟩
  have hsp3 := HSP.out _ _ _ _ _ nn hri3 ⟨HV3.out.1.below hb3b, HV3.out.2.1.below hb3b, HV3.out.2.2.below hb3b⟩
  have HX3b : Hid (w3b.heap[bk]? = some (.cells #[a, b, c] 50 (0, 0))) := (hb3b.block _ (Array.getElem?_eq_some_iff.1 HX3.out).1).trans HX3.out
  have HB3b := hidF (blFl HB3.out hb3b HB3.out.size)
  clear hri3 hb3b HV3 hti3 HX3 HB3
  have HX3 := HX3b
  have HB3 := HB3b
  clear HX3b HB3b
  go_wp2_with fail
  refine hsp3.mono ?_
  rintro e w4s ⟨⟨p1, p2, p3, rfl, r1, r2, r3⟩, hb4s⟩
  obtain ⟨u1, v1, rfl⟩ := r1.slice
  obtain ⟨u2, v2, rfl⟩ := r2.slice
  obtain ⟨u3, v3, rfl⟩ := r3.slice
  have hbn : Below w4s.heap.size w4s (w4s.alloc (.cells #[.slice u1 Y.length v1, .slice u2 Z.length v2, .slice u3 U.length v3] 27)) := (Below.refl _ _).alloc (Nat.le_refl _) _
  have hb4 : Below w3b.heap.size w3b (w4s.alloc (.cells #[.slice u1 Y.length v1, .slice u2 Z.length v2, .slice u3 U.length v3] 27)) := blFl hb4s hbn hb4s.size
  have HB4 : Hid (Below w.heap.size w (w4s.alloc (.cells #[.slice u1 Y.length v1, .slice u2 Z.length v2, .slice u3 U.length v3] 27))) := blFl HB3.out hb4 HB3.out.size
  have HX4 : Hid ((w4s.alloc (.cells #[.slice u1 Y.length v1, .slice u2 Z.length v2, .slice u3 U.length v3] 27)).heap[bk]? = some (.cells #[a, b, c] 50 (0, 0))) := (hb4.block _ (Array.getElem?_eq_some_iff.1 HX3.out).1).trans HX3.out
  have HW4 : Hid ((w4s.alloc (.cells #[.slice u1 Y.length v1, .slice u2 Z.length v2, .slice u3 U.length v3] 27)).heap[w4s.heap.size]? = some (.cells #[.slice u1 Y.length v1, .slice u2 Z.length v2, .slice u3 U.length v3] 27 (0, 0))) := heap_alloc_new w4s _
  have HP4 : Hid (FlV (w4s.alloc (.cells #[.slice u1 Y.length v1, .slice u2 Z.length v2, .slice u3 U.length v3] 27)) (.slice u1 Y.length v1) Y ∧ FlV (w4s.alloc (.cells #[.slice u1 Y.length v1, .slice u2 Z.length v2, .slice u3 U.length v3] 27)) (.slice u2 Z.length v2) Z ∧ DqV (w4s.alloc (.cells #[.slice u1 Y.length v1, .slice u2 Z.length v2, .slice u3 U.length v3] 27)) (.slice u3 U.length v3) U) := ⟨r1.below hbn, r2.below hbn, r3.below hbn⟩
  have HGW : Hid (bk < w4s.heap.size ∧ w4s.heap.size < (w4s.alloc (.cells #[.slice u1 Y.length v1, .slice u2 Z.length v2, .slice u3 U.length v3] 27)).heap.size) := ⟨Nat.lt_of_lt_of_le (Array.getElem?_eq_some_iff.1 HX3.out).1 hb4s.size, by rw [World.size_alloc]; omega⟩
  have hto4 := HTO.out _ HB4.out
  clear hbn hb4 hb4s r1 r2 r3 HX3 HB3 hsp3
  go_wp2_with (refine wpList_load_row rfl 50 _ rfl bk rfl 50 #[a, b, c] (0, 0) _ HX4.out Try.underlying50 rfl hi ?_)
  generalize (w4s.alloc (.cells #[.slice u1 Y.length v1, .slice u2 Z.length v2, .slice u3 U.length v3] 27)) = w4 at HB4 HX4 HW4 HP4 HGW hto4 ⊢
  generalize w4s.heap.size = gw at HW4 HGW ⊢
  have HL4 : Hid (∀ g, (.slice u1 Y.length v1 : Value).ownBlock = some g ∨ (.slice u2 Z.length v2 : Value).ownBlock = some g ∨ (.slice u3 U.length v3 : Value).ownBlock = some g → g < w4.heap.size) := fun g hg => by
    rcases hg with h | h | h
    · exact flv_lt HP4.out.1 h
    · exact flv_lt HP4.out.2.1 h
    · exact dqv_lt HP4.out.2.2 h
  refine hto4.mono ?_
  rintro e w6 ⟨⟨x1, x2, x3, rfl, hv6⟩, hb6⟩
  obtain ⟨y1, z1, rfl, _⟩ := hv6.ra.form
  obtain ⟨y2, z2, rfl, _⟩ := hv6.rb.form
  obtain ⟨y3, z3, rfl, _⟩ := hv6.rc.form
  have hb7 : Below w6.heap.size w6 (w6.alloc (.cells #[.slice y1 n z1, .slice y2 m z2, .slice y3 k z3] 27)) := (Below.refl _ _).alloc (Nat.le_refl _) _
  have hb47 : Below w4.heap.size w4 (w6.alloc (.cells #[.slice y1 n z1, .slice y2 m z2, .slice y3 k z3] 27)) := blFl hb6 hb7 hb6.size
  have HQ7 : Hid ((w6.alloc (.cells #[.slice y1 n z1, .slice y2 m z2, .slice y3 k z3] 27)).heap[w6.heap.size]? = some (.cells #[.slice y1 n z1, .slice y2 m z2, .slice y3 k z3] 27 (0, 0))) := heap_alloc_new w6 _
  have HX7 : Hid ((w6.alloc (.cells #[.slice y1 n z1, .slice y2 m z2, .slice y3 k z3] 27)).heap[bk]? = some (.cells #[a, b, c] 50 (0, 0)) ∧ (w6.alloc (.cells #[.slice y1 n z1, .slice y2 m z2, .slice y3 k z3] 27)).heap[gw]? = some (.cells #[.slice u1 Y.length v1, .slice u2 Z.length v2, .slice u3 U.length v3] 27 (0, 0))) := ⟨(hb47.block _ (Array.getElem?_eq_some_iff.1 HX4.out).1).trans HX4.out, (hb47.block _ (Array.getElem?_eq_some_iff.1 HW4.out).1).trans HW4.out⟩
  have HB7 := hidF (blFl HB4.out hb47 HB4.out.size)
  have HP7 := hidF (And.intro (HP4.out.1.below hb47) (And.intro (HP4.out.2.1.below hb47) (HP4.out.2.2.below hb47)))
  have HV7 : Hid (DkX w4.heap.size (w6.alloc (.cells #[.slice y1 n z1, .slice y2 m z2, .slice y3 k z3] 27)) (.slice y1 n z1) (.slice y2 m z2) (.slice y3 k z3) n m k L S Q) := ⟨hv6.va.below hb7, hv6.vb.below hb7, hv6.vc.below hb7, hv6.ra.keep fun g hg => hb7.block g (hv6.at_ g (Or.inl hg)).2, hv6.rb.keep fun g hg => hb7.block g (hv6.at_ g (Or.inr (Or.inl hg))).2, hv6.rc.keep fun g hg => hb7.block g (hv6.at_ g (Or.inr (Or.inr hg))).2, fun g hg => ⟨(hv6.at_ g hg).1, Nat.lt_of_lt_of_le (hv6.at_ g hg).2 hb7.size⟩, hv6.ab, hv6.bc⟩
  have HXL : Hid (∀ g, (.slice y1 n z1 : Value).ownBlock = some g ∨ (.slice y2 m z2 : Value).ownBlock = some g ∨ (.slice y3 k z3 : Value).ownBlock = some g → w4.heap.size ≤ g ∧ g < w6.heap.size) := hv6.at_
  have HS7 : Hid (w4.heap.size ≤ w6.heap.size ∧ (w6.alloc (.cells #[.slice y1 n z1, .slice y2 m z2, .slice y3 k z3] 27)).heap.size = w6.heap.size + 1) := ⟨hb6.size, World.size_alloc _ _⟩
  have hti7 := HTI.out _ HB7.out HNN.out
  clear hv6 hb6 hb7 hb47 HX4 HW4 HB4 HP4 hto4
  go_wp2_with fail
  generalize hW7 : w6.alloc (.cells #[.slice y1 n z1, .slice y2 m z2, .slice y3 k z3] 27) = w7a at HQ7 HX7 HB7 HP7 HV7 HS7 hti7 ⊢
  clear hW7
  obtain ⟨gx, hgx⟩ : ∃ gx, gx = w6.heap.size := ⟨_, rfl⟩
  rw [← hgx] at HQ7 HXL HS7 ⊢
  clear hgx
  refine hti7.mono ?_
  rintro e w7 ⟨⟨rfl, hri7⟩, hb7⟩
  obtain ⟨gi, hgi⟩ : ∃ gi, gi = w7a.heap.size := ⟨_, rfl⟩
  rw [← hgi] at hri7 ⊢
  have HS7b : Hid (w4.heap.size ≤ gx ∧ gx < gi ∧ gi < w7.heap.size) := ⟨HS7.out.1, by have := HS7.out.2; omega, hri7.lt⟩
  have HQ7b := hidF ((hb7.block _ (Array.getElem?_eq_some_iff.1 HQ7.out).1).trans HQ7.out)
  have HX7b := hidF (And.intro ((hb7.block _ (Array.getElem?_eq_some_iff.1 HX7.out.1).1).trans HX7.out.1) ((hb7.block _ (Array.getElem?_eq_some_iff.1 HX7.out.2).1).trans HX7.out.2))
  have HB7b := hidF (blFl HB7.out hb7 HB7.out.size)
  have HP7b := hidF (And.intro (HP7.out.1.below hb7) (And.intro (HP7.out.2.1.below hb7) (HP7.out.2.2.below hb7)))
  have HV7b : Hid (DkX w4.heap.size w7 (.slice y1 n z1) (.slice y2 m z2) (.slice y3 k z3) n m k L S Q) := ⟨HV7.out.va.below hb7, HV7.out.vb.below hb7, HV7.out.vc.below hb7, HV7.out.ra.keep fun g hg => hb7.block g (HV7.out.at_ g (Or.inl hg)).2, HV7.out.rb.keep fun g hg => hb7.block g (HV7.out.at_ g (Or.inr (Or.inl hg))).2, HV7.out.rc.keep fun g hg => hb7.block g (HV7.out.at_ g (Or.inr (Or.inr hg))).2, fun g hg => ⟨(HV7.out.at_ g hg).1, Nat.lt_of_lt_of_le (HV7.out.at_ g hg).2 hb7.size⟩, HV7.out.ab, HV7.out.bc⟩
  clear HS7 HQ7 HX7 HB7 HP7 HV7 hb7 hgi hti7
  have HS7 := HS7b
  have HQ7 := HQ7b
  have HX7 := HX7b
  have HB7 := HB7b
  have HP7 := HP7b
  have HV7 := HV7b
  clear HS7b HQ7b HX7b HB7b HP7b HV7b
  have HRI7 := hidF hri7
  have him := HIM.out _ _ _ _ _ nn hri7 ⟨HV7.out.va, HV7.out.vb, HV7.out.vc⟩
  have hq7 := HQ7.out
  clear hri7
  go_wp2_with (refine wpList_load_row rfl 27 _ rfl gx rfl 27 #[.slice y1 n z1, .slice y2 m z2, .slice y3 k z3] (0, 0) _ hq7 Try.underlying27 rfl hj ?_)
  clear hq7
  refine him.mono ?_
  rintro e w8s ⟨⟨g1, g2, g3, rfl, ⟨r1, r2, r3⟩, r4, r5⟩, hb8s⟩
  obtain ⟨s1, t1, rfl⟩ := ownF_slice r1
  obtain ⟨s2, t2, rfl⟩ := ownF_slice r2
  obtain ⟨s3, t3, rfl⟩ := ownQ_slice r3
  have hbn : Below w8s.heap.size w8s (w8s.alloc (.cells #[.slice s1 Y.length t1, .slice s2 Z.length t2, .slice s3 U.length t3] 27)) := (Below.refl _ _).alloc (Nat.le_refl _) _
  have hb78 : Below w7.heap.size w7 (w8s.alloc (.cells #[.slice s1 Y.length t1, .slice s2 Z.length t2, .slice s3 U.length t3] 27)) := blFl hb8s hbn hb8s.size
  have hgg : (w8s.alloc (.cells #[.slice s1 Y.length t1, .slice s2 Z.length t2, .slice s3 U.length t3] 27)).heap[w8s.heap.size]? = some (.cells #[.slice s1 Y.length t1, .slice s2 Z.length t2, .slice s3 U.length t3] 27 (0, 0)) := heap_alloc_new w8s _
  have ho8 : own3 w7.heap.size (w8s.alloc (.cells #[.slice s1 Y.length t1, .slice s2 Z.length t2, .slice s3 U.length t3] 27)) (.slice s1 Y.length t1) (.slice s2 Z.length t2) (.slice s3 U.length t3) Y Z U := own3_call ⟨r1, r2, r3⟩ hbn
  obtain ⟨gg, hgd⟩ : ∃ gg, gg = w8s.heap.size := ⟨_, rfl⟩
  rw [← hgd] at hgg
  have HGL : Hid (w7.heap.size ≤ gg) := by rw [hgd]; exact hb8s.size
  obtain ⟨AA, hAA⟩ : ∃ AA : World → Prop, AA = fun W => DoW w W bk gw gx gg a b c (.slice u1 Y.length v1) (.slice u2 Z.length v2) (.slice u3 U.length v3) (.slice y1 n z1) (.slice y2 m z2) (.slice y3 k z3) (.slice s1 Y.length t1) (.slice s2 Z.length t2) (.slice s3 U.length t3) Y Z U ∧ DkX w4.heap.size W (.slice y1 n z1) (.slice y2 m z2) (.slice y3 k z3) n m k L S Q ∧ own3 w7.heap.size W (.slice s1 Y.length t1) (.slice s2 Z.length t2) (.slice s3 U.length t3) Y Z U ∧ RwI W gi nn K := ⟨_, rfl⟩
  have hA8 : AA (w8s.alloc (.cells #[.slice s1 Y.length t1, .slice s2 Z.length t2, .slice s3 U.length t3] 27)) := by
    rw [hAA]
    exact ⟨⟨blFl HB7.out hb78 HB7.out.size, (hb78.block _ (Array.getElem?_eq_some_iff.1 HX7.out.1).1).trans HX7.out.1, (hb78.block _ (Array.getElem?_eq_some_iff.1 HX7.out.2).1).trans HX7.out.2, (hb78.block _ (Array.getElem?_eq_some_iff.1 HQ7.out).1).trans HQ7.out, hgg, HP7.out.1.below hb78, HP7.out.2.1.below hb78, HP7.out.2.2.below hb78⟩, ⟨HV7.out.va.below hb78, HV7.out.vb.below hb78, HV7.out.vc.below hb78, HV7.out.ra.keep fun g hg => hb78.block g (HV7.out.at_ g (Or.inl hg)).2, HV7.out.rb.keep fun g hg => hb78.block g (HV7.out.at_ g (Or.inr (Or.inl hg))).2, HV7.out.rc.keep fun g hg => hb78.block g (HV7.out.at_ g (Or.inr (Or.inr hg))).2, fun g hg => ⟨(HV7.out.at_ g hg).1, Nat.lt_of_lt_of_le (HV7.out.at_ g hg).2 hb78.size⟩, HV7.out.ab, HV7.out.bc⟩, ho8, HRI7.out.below hb78⟩
  have HAB : Hid (∀ W W', AA W → Below W.heap.size W W' → AA W') := fun W W' h hb => by
    rw [hAA] at h ⊢
    obtain ⟨h1, h2, h3, h4⟩ := h
    exact ⟨h1.below hb, ⟨h2.va.below hb, h2.vb.below hb, h2.vc.below hb, h2.ra.keep fun g hg => hb.block g (h2.at_ g (Or.inl hg)).2, h2.rb.keep fun g hg => hb.block g (h2.at_ g (Or.inr (Or.inl hg))).2, h2.rc.keep fun g hg => hb.block g (h2.at_ g (Or.inr (Or.inr hg))).2, fun g hg => ⟨(h2.at_ g hg).1, Nat.lt_of_lt_of_le (h2.at_ g hg).2 hb.size⟩, h2.ab, h2.bc⟩, own3_call h3 hb, h4.below hb⟩
  have HAS : Hid (∀ W, AA W → DoW w W bk gw gx gg a b c (.slice u1 Y.length v1) (.slice u2 Z.length v2) (.slice u3 U.length v3) (.slice y1 n z1) (.slice y2 m z2) (.slice y3 k z3) (.slice s1 Y.length t1) (.slice s2 Z.length t2) (.slice s3 U.length t3) Y Z U) := fun W h => by rw [hAA] at h; exact h.1
  have HAX : Hid (∀ W, AA W → DkX w4.heap.size W (.slice y1 n z1) (.slice y2 m z2) (.slice y3 k z3) n m k L S Q) := fun W h => by rw [hAA] at h; exact h.2.1
  have HAG : Hid (∀ W, AA W → own3 w7.heap.size W (.slice s1 Y.length t1) (.slice s2 Z.length t2) (.slice s3 U.length t3) Y Z U) := fun W h => by rw [hAA] at h; exact h.2.2.1
  have HAI : Hid (∀ W, AA W → RwI W gi nn K) := fun W h => by rw [hAA] at h; exact h.2.2.2
  have HGB : Hid (∀ g, (.slice s1 Y.length t1 : Value).ownBlock = some g ∨ (.slice s2 Z.length t2 : Value).ownBlock = some g ∨ (.slice s3 U.length t3 : Value).ownBlock = some g → w7.heap.size ≤ g ∧ g ≠ gg) := fun g hg => ⟨(own3_lt ho8 hg).1, own3_ne ho8 hgg hg⟩
  have HGO := hidF (And.intro r4 r5)
  have HEY9 := hidF (HEY.out _ _ _ _ _ _ _ (HAG.out _ hA8).fl (HAS.out _ hA8).p)
  have hg9 := (HAS.out _ hA8).rg
  have hw9 := (HAS.out _ hA8).rw_
  rw [hgd] at hg9
  clear hAA hb8s hbn hgg ho8 hb78 HX7 HQ7 HB7 HP7 HV7 r1 r2 r3 r4 r5 him
  go_wp2_with (first | refine wpList_load_row rfl 27 _ rfl (w8s.heap.size) rfl 27 #[.slice s1 Y.length t1, .slice s2 Z.length t2, .slice s3 U.length t3] (0, 0) _ hg9 Try.underlying27 rfl hj ?_ | refine wpList_load_row rfl 27 _ rfl gw rfl 27 #[.slice u1 Y.length v1, .slice u2 Z.length v2, .slice u3 U.length v3] (0, 0) _ hw9 Try.underlying27 rfl hj ?_)
  rw [← hgd]
  clear hg9 hw9 hgd
  generalize (w8s.alloc (.cells #[.slice s1 Y.length t1, .slice s2 Z.length t2, .slice s3 U.length t3] 27)) = w8 at hA8 HEY9 ⊢
  refine HEY9.out.mono ?_
  rintro e w10 ⟨rfl, hb10⟩
  have hA10 := HAB.out _ _ hA8 hb10
  clear hA8 hb10 HEY9
  go_wp2_with fail
  have hSd : AA w10.drew := HAB.out _ _ hA10 (Below.refl _ _).drew
  have HSX : Hid (∀ w', AA w' → w'.rangeAt gx 0 [.slice y1 n z1, .slice y2 m z2, .slice y3 k z3]) := fun w' hq j v hv => by
    rw [Nat.zero_add]
    refine (cell_of_row _ _ j _ _ _ (HAS.out _ hq).rx).trans ?_
    simpa using hv
  have HSY : Hid (∀ w', AA w' → w'.rangeAt bk 0 [a, b, c]) := fun w' hq j v hv => by
    rw [Nat.zero_add]
    refine (cell_of_row _ _ j _ _ _ (HAS.out _ hq).rb).trans ?_
    simpa using hv
  clear hA10
  refine wp_region_held (S := AA) (by kernel_rfl) ?_
  change wpAnyH _ _ _ _ _ _ _ _ (World.drew _)
  generalize hX2 : w10.drew = X2 at hSd ⊢
  clear hX2
  refine wpAnyH_take (i := 0) (v := .agg #[.slice y1 n z1, .slice y2 m z2, .slice y3 k z3]) rfl (by kernel_rfl) (by kernel_rfl) (by kernel_rfl) (fun _ _ _ h => h) (yieldsIf_load_mid (by rfl) 27 (.tmp 10) rfl gx 0 rfl [.slice y1 n z1, .slice y2 m z2, .slice y3 k z3] _ HSX.out Try.underlying27 rfl (by kernel_rfl)) hSd ?_
  (try simp only [List.getElem_toArray, List.getElem_cons_succ, List.getElem_cons_zero, Act.put, List.setIfInBounds_toArray, List.set_cons_zero, List.set_cons_succ])
  refine wpAnyH_take (i := 1) (v := .agg #[a, b, c]) rfl (by kernel_rfl) (by kernel_rfl) (by kernel_rfl) (fun _ _ _ h => h) (yieldsIf_load_mid (by rfl) 50 (.tmp 3) rfl bk 0 rfl [a, b, c] _ HSY.out Try.underlying50 rfl (by kernel_rfl)) hSd ?_
  (try simp only [List.getElem_toArray, List.getElem_cons_succ, List.getElem_cons_zero, Act.put, List.setIfInBounds_toArray, List.set_cons_zero, List.set_cons_succ])
  have HQ8 := hidF (HTO.out X2 (HAS.out _ hSd).bel)
  refine held_stepS (i := 2) (by kernel_rfl) rfl (by rfl) ?_
  go_simp
  refine HQ8.out.mono ?_
  rintro e w11 ⟨⟨q1, q2, q3, rfl, hu⟩, hb11⟩
  have hS11 := HAB.out _ _ hSd hb11
  refine ⟨hS11, ?_⟩
  (try simp only [List.getElem_toArray, List.getElem_cons_succ, List.getElem_cons_zero, Act.put, List.setIfInBounds_toArray, List.set_cons_zero, List.set_cons_succ])
  have HE11 := hidF (HEQ.out w11 _ _ ⟨_, _, _, rfl, (HAX.out _ hS11).va, (HAX.out _ hS11).vb, (HAX.out _ hS11).vc⟩ ⟨_, _, _, rfl, hu.va, hu.vb, hu.vc⟩)
  clear hu hb11 hSd HQ8
  refine held_stepS (i := 3) (by kernel_rfl) rfl (by rfl) ?_
  go_simp
  refine HE11.out.mono ?_
  rintro e w12 ⟨rfl, hb12⟩
  have hS12 := HAB.out _ _ hS11 hb12
  refine ⟨hS12, ?_⟩
  (try simp only [List.getElem_toArray, List.getElem_cons_succ, List.getElem_cons_zero, Act.put, List.setIfInBounds_toArray, List.set_cons_zero, List.set_cons_succ])
  clear hb12 hS11 HE11
  refine wpAnyH_take (i := 4) (v := .bool false) rfl (by kernel_rfl) (by kernel_rfl) (by kernel_rfl) (fun _ _ _ h => h) (Or.inl ⟨by rfl, by intro w' hS'; go_simp <;> (first | omega | rfl)⟩) hS12 ?_
  (try simp only [List.getElem_toArray, List.getElem_cons_succ, List.getElem_cons_zero, Act.put, List.setIfInBounds_toArray, List.set_cons_zero, List.set_cons_succ])
  refine wpAnyH_done (by kernel_rfl) ?_ _
  clear HSX HSY
  have hti12 := HTI.out _ (HAS.out _ hS12).bel HNN.out
  go_wp2_with fail
  refine hti12.mono ?_
  rintro e w12b ⟨⟨rfl, hri12⟩, hb12b⟩
  have hS12b := HAB.out _ _ hS12 hb12b
  have heq12 := eqIs_any gi w12.heap.size nn nn nn K w12b HNN.out (HAI.out _ hS12b) hri12
  clear hS12 hti12 hb12b
  go_wp2_with fail
  refine heq12.mono ?_
  rintro e w12c ⟨rfl, hb12c⟩
  have hS12c := HAB.out _ _ hS12b hb12c
  clear hS12b heq12 hb12c hri12
  generalize w12.heap.size = g12 at *
  rename_i w12old
  have HI12 := hidF (HAI.out _ hS12c)
  have HX12 := hidF (HAX.out _ hS12c)
  have hnm := HNM.out
  have HMX := hidF (markDk_any (.slice y1 n z1) (.slice y2 m z2) (.slice y3 k z3) n m k 1 w12c hnm.1 hnm.2.1 hnm.2.2.1 hnm.2.2.2 (by omega) (by omega) HX12.out.ra HX12.out.rb HX12.out.rc (fun g hg => (HX12.out.at_ g hg).2) HX12.out.ab HX12.out.bc)
  have HS12 := hidF (HAS.out _ hS12c)
  have HG12 := hidF (HAG.out _ hS12c)
  have rx12 := HS12.out.rx
  clear hS12c hnm HX12 HAX HAG HAS HAB HAI
  go_wp2_with (refine wpList_load_row rfl 27 _ rfl gx rfl 27 #[.slice y1 n z1, .slice y2 m z2, .slice y3 k z3] (0, 0) _ rx12 Try.underlying27 rfl hj ?_)
  refine HMX.out.mono ?_
  rintro e w13 ⟨⟨rfl, _, _⟩, hf13⟩
  have hxl := HXL.out
  have hs7 := HS7.out
  have hgw := HGW.out
  have hgb := HGB.out
  have hl4 := HL4.out
  have hgl := HGL.out
  have hbk9 := HBK.out
  have HS13 := hidF (HS12.out.frp hf13 (fun j hp => by have := hxl j hp; omega) (fun hp => by have := hxl _ hp; omega) (fun hp => by have := hxl _ hp; omega) (fun hp => by have := hxl _ hp; omega) (fun hp => by have := hxl _ hp; omega) (fun j hj hp => by have := hxl j hp; have := hl4 j hj; omega))
  have HG13 : Hid (own3 w7.heap.size w13 (.slice s1 Y.length t1) (.slice s2 Z.length t2) (.slice s3 U.length t3) Y Z U) := own3_keep HG12.out fun g hg => hf13.block g (own3_lt HG12.out hg).2 (fun hp => by have := hxl g hp; have := (own3_lt HG12.out hg).1; omega)
  have HI13 : Hid (RwI w13 gi nn K) := HI12.out.keep (hf13.block gi HI12.out.lt (fun hp => by have := hxl gi hp; omega))
  obtain ⟨CI, hci1, hci2, _⟩ := HI13.out
  have HMI := hidF (markI_grown gi nn nn (1 + 2 * n + 2 * m + 4 * k) CI w13 HNN.out (by have := HNM.out; omega) hci1 (by omega))
  have hiw := HI13.out.lt
  clear hci1 hci2 hf13 rx12 HMX HS12 HG12 HI12 HI13 hbk9 hs7 hgw hgl hxl hgb hl4
  go_wp2_with fail
  refine HMI.out.mono ?_
  rintro e w13b ⟨rfl, hg13⟩
  have hxl := HXL.out
  have hs7 := HS7.out
  have hgw := HGW.out
  have hgb := HGB.out
  have hl4 := HL4.out
  have hgl := HGL.out
  have hbk9 := HBK.out
  have hfp : FrP w13 w13b (fun j => j = gi) := ⟨hg13.os, hg13.tape, hg13.output, hg13.size, fun j hj hp => hg13.block j hj (fun c => hp (Option.some.inj c))⟩
  have HS13b := hidF (HS13.out.frp hfp (fun j hp => by have : j = gi := hp; omega) (fun hp => by have : bk = gi := hp; omega) (fun hp => by have : gw = gi := hp; omega) (fun hp => by have : gx = gi := hp; omega) (fun hp => by have : gg = gi := hp; omega) (fun j hj hp => by have : j = gi := hp; have := hl4 j hj; omega))
  have HG13b : Hid (own3 w7.heap.size w13b (.slice s1 Y.length t1) (.slice s2 Z.length t2) (.slice s3 U.length t3) Y Z U) := own3_keep HG13.out fun g hg => hfp.block g (own3_lt HG13.out hg).2 (fun hp => by have : g = gi := hp; have := (own3_lt HG13.out hg).1; omega)
  clear HS13 HG13 hg13 hfp HMI hiw
  have HS13 := HS13b
  have HG13 := HG13b
  clear HS13b HG13b
  have HE13 := hidF (HEY.out w13b _ _ _ _ _ _ HG13.out.fl HS13.out.p)
  clear hxl hgb hl4
  obtain ⟨kx, hkx⟩ : ∃ kx : Nat, kx = 1 + 2 * n + 2 * m + 4 * k + nn := ⟨_, rfl⟩
  rw [← hkx]
  have hkn : ¬ (kx : Int) < 0 := by omega
  have hg9 := HS13.out.rg
  have hw9 := HS13.out.rw_
  clear hkx hs7 hgw hgl hbk9
  have m0 := cell_of_row _ _ 0 _ _ _ hg9
  have m1 := cell_of_row _ _ 1 _ _ _ hg9
  have m2 := cell_of_row _ _ 2 _ _ _ hg9
  have n0 := cell_of_row _ _ 0 _ _ _ hw9
  have n1 := cell_of_row _ _ 1 _ _ _ hw9
  have n2 := cell_of_row _ _ 2 _ _ _ hw9
  clear hg9 hw9
  go_wp2_with fail
  refine HE13.out.mono ?_
  rintro e w14 ⟨rfl, hb14⟩
  have HS14 := hidF (HS13.out.below hb14)
  have HG14 := hidF (own3_call HG13.out hb14)
  have hfw : Y.length ≤ 60 ∧ Z.length ≤ 60 ∧ U.length ≤ 200 := HFEW.out
  have HMG := hidF (markDkQ_any (.slice s1 Y.length t1) (.slice s2 Z.length t2) (.slice s3 U.length t3) Y.length Z.length U.length 1 w14 (by omega) (by omega) (by omega) (by omega) (by omega) (by omega) (rwf_own HG14.out.1) (rwf_own HG14.out.2.1) (rwq_own HG14.out.2.2) (fun g hg => (own3_lt HG14.out hg).2) HGO.out.1 HGO.out.2)
  have rg14 := HS14.out.rg
  clear hb14 HE13 HS13 HG13 m0 m1 m2 n0 n1 n2 hfw hkn
  go_wp2_with (refine wpList_load_row rfl 27 _ rfl gg rfl 27 #[.slice s1 Y.length t1, .slice s2 Z.length t2, .slice s3 U.length t3] (0, 0) _ rg14 Try.underlying27 rfl hj ?_)
  refine HMG.out.mono ?_
  rintro e w15 ⟨⟨rfl, hm1, hm2, hm3⟩, hf15⟩
  have hgb := HGB.out
  have hl4 := HL4.out
  have hs7 := HS7.out
  have hgw := HGW.out
  have hbk9 := HBK.out
  have HS15 := hidF (HS14.out.frp hf15 (fun j hp => by have := hgb j hp; omega) (fun hp => by have := hgb _ hp; omega) (fun hp => by have := hgb _ hp; omega) (fun hp => by have := hgb _ hp; omega) (fun hp => (hgb _ hp).2 rfl) (fun j hj hp => by have := hgb j hp; have := hl4 j hj; omega))
  have HM15 := hidF (And.intro hm1 (And.intro hm2 hm3))
  have hfw : Y.length ≤ 60 ∧ Z.length ≤ 60 ∧ U.length ≤ 200 := HFEW.out
  have HH15 := hidF (heldDkQ_any (.slice s1 Y.length t1) (.slice s2 Z.length t2) (.slice s3 U.length t3) Y.length Z.length U.length 1 w15 hfw.1 hfw.2.1 hfw.2.2 (by omega) (by omega) hm1 hm2 hm3)
  obtain ⟨kg, hkg⟩ : ∃ kg : Nat, kg = 1 + 2 * Y.length + 2 * Z.length + 4 * U.length := ⟨_, rfl⟩
  rw [← hkg] at HH15 ⊢
  have hkn : ¬ (kg : Int) < 0 := by omega
  have HKG := hidF hkg
  have rg15 := HS15.out.rg
  clear hkg hf15 hm1 hm2 hm3 hgb hl4 hs7 hgw hbk9 hfw rg14 HMG HS14 HG14
  go_wp2_with (refine wpList_load_row rfl 27 _ rfl gg rfl 27 #[.slice s1 Y.length t1, .slice s2 Z.length t2, .slice s3 U.length t3] (0, 0) _ rg15 Try.underlying27 rfl hj ?_)
  refine HH15.out.mono ?_
  rintro e w16 ⟨rfl, hb16⟩
  have HS16 := hidF (HS15.out.below hb16)
  have HM16 := hidF (And.intro (mkf_below HM15.out.1 hb16) (And.intro (mkf_below HM15.out.2.1 hb16) (HM15.out.2.2.below hb16)))
  clear hb16 HH15 HS15 HM15 rg15
  have rb16 := HS16.out.rb
  go_wp2_with (refine wpList_load_row rfl 50 _ rfl bk rfl 50 #[a, b, c] (0, 0) _ rb16 Try.underlying50 rfl hi ?_)
  clear rb16
  refine (HTO.out _ HS16.out.bel).mono ?_
  rintro e w17 ⟨⟨q1, q2, q3, rfl, hu⟩, hb17⟩
  obtain ⟨e1, f1, rfl, _⟩ := hu.ra.form
  obtain ⟨e2, f2, rfl, _⟩ := hu.rb.form
  obtain ⟨e3, f3, rfl, _⟩ := hu.rc.form
  have HU17 := hidF (And.intro hu.va (And.intro hu.vb hu.vc))
  have HS17 := hidF (HS16.out.below hb17)
  have HM17 := hidF (And.intro (mkf_below HM16.out.1 hb17) (And.intro (mkf_below HM16.out.2.1 hb17) (HM16.out.2.2.below hb17)))
  clear hb17 hu HS16 HM16
  have hti17 := HTI.out _ HS17.out.bel HNN.out
  go_wp2_with fail
  refine hti17.mono ?_
  rintro e w17b ⟨⟨rfl, hri17⟩, hb17b⟩
  have him17 := HIM.out _ _ _ _ _ nn hri17 ⟨HU17.out.1.below hb17b, HU17.out.2.1.below hb17b, HU17.out.2.2.below hb17b⟩
  have HS17b := hidF (HS17.out.below hb17b)
  have HM17b := hidF (And.intro (mkf_below HM17.out.1 hb17b) (And.intro (mkf_below HM17.out.2.1 hb17b) (HM17.out.2.2.below hb17b)))
  clear hri17 hb17b hti17 HU17 HS17 HM17
  have HS17 := HS17b
  have HM17 := HM17b
  clear HS17b HM17b
  go_wp2_with fail
  refine him17.mono ?_
  rintro e w18s ⟨⟨h1, h2, h3, rfl, ⟨r1, r2, r3⟩, _, _⟩, hb18⟩
  obtain ⟨a1, b1, rfl⟩ := ownF_slice r1
  obtain ⟨a2, b2, rfl⟩ := ownF_slice r2
  obtain ⟨a3, b3, rfl⟩ := ownQ_slice r3
  have hba : Below w18s.heap.size w18s (w18s.alloc (.cells #[.slice a1 Y.length b1, .slice a2 Z.length b2, .slice a3 U.length b3] 27)) := (Below.refl _ _).alloc (Nat.le_refl _) _
  have HS19 := hidF ((HS17.out.below hb18).below hba)
  have HM19 := hidF (And.intro (mkf_below (mkf_below HM17.out.1 hb18) hba) (And.intro (mkf_below (mkf_below HM17.out.2.1 hb18) hba) ((HM17.out.2.2.below hb18).below hba)))
  have HE19 := hidF (HEY.out _ _ _ _ _ _ _ (own3_call ⟨r1, r2, r3⟩ hba).fl HS19.out.p)
  have hr18 := heap_alloc_new w18s (.cells #[.slice a1 Y.length b1, .slice a2 Z.length b2, .slice a3 U.length b3] 27)
  have hw19 := HS19.out.rw_
  clear r1 r2 r3 hb18 hba him17 HS17 HM17
  go_wp2_with (first | refine wpList_load_row rfl 27 _ rfl (w18s.heap.size) rfl 27 #[.slice a1 Y.length b1, .slice a2 Z.length b2, .slice a3 U.length b3] (0, 0) _ hr18 Try.underlying27 rfl hj ?_ | refine wpList_load_row rfl 27 _ rfl gw rfl 27 #[.slice u1 Y.length v1, .slice u2 Z.length v2, .slice u3 U.length v3] (0, 0) _ hw19 Try.underlying27 rfl hj ?_)
  clear hr18 hw19
  generalize (w18s.alloc (.cells #[.slice a1 Y.length b1, .slice a2 Z.length b2, .slice a3 U.length b3] 27)) = w18 at HS19 HM19 HE19 ⊢
  refine HE19.out.mono ?_
  rintro e w20 ⟨rfl, hb20⟩
  have HS20 := hidF (HS19.out.below hb20)
  have hfw : Y.length ≤ 60 ∧ Z.length ≤ 60 ∧ U.length ≤ 200 := HFEW.out
  have hh20 := heldDkQ_any (.slice s1 Y.length t1) (.slice s2 Z.length t2) (.slice s3 U.length t3) Y.length Z.length U.length 1 w20 hfw.1 hfw.2.1 hfw.2.2 (by omega) (by omega) (mkf_below HM19.out.1 hb20) (mkf_below HM19.out.2.1 hb20) (HM19.out.2.2.below hb20)
  rw [← HKG.out] at hh20
  have HH20 := hidF hh20
  have rg20 := HS20.out.rg
  clear hb20 hh20 hfw HS19 HM19 HE19
  go_wp2_with (refine wpList_load_row rfl 27 _ rfl gg rfl 27 #[.slice s1 Y.length t1, .slice s2 Z.length t2, .slice s3 U.length t3] (0, 0) _ rg20 Try.underlying27 rfl hj ?_)
  refine HH20.out.mono ?_
  rintro e w21 ⟨rfl, hb21⟩
  have HB21 := hidF (blFl HS20.out.bel hb21 HS20.out.bel.size)
  clear hb21 HS20 HH20 rg20
  go_wp2_with fail
  go_ret
  exact ⟨rfl, HB21.out⟩
set_option maxRecDepth 100000 in
theorem readI {H : Type} {enc : TypeId × Value → H} {W : World} {v : Value} {d : DataW H} {ps : List MemPlace} (h0 : DataW.Trod enc Try.prog W 0 (fun _ => true) true 30 v d ps) (ho : Value.okWide Try.prog W .any 0 30 v) :
    ∃ (a : Option Addr) (n c : Nat) (K : Nat → Int), v = .slice a n c ∧ n ≤ maxLen ∧ InI W (.slice a n c) n K := by
  obtain ⟨a, n, c, rfl⟩ := okWide_slice Try.underlying30 ho
  obtain ⟨fuel, hf⟩ := h0
  have hf' : DataW.trod enc Try.prog W 0 (fun _ => true) true fuel 30 [.slice a n c] = some (d, ps) := by simpa [Value.cells] using hf
  rcases Go.Deep.open_slice Try.underlying30 hf' with ⟨h, _⟩ | ⟨a', len, cap, m, nn, D, Pl, hcs, _, hlc, hcm, hmm, _, hx⟩
  · injection h with h _
    injection h with h1 h2 h3
    subst h1 h2 h3
    exact ⟨none, 0, 0, fun _ => 0, rfl, Nat.zero_le _, ⟨_, _, rfl, fun h => absurd h (by omega)⟩⟩
  · injection hcs with hcs _
    injection hcs with h1 h2 h3
    subst h1 h2 h3
    have c1 : Try.prog.cellsOf 2 = 1 := by kernel_rfl
    have hnm : n ≤ m := by rw [hmm]; split <;> omega
    have each : ∀ i, i < n → ∃ t : Int, W.cell? (a'.add i) = some (.int .i64 t) := by
      intro i hi
      obtain ⟨cs', h1, h2⟩ := hx i (by omega)
      rw [c1] at h1
      obtain ⟨_, hlen, hcell⟩ := World.cells?_some h1
      obtain ⟨t, e0, _⟩ := DataW.trod_int Try.underlying2 h2
      have e1 := hcell 0 (by omega)
      match cs', hlen, e0, e1 with
      | [x], _, e0, e1 =>
        have e0 : x = .int .i64 t := by simpa using e0
        subst e0
        exact ⟨t, by simpa [Go.Deep.add_add] using e1⟩
    obtain ⟨F, hF⟩ : ∃ F : Nat → Int, ∀ i, i < n → W.cell? (a'.add i) = some (.int .i64 (F i)) :=
      ⟨fun i => if h : i < n then Classical.choose (each i h) else 0, fun i hi => by
        have := Classical.choose_spec (each i hi)
        simp only [dif_pos hi]
        exact this⟩
    refine ⟨_, n, c, F, rfl, Nat.le_trans hlc hcm, ⟨_, _, rfl, fun h0 => ?_⟩⟩
    have hc0 := hF 0 h0
    have ha0 : a'.add 0 = a' := by simp [Addr.add]
    rw [ha0] at hc0
    obtain ⟨g, off, spot⟩ := a'
    obtain ⟨hlt, hsp⟩ := cell_ltFl hc0
    have hsp : spot = none := hsp
    subst hsp
    refine ⟨g, off, rfl, hlt, fun i hi => ?_⟩
    have h9 := hF i hi
    have e9 : (⟨g, off, none⟩ : Addr).add i = ⟨g, off + i, none⟩ := by
      unfold Addr.add
      by_cases h0 : i = 0
      · subst h0; simp
      · simp [h0]
    rw [e9] at h9
    exact h9
theorem array3x {α : Type} {cs : Array α} (h : cs.size = 3) : ∃ c0 c1 c2, cs = #[c0, c1, c2] := by
  obtain ⟨l⟩ := cs
  match l, h with
  | [c0, c1, c2], _ => exact ⟨c0, c1, c2, rfl⟩
set_option maxRecDepth 100000 in
theorem read3 {H : Type} {enc : TypeId × Value → H} {W : World} {v : Value} {d : DataW H} {ps : List MemPlace} (h0 : DataW.Trod enc Try.prog W 0 (fun _ => true) true 50 v d ps) (ho : Value.okWide Try.prog W .any 0 50 v) :
    ∃ (a b c : Value) (n m k : Nat) (F G : Nat → FlI) (O : Nat → DqI), v = .agg #[a, b, c] ∧ (n ≤ maxLen ∧ m ≤ maxLen ∧ k ≤ maxLen) ∧ (∀ i, i < n → (F i).a.size ≤ maxLen ∧ (F i).d.size ≤ maxLen) ∧ (∀ i, i < m → (G i).a.size ≤ maxLen ∧ (G i).d.size ≤ maxLen) ∧ (∀ i, i < k → (O i).a.size ≤ maxLen ∧ (O i).p.size ≤ maxLen ∧ (O i).d.size ≤ maxLen) ∧ FlIn W a n F ∧ FlIn W b m G ∧ DqIn W c k O := by
  obtain ⟨cs, rfl, hsz⟩ := okWide_struct Try.underlying50 ho
  have hsz3 : cs.size = 3 := hsz.trans (by kernel_rfl)
  obtain ⟨c0, c1, c2, rfl⟩ := array3x hsz3
  obtain ⟨fuel, hf⟩ := h0
  obtain ⟨y0, y1, y2, n, _, _, t0, t1, t2⟩ := Go.Deep.trod_struct3 Try.underlying50 hf
  have cF : Try.prog.cellsOf 47 = 1 := by kernel_rfl
  have cD : Try.prog.cellsOf 48 = 1 := by kernel_rfl
  rw [cF] at t0 t1
  rw [cD] at t2
  simp [Value.cells] at t0 t1 t2
  obtain ⟨a1, n1, k1, rfl⟩ : ∃ a n k, c0 = .slice a n k := by
    rcases Go.Deep.open_slice Try.underlying47 t0 with ⟨h, _⟩ | ⟨a', len, cap, m, nn, D, Pl, hcs, _⟩
    · cases h; exact ⟨_, _, _, rfl⟩
    · cases hcs; exact ⟨_, _, _, rfl⟩
  obtain ⟨a2, n2, k2, rfl⟩ : ∃ a n k, c1 = .slice a n k := by
    rcases Go.Deep.open_slice Try.underlying47 t1 with ⟨h, _⟩ | ⟨a', len, cap, m, nn, D, Pl, hcs, _⟩
    · cases h; exact ⟨_, _, _, rfl⟩
    · cases hcs; exact ⟨_, _, _, rfl⟩
  obtain ⟨a3, n3, k3, rfl⟩ : ∃ a n k, c2 = .slice a n k := by
    rcases Go.Deep.open_slice Try.underlying48 t2 with ⟨h, _⟩ | ⟨a', len, cap, m, nn, D, Pl, hcs, _⟩
    · cases h; exact ⟨_, _, _, rfl⟩
    · cases hcs; exact ⟨_, _, _, rfl⟩
  obtain ⟨F, m1, z1, i1⟩ := read_slFl (d := y0.1) (ps := y0.2) ⟨n, by simpa [Value.cells] using t0⟩
  obtain ⟨G, m2, z2, i2⟩ := read_slFl (d := y1.1) (ps := y1.2) ⟨n, by simpa [Value.cells] using t1⟩
  obtain ⟨O, m3, z3, i3⟩ := read_slDq (d := y2.1) (ps := y2.2) ⟨n, by simpa [Value.cells] using t2⟩
  exact ⟨_, _, _, n1, n2, n3, F, G, O, rfl, ⟨m1, m2, m3⟩, z1, z2, z3, i1, i2, i3⟩
set_option maxRecDepth 100000 in
theorem lifted (os : Os) (started : os.Started) (H : Type) (enc : TypeId × Value → H) :
    ReturnsInHanded {} Try.checked os 9 .any (Rows.fnExactCrashSpec.pre6 enc Try.prog Try.f9 Rows.fnExactCrashRow.domain false) (Rows.fnExactCrashSpec.post enc Try.prog Try.f9 false true false false) := by
  refine returnsInHanded_of_change (C := Try.checked) own started (by kernel_rfl) Try.func9
    (ChangeSpec.witness6 (enc := enc) (C := Try.checked) false ⟨#[], #[.agg #[.slice none 0 0, .slice none 0 0, .slice none 0 0], .slice none 0 0, .int .i64 0], []⟩ 8 (by kernel_rfl) (by kernel_rfl) (by kernel_rfl) (by kernel_rfl)) ?_
  intro W base args ds gs before hval0 hW hcnd _
  have hval : ∀ (j : Nat) t v, Try.f9.params[j]? = some t → args[j]? = some v → Value.okWide Try.prog W .any base t v := hval0
  have hW' := hW
  obtain ⟨p, q, hA0, hV, rfl, hfz, hnd⟩ := hW
  have hA : DataW.TrodAll enc Try.prog W 0 (fun _ => true) true Try.f9.params.toList args.toList ds p := hA0
  rw [Try.params9] at hA hval
  obtain ⟨v0, vs0, d0, ds0, p0, q0, hargs, rfl, rfl, h0, r0⟩ := trodAll_cons hA
  obtain ⟨v1, vs1, d1, ds1, p1, q1, rfl, rfl, rfl, h1, r1⟩ := trodAll_cons r0
  obtain ⟨v2, vs2, d2, ds2, p2, q2, rfl, rfl, rfl, h2, r2⟩ := trodAll_cons r1
  obtain ⟨rfl, rfl, rfl⟩ := trodAll_nil r2
  obtain rfl : args = #[v0, v1, v2] := by cases args; simp_all
  obtain ⟨rfl, rfl⟩ := trodVars_none hV
  obtain ⟨a, b, c, n, m, k, F, G, O, rfl, ⟨m1, m2, m3⟩, z1, z2, z3, i1, i2, i3⟩ := read3 h0 (Value.okWide_any_base (hval 0 _ v0 rfl rfl))
  obtain ⟨av, nn, cv, K, rfl, s1, hkk⟩ := readI h1 (Value.okWide_any_base (hval 1 _ v1 rfl rfl))
  obtain ⟨tt, rfl, rfl, rfl, ws2⟩ := open_int Try.underlying2 (hval 2 _ v2 rfl rfl) h2
  have k0 := h0
  have k1 := h1
  have lt0 : ∀ x ∈ p0, x.block < W.heap.size := by obtain ⟨m, hm⟩ := k0; exact DataW.trod_lt m _ _ _ hm
  have lt1 : ∀ x ∈ p1, x.block < W.heap.size := by obtain ⟨m, hm⟩ := k1; exact DataW.trod_lt m _ _ _ hm
  clear hA0 hval0
  refine (walk a b c n m k F G O av nn cv K tt W m1 m2 m3 z1 z2 z3 s1 hkk i1 i2 i3).mono fun e W' ⟨he, bel⟩ => ?_
  subst he
  exact ⟨_, rfl, _, _, _, [], _, [], hW', trodAll_mk1 (shut_bool Try.underlying4 _), (trodAll_cons_mk (Below.trod laidOut (by kernel_rfl) (of_decide_eq_true (by kernel_rfl)) k0 bel lt0) (trodAll_cons_mk (Below.trod laidOut (by kernel_rfl) (of_decide_eq_true (by kernel_rfl)) k1 bel lt1) (trodAll_cons_mk (shut_int Try.underlying2 ws2) trodAll_mk0))), rfl, bel.frame _, fun h => by cases h⟩

theorem over : Rows.fnExactCrashRow.holds Try.pinned (OpenSpec.ofChange Rows.fnExactCrashSpec) :=
  OpenClaim.holds_of_wide 9 Try.f9 rfl rfl rfl rfl rfl rfl rfl ⟨rfl, rfl, rfl, rfl, rfl⟩ rfl rfl rfl rfl rfl (by kernel_rfl) Try.func9 (by kernel_rfl)
    (of_decide_eq_true (by kernel_rfl)) (by unfold Func.isWrapper; first | (rw [if_pos (by decide +kernel)]; kernel_rfl) | (rw [if_neg (by decide +kernel)]; exact ⟨rfl, rfl⟩))
    (fun os started H enc _ => lifted os started H enc)
theorem proved : Rows.FnExactCrashSaid :=
  over
#print axioms proved
end Go.Proofs.Ytanlggglbpibfaa.fnExactCrash
