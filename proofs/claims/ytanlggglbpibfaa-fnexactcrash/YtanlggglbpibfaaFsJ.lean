/-
  A disk that is worked on: one op.
-/
import Derived.Test.YtanlggglbpibfaaFsI
namespace Go.Proofs.Ytanlggglbpibfaa
open Go.RowKit
set_option linter.unusedVariables false
set_option linter.unusedSimpArgs false
theorem four_dq (m : Int) (a p d : ByteArray) : ∀ u ∈ [Value.int .i64 m, .string a, .string p, .string d], u.oneCell' = true := by
  intro u hu
  simp only [List.mem_cons, List.not_mem_nil, or_false] at hu
  rcases hu with rfl | rfl | rfl | rfl <;> rfl
theorem cell_fourQ {W : World} {x y z u : Value} {t : TypeId} {k : Nat} (hk : W.heap.size = k) : ∀ j q, [x, y, z, u][j]? = some q → (W.alloc (.cells #[x, y, z, u] t)).cell? ((⟨k, 0, none⟩ : Addr).add j) = some q := by
  subst hk
  intro j q hj
  match j, hj with
  | 0, hj => cases hj; exact cell_of_row _ _ 0 _ _ _ (heap_alloc_new W _)
  | 1, hj => cases hj; exact cell_of_row _ _ 1 _ _ _ (heap_alloc_new W _)
  | 2, hj => cases hj; exact cell_of_row _ _ 2 _ _ _ (heap_alloc_new W _)
  | 3, hj => cases hj; exact cell_of_row _ _ 3 _ _ _ (heap_alloc_new W _)
/-- a disk that is worked on: its block wd -/
structure WdW (W : World) (lo wd p mb : Nat) (vS vO : Value) (L : List FlI) (O : List DqI) : Prop where
  box : W.heap[wd]? = some (.cells #[.pointer (some ⟨p, 0, none⟩), vS, vO] 94 (0, 0))
  set : ∃ V, FsW W lo p mb L V (sumD L)
  ops : W.ownsRow lo 36 4 vO O.length (dqC O)
  base : lo ≤ wd
theorem own4q_keep {w w' : World} {B n : Nat} {e : TypeId} {v : Value} {xs : List Value} (h : w.ownsRow B e 4 v n xs) (hb : ∀ k, v.ownBlock = some k → w'.heap[k]? = w.heap[k]?) : w'.ownsRow B e 4 v n xs := by
  obtain ⟨h0, h1 | ⟨g, cap, cur, h1, h2, h3, h4, h5, h6, h7⟩⟩ := h
  · exact ⟨h0, Or.inl h1⟩
  · exact ⟨h0, Or.inr ⟨g, cap, cur, h1, h2, (hb g (by rw [h1]; rfl)).trans h3, h4, h5, h6, h7⟩⟩
theorem own4q_at {w : World} {B n : Nat} {v : Value} {xs : List Value} (h : w.ownsRow B 36 4 v n xs) {k : Nat} (hk : v.ownBlock = some k) : B ≤ k ∧ ∃ cur, w.heap[k]? = some (.cells cur 36 (0, 0)) := by
  obtain ⟨_, ⟨h0, _⟩ | ⟨g, cap, cur, h1, h2, h3, _⟩⟩ := h
  · subst h0; cases hk
  · subst h1
    have e : g = k := Option.some.inj hk
    subst e
    exact ⟨h2, cur, h3⟩
theorem WdW.under {W W' : World} {lo wd p mb : Nat} {vS vO : Value} {L : List FlI} {O : List DqI} (h : WdW W lo wd p mb vS vO L O) (hb : Below W.heap.size W W') : WdW W' lo wd p mb vS vO L O := by
  obtain ⟨V, hV⟩ := h.set
  exact ⟨(hb.block wd (Array.getElem?_eq_some_iff.1 h.box).1).trans h.box, ⟨V, hV.under hb⟩, own4q_keep h.ops fun k hk => hb.block k (h.ops.lt k hk).2, h.base⟩
theorem WdW.np {W : World} {lo wd p mb : Nat} {vS vO : Value} {L : List FlI} {O : List DqI} (h : WdW W lo wd p mb vS vO L O) : wd ≠ p := by
  rintro rfl
  obtain ⟨V, hV⟩ := h.set
  have h1 := h.box
  rw [hV.box] at h1
  injection h1 with h1
  injection h1 with _ h1 _
  exact absurd h1 (by decide)
theorem WdW.nop {W : World} {lo wd p mb : Nat} {vS vO : Value} {L : List FlI} {O : List DqI} (h : WdW W lo wd p mb vS vO L O) {k : Nat} (hk : vO.ownBlock = some k) : k ≠ p ∧ k ≠ wd := by
  obtain ⟨V, hV⟩ := h.set
  obtain ⟨_, cur, h2⟩ := own4q_at h.ops hk
  constructor
  · rintro rfl
    rw [hV.box] at h2
    injection h2 with h2
    injection h2 with _ h2 _
    exact absurd h2 (by decide)
  · rintro rfl
    rw [h.box] at h2
    injection h2 with h2
    injection h2 with _ h2 _
    exact absurd h2 (by decide)
/-- behind a deed -/
theorem WdW.bf {W W' : World} {lo wd p mb : Nat} {vS vO : Value} {L M : List FlI} {O : List DqI} {V : ByteArray → Value} (h : WdW W lo wd p mb vS vO L O) (hb : BF lo p W W') (hF : FsW W' lo p mb M V (sumD M)) : WdW W' lo wd p mb vS vO M O :=
  ⟨hb.fr _ _ _ h.box (by decide) h.np, ⟨V, hF⟩, own4q_keep h.ops fun k hk => by
    obtain ⟨_, cur, h2⟩ := own4q_at h.ops hk
    rw [hb.fr _ _ _ h2 (by decide) (h.nop hk).1, h2], h.base⟩
theorem dqC_snoc2 (O : List DqI) (m : Int) (a q d : ByteArray) : dqC O ++ [.int .i64 m, .string a, .string q, .string d] = dqC (O ++ [(⟨m, a, q, d⟩ : DqI)]) := dqC_snoc O ⟨m, a, q, d⟩
theorem WdW.grew {W w9 : World} {lo wd p mb : Nat} {vS vO v9 : Value} {M : List FlI} {O : List DqI} {m : Int} {a q d : ByteArray} (h : WdW W lo wd p mb vS vO M O) (hown : w9.ownsRow lo 36 4 v9 (O.length + 1) (dqC O ++ [.int .i64 m, .string a, .string q, .string d])) (hg : W.grownBy w9 vO.ownBlock) :
    w9.heap[wd]? = some (.cells #[.pointer (some ⟨p, 0, none⟩), vS, vO] 94 (0, 0)) ∧ (∃ V, FsW w9 lo p mb M V (sumD M)) ∧ w9.ownsRow lo 36 4 v9 (O ++ [(⟨m, a, q, d⟩ : DqI)]).length (dqC (O ++ [(⟨m, a, q, d⟩ : DqI)])) ∧ lo ≤ wd ∧ wd ≠ p ∧ wd ≠ mb ∧ (∀ k, v9.ownBlock = some k → k ≠ wd) := by
  obtain ⟨V, hV⟩ := h.set
  have e1 : w9.heap[wd]? = some (.cells #[.pointer (some ⟨p, 0, none⟩), vS, vO] 94 (0, 0)) := (hg.block wd (Array.getElem?_eq_some_iff.1 h.box).1 (fun c => (h.nop c.symm).2 rfl)).trans h.box
  have e2 : FsW w9 lo p mb M V (sumD M) := by
    refine ⟨(hg.block p hV.plt.1 (fun c => (h.nop c.symm).1 rfl)).trans hV.box, hV.map.same (hg.block mb hV.plt.2 (fun c => ?_)), hV.rise, hV.rows.keep fun f hf k hk => hg.block k ((hV.rows.rows f hf).lt hk) (fun c => ?_), hV.base⟩
    · obtain ⟨_, cur, h2⟩ := own4q_at h.ops c.symm
      obtain ⟨D, ⟨es, clock, hb, _⟩, _⟩ := hV.map
      rw [hb] at h2
      injection h2 with h2
      cases h2
    · obtain ⟨_, cur, h2⟩ := own4q_at h.ops c.symm
      obtain ⟨_, cur3, h3⟩ := (hV.rows.rows f hf).at hk
      rw [h2] at h3
      injection h3 with h3
      injection h3 with _ h3 _
      exact absurd h3 (by decide)
  rw [dqC_snoc2] at hown
  have e3 : w9.ownsRow lo 36 4 v9 (O ++ [(⟨m, a, q, d⟩ : DqI)]).length (dqC (O ++ [(⟨m, a, q, d⟩ : DqI)])) := by simpa only [List.length_append, List.length_singleton, List.length_cons, List.length_nil] using hown
  refine ⟨e1, ⟨V, e2⟩, e3, h.base, h.np, ?_, fun k hk c => ?_⟩
  · rintro rfl
    obtain ⟨D, ⟨es, clock, hb, _⟩, _⟩ := e2.map
    rw [e1] at hb
    injection hb with hb
    cases hb
  · obtain ⟨_, cur, h2⟩ := own4q_at e3 hk
    rw [c, e1] at h2
    injection h2 with h2
    injection h2 with _ h2 _
    exact absurd h2 (by decide)
theorem WdW.stored {w9 : World} {lo wd p mb : Nat} {vS vO v9 : Value} {M : List FlI} {O : List DqI} (h : w9.heap[wd]? = some (.cells #[.pointer (some ⟨p, 0, none⟩), vS, vO] 94 (0, 0)) ∧ (∃ V, FsW w9 lo p mb M V (sumD M)) ∧ w9.ownsRow lo 36 4 v9 O.length (dqC O) ∧ lo ≤ wd ∧ wd ≠ p ∧ wd ≠ mb ∧ (∀ k, v9.ownBlock = some k → k ≠ wd)) : WdW (w9.setCell ⟨wd, 2, none⟩ v9) lo wd p mb vS v9 M O := by
  obtain ⟨h1, ⟨V, h2⟩, h3, h4, h5, h6, h7⟩ := h
  refine ⟨?_, ⟨V, ?_⟩, own4q_keep h3 fun k hk => heap_setCell_other _ _ _ _ (h7 k hk), h4⟩
  · have := heap_setCell_same w9 wd 2 _ _ v9 h1
    simpa using this
  · refine ⟨(heap_setCell_other _ _ _ _ h5.symm).trans h2.box, h2.map.same (heap_setCell_other _ _ _ _ h6.symm), h2.rise, h2.rows.keep fun f hf k hk => heap_setCell_other _ _ _ _ (fun c => ?_), h2.base⟩
    have c : k = wd := c
    subst c
    obtain ⟨_, cur3, h8⟩ := (h2.rows.rows f hf).at hk
    rw [h1] at h8
    injection h8 with h8
    injection h8 with _ h8 _
    exact absurd h8 (by decide)
/-- what one op says -/
def stP (L : List FlI) (n : Nat) (o : DqI) (c : Int) : Prop := (¬ opP o ∧ c = 2) ∨ (opP o ∧ doF L o = none ∧ c = 3) ∨ (opP o ∧ (∃ M, doF L o = some M ∧ ¬ (n + 1 ≤ 200 ∧ M.length ≤ 60 ∧ sumD M ≤ 200000)) ∧ c = 4) ∨ (opP o ∧ (∃ M, doF L o = some M ∧ (n + 1 ≤ 200 ∧ M.length ≤ 60 ∧ sumD M ≤ 200000)) ∧ c = 0)
theorem doF_wants {L : List FlI} {o : DqI} (ho : opP o) : (doF L o = none) ↔ (o.m ≠ 1 ∧ fdF L o.a = none) := by
  unfold doF
  by_cases h : o.m = 1
  · rw [if_pos h]; simp [h]
  · rw [if_neg h]
    cases fdF L o.a <;> simp [h]
theorem finds15_any {lo p mb n : Nat} {L : List FlI} {V : ByteArray → Value} (o : DqI) (w : World) (h : FsW w lo p mb L V n) (ho : opP o) :
    Calls Try.prog 84 #[.pointer (some ⟨p, 0, none⟩), dV o] w fun e w' => e = .returned (.bool (doF L o).isSome) ∧ Below w.heap.size w w' := by
  have hw := doF_wants (L := L) ho
  obtain ⟨m, a, q, d⟩ := o
  have ha := nm_ne ho.2.1
  have hs : a.size ≤ 1500000 := by have := ho.2.1.2; have e : a.size ≤ 100 := this; omega
  have hm : m = 1 ∨ m = 2 ∨ m = 3 := by have := ho.1; have this : 1 ≤ m ∧ m ≤ 3 := this; omega
  have key : m ≠ 1 → (doF L ⟨m, a, q, d⟩).isSome = (fdF L a).isSome := fun hm => by
    unfold doF
    rw [if_neg (show ¬ m = 1 from hm)]
    show (match fdF L a with | none => none | some x => _).isSome = _
    cases fdF L a <;> rfl
  rcases hm with rfl | rfl | rfl
  · have e : (doF L ⟨1, a, q, d⟩).isSome = true := rfl
    rw [e, dV1]; exact findsA_any p a d w
  · rw [key (by omega), dV2]; exact findsN_any a q w h ha hs
  · rw [key (by omega), dV3]; exact findsM_any a w h ha hs
set_option maxRecDepth 100000 in
set_option maxHeartbeats 4000000 in
theorem wdo_any {lo wd p mb : Nat} {vS vO : Value} {L : List FlI} {O : List DqI} (m : Int) (a q d : ByteArray) (w : World) (h : WdW w lo wd p mb vS vO L O) (hl : L.length ≤ 1000) (hn : sumD L ≤ 1000000) (hO : O.length ≤ 1000) (hq : q.size ≤ 1500000) (hd : d.size ≤ 1500000) :
    Calls Try.prog 78 #[.pointer (some ⟨wd, 0, none⟩), dqV m a q d] w fun e w' => (∃ c, e = .returned (.int .i64 c) ∧ stP L O.length ⟨m, a, q, d⟩ c ∧ (c = 0 → ∃ vO', WdW w' lo wd p mb vS vO' (doG L ⟨m, a, q, d⟩) (O ++ [⟨m, a, q, d⟩]))) ∧ Below lo w w' := by
  have hlo : lo ≤ w.heap.size := by have := h.base; have := (Array.getElem?_eq_some_iff.1 h.box).1; omega
  have HLO := hidF hlo
  have HU : Hid (∀ w', Below w.heap.size w w' → WdW w' lo wd p mb vS vO L O ∧ Below lo w w') := fun w' hb => ⟨h.under hb, hb.mono hlo⟩
  have HDE : Hid (∀ w, Calls Try.prog 48 #[.agg #[.int .i64 m, .string a, .string q, .string d]] w fun e w' => DeAns ⟨m, a, q, d⟩ e ∧ Below w.heap.size w w') := fun w => deed_any m a q d w
  have HFD : Hid (∀ w', WdW w' lo wd p mb vS vO L O → opP ⟨m, a, q, d⟩ → Calls Try.prog 84 #[.pointer (some ⟨p, 0, none⟩), dV ⟨m, a, q, d⟩] w' fun e w'' => e = .returned (.bool (doF L ⟨m, a, q, d⟩).isSome) ∧ Below w'.heap.size w' w'') := fun w' hw ho => by
    obtain ⟨V, hV⟩ := hw.set
    exact finds15_any _ w' hV ho
  have HDO : Hid (∀ w', WdW w' lo wd p mb vS vO L O → opP ⟨m, a, q, d⟩ → Calls Try.prog 49 #[.pointer (some ⟨p, 0, none⟩), dV ⟨m, a, q, d⟩] w' fun e w'' => e = .returned (.tuple #[]) ∧ WdW w'' lo wd p mb vS vO (doG L ⟨m, a, q, d⟩) O ∧ BF lo p w' w'') := fun w' hw ho => by
    obtain ⟨V, hV⟩ := hw.set
    refine (do15_any (o := ⟨m, a, q, d⟩) w' hV ho hq (by show d.size ≤ _; omega) (by omega) (by omega)).mono ?_
    rintro e w'' ⟨h1, ⟨V', h2⟩, h3⟩
    exact ⟨h1, hw.bf h3 h2, h3⟩
  have HFT : Hid (∀ vO' (O' : List DqI) (M : List FlI) w', WdW w' lo wd p mb vS vO' M O' → Calls Try.prog 50 #[.pointer (some ⟨p, 0, none⟩)] w' fun e w'' => e = .returned (.bool (decide (M.length ≤ 60 ∧ sumD M ≤ 200000))) ∧ w'' = w') := fun vO' O' M w' hw => by
    obtain ⟨V, hV⟩ := hw.set
    exact fits15_any w' hV
  have HB1 : Hid (Below w.heap.size w (w.alloc (.cells #[.int .i64 m, .string a, .string q, .string d] 36))) := (Below.refl _ _).alloc (Nat.le_refl _) _
  have HX1 : Hid ((w.alloc (.cells #[.int .i64 m, .string a, .string q, .string d] 36)).heap[w.heap.size]? = some (.cells #[.int .i64 m, .string a, .string q, .string d] 36 (0, 0))) := heap_alloc_new w _
  have HBK : Hid (∀ k, vO.ownBlock = some k → k < w.heap.size) := fun k hk => (h.ops.lt k hk).2
  have HWD : Hid (wd < w.heap.size) := (Array.getElem?_eq_some_iff.1 h.box).1
  have hO2 := hO
  clear h hlo
  unfold dqV
  go_enter Try.func78, Try.ntmps78
  go_wp2_with fail
  refine (HDE.out _).mono ?_
  rintro e w2 ⟨hde, hb2⟩
  have HB2 := hidF (blFl HB1.out hb2 HB1.out.size)
  have HX2 : Hid (w2.heap[w.heap.size]? = some (.cells #[.int .i64 m, .string a, .string q, .string d] 36 (0, 0))) := (hb2.block _ (Array.getElem?_eq_some_iff.1 HX1.out).1).trans HX1.out
  obtain ⟨bk, hbk⟩ : ∃ bk, bk = w.heap.size := ⟨_, rfl⟩
  rw [← hbk] at HX2 ⊢
  have HBQ := hidF hbk
  clear hb2 HB1 HX1 hbk
  have HW2 := hidF (HU.out _ HB2.out)
  have c0 := cell_of_row _ _ 0 _ _ _ HW2.out.1.box
  have c2 := cell_of_row _ _ 2 _ _ _ HW2.out.1.box
  rcases hde with ⟨hop, rfl⟩ | ⟨hop, x, rfl⟩
  rotate_left
  · have HS : Hid (stP L O.length ⟨m, a, q, d⟩ 2) := Or.inl ⟨hop, rfl⟩
    clear hop c0 c2
    go_wp2_with fail
    go_ret
    exact ⟨⟨2, rfl, HS.out, fun h => absurd h (by omega)⟩, HW2.out.2⟩
  have HOP := hidF hop
  generalize hdv : dV ⟨m, a, q, d⟩ = dv at *
  clear hdv
  go_wp2_with fail
  refine (HFD.out _ HW2.out.1 hop).mono ?_
  rintro e w3 ⟨rfl, hb3⟩
  have HB3 := hidF (blFl HB2.out hb3 HB2.out.size)
  have HW3 := hidF (HU.out _ HB3.out)
  have HX3 : Hid (w3.heap[bk]? = some (.cells #[.int .i64 m, .string a, .string q, .string d] 36 (0, 0))) := (hb3.block _ (Array.getElem?_eq_some_iff.1 HX2.out).1).trans HX2.out
  clear hb3 HW2 HX2 HB2 c0 c2
  have c0 := cell_of_row _ _ 0 _ _ _ HW3.out.1.box
  cases hdo : doF L ⟨m, a, q, d⟩ with
  | none =>
    have HS : Hid (stP L O.length ⟨m, a, q, d⟩ 3) := Or.inr (Or.inl ⟨hop, hdo, rfl⟩)
    clear hop hdo
    go_wp2_with fail
    go_ret
    exact ⟨⟨3, rfl, HS.out, fun h => absurd h (by omega)⟩, HW3.out.2⟩
  | some M =>
    have hG : doG L ⟨m, a, q, d⟩ = M := by unfold doG; rw [hdo]; rfl
    rw [hG] at HDO
    have HDF := hidF hdo
    have HG := hidF hG
    clear hdo hG
    go_wp2_with fail
    refine (HDO.out _ HW3.out.1 hop).mono ?_
    rintro e w4 ⟨rfl, hW4, hb4⟩
    have HW4 := hidF hW4
    have HB4 : Hid (Below lo w w4) := HW3.out.2.trans hb4.bel
    have HX4 : Hid (w4.heap[bk]? = some (.cells #[.int .i64 m, .string a, .string q, .string d] 36 (0, 0))) := hb4.fr _ _ _ HX3.out (by decide) (fun c => by
      obtain ⟨V, hV⟩ := HW3.out.1.set
      have h1 := HX3.out
      rw [c, hV.box] at h1
      injection h1 with h1
      injection h1 with _ h1 _
      exact absurd h1 (by decide))
    have HSZ : Hid (w.heap.size ≤ w4.heap.size) := HB4.out.size
    clear hW4 hb4 HW3 HX3 HB3 c0 hop HDO HFD HDE
    have HNE : Hid (wd ≠ bk ∧ ∀ k, vO.ownBlock = some k → k ≠ bk ∧ k ≠ wd) := ⟨fun c => by have := HWD.out; have := HBQ.out; omega, fun k hk => ⟨fun c => by have := HBK.out k hk; have := HBQ.out; omega, (HW4.out.nop hk).2⟩⟩
    obtain ⟨i0, hi0, hz0, hz1, hz2⟩ := info_parts Try.infDq
    obtain ⟨S, hS⟩ : ∃ S : World → Prop, S = fun w' => w'.heap[bk]? = some (.cells #[.int .i64 m, .string a, .string q, .string d] 36 (0, 0)) := ⟨_, rfl⟩
    have hSd : S w4.drew := by rw [hS]; exact HX4.out
    have HSX : Hid (∀ w', S w' → w'.cell? ⟨bk, 0, none⟩ = some (.int .i64 m) ∧ w'.cell? ⟨bk, 1, none⟩ = some (.string a) ∧ w'.cell? ⟨bk, 2, none⟩ = some (.string q) ∧ w'.cell? ⟨bk, 3, none⟩ = some (.string d)) := fun w' hq => by
      rw [hS] at hq
      exact ⟨cell_of_row _ _ 0 _ _ _ hq, cell_of_row _ _ 1 _ _ _ hq, cell_of_row _ _ 2 _ _ _ hq, cell_of_row _ _ 3 _ _ _ hq⟩
    have HSI : Hid (∀ w', w'.heap[bk]? = some (.cells #[.int .i64 m, .string a, .string q, .string d] 36 (0, 0)) → S w') := fun w' h1 => by rw [hS]; exact h1
    have HDR : Hid (Below w4.heap.size w4 w4.drew) := (Below.refl _ _).drew
    have HDW := hidF (HW4.out.under HDR.out)
    have HDX : Hid (w4.drew.heap[bk]? = some (.cells #[.int .i64 m, .string a, .string q, .string d] 36 (0, 0))) := HX4.out
    have HDB : Hid (Below lo w w4.drew) := HB4.out.drew
    clear hS HX4 HB4 HDR
    go_wp2_with fail
    refine wp_region_held (S := S) (by kernel_rfl) ?_
    change wpAnyH _ _ _ _ _ _ _ _ (World.drew _)
    generalize w4.drew = X2 at hSd HDW HDX HDB ⊢
    refine wpAnyH_take (i := 0) (v := .pointer (some ⟨wd, 0, none⟩)) rfl (by kernel_rfl) (by kernel_rfl) (by kernel_rfl) (fun _ _ _ h => h) (Or.inl ⟨by rfl, by intro w' hS'; go_simp <;> (first | omega | rfl | (rw [IntKind.wrap_i64]; omega))⟩) hSd ?_
    (try simp only [List.getElem_toArray, List.getElem_cons_succ, List.getElem_cons_zero, Act.put, List.setIfInBounds_toArray, List.set_cons_zero, List.set_cons_succ])
    refine wpAnyH_take (i := 1) (v := .pointer (some ⟨wd, 0, none⟩)) rfl (by kernel_rfl) (by kernel_rfl) (by kernel_rfl) (fun _ _ _ h => h) (Or.inl ⟨by rfl, by intro w' hS'; go_simp <;> (first | omega | rfl | (rw [IntKind.wrap_i64]; omega))⟩) hSd ?_
    (try simp only [List.getElem_toArray, List.getElem_cons_succ, List.getElem_cons_zero, Act.put, List.setIfInBounds_toArray, List.set_cons_zero, List.set_cons_succ])
    refine wpAnyH_take (i := 2) (v := .pointer (some ⟨wd, 0, none⟩)) rfl (by kernel_rfl) (by kernel_rfl) (by kernel_rfl) (fun _ _ _ h => h) (Or.inl ⟨by rfl, by intro w' hS'; go_simp <;> (first | omega | rfl | (rw [IntKind.wrap_i64]; omega))⟩) hSd ?_
    (try simp only [List.getElem_toArray, List.getElem_cons_succ, List.getElem_cons_zero, Act.put, List.setIfInBounds_toArray, List.set_cons_zero, List.set_cons_succ])
    refine wpAnyH_take (i := 3) (v := .pointer (some ⟨wd, 2, none⟩)) rfl (by kernel_rfl) (by kernel_rfl) (by kernel_rfl) (fun _ _ _ h => h) (Or.inl ⟨by rfl, by intro w' hS'; go_simp <;> (first | omega | rfl | (rw [IntKind.wrap_i64]; omega))⟩) hSd ?_
    (try simp only [List.getElem_toArray, List.getElem_cons_succ, List.getElem_cons_zero, Act.put, List.setIfInBounds_toArray, List.set_cons_zero, List.set_cons_succ])
    refine wpAnyH_take (i := 5) (v := .agg #[.int .i64 m, .string a, .string q, .string d]) rfl (by kernel_rfl) (by kernel_rfl) (by kernel_rfl) (fun _ _ _ h => h) (Or.inl ⟨by rfl, by intro w' hS'; obtain ⟨q1, q2, q3, q4⟩ := HSX.out w' hS'; go_simp <;> (first | omega | rfl | (rw [IntKind.wrap_i64]; omega))⟩) hSd ?_
    (try simp only [List.getElem_toArray, List.getElem_cons_succ, List.getElem_cons_zero, Act.put, List.setIfInBounds_toArray, List.set_cons_zero, List.set_cons_succ])
    have hd2 := cell_of_row _ _ 2 _ _ _ HDW.out.box
    refine held_two (i := 4) (k := 6) (by kernel_rfl) rfl rfl (by rfl) (by rfl) ?_ ?_
    · go_simp
      refine ⟨hSd, ?_⟩
      (try simp only [List.getElem_toArray, List.getElem_cons_succ, List.getElem_cons_zero, Act.put, List.setIfInBounds_toArray, List.set_cons_zero, List.set_cons_succ])
      refine held_stepS (i := 6) (by kernel_rfl) rfl (by rfl) ?_
      go_simp
      have hSa : S (X2.alloc (.cells #[.int .i64 m, .string a, .string q, .string d] 36)) := HSI.out _ ((Below.heap_alloc _ _ _ (Array.getElem?_eq_some_iff.1 HDX.out).1).trans HDX.out)
      refine ⟨hSa, ?_⟩
      (try simp only [List.getElem_toArray, List.getElem_cons_succ, List.getElem_cons_zero, Act.put, List.setIfInBounds_toArray, List.set_cons_zero, List.set_cons_succ])
      have HA := hidF (HDW.out.under ((Below.refl _ _).alloc (Nat.le_refl _) (.cells #[.int .i64 m, .string a, .string q, .string d] 36)))
      have HAX : Hid ((X2.alloc (.cells #[.int .i64 m, .string a, .string q, .string d] 36)).heap[bk]? = some (.cells #[.int .i64 m, .string a, .string q, .string d] 36 (0, 0))) := (Below.heap_alloc _ _ _ (Array.getElem?_eq_some_iff.1 HDX.out).1).trans HDX.out
      have hsz := (Array.getElem?_eq_some_iff.1 HDW.out.box).1
      have hbs := HDW.out.base
      refine held_stepS (i := 7) (by kernel_rfl) rfl (by rfl) ?_
      refine wp_append_own _ _ _ 25 rfl lo 36 i0 _ 4 56 Try.underlying25 hi0 hz0 hz1 hz2 rfl (by decide) vO O.length (dqC O) rfl HA.out.ops ⟨X2.heap.size, 0, none⟩ 1 1 [.int .i64 m, .string a, .string q, .string d] rfl rfl (cell_fourQ rfl) (four_dq _ _ _ _) (by unfold maxLen; omega) (by omega) (by rw [World.size_alloc]; omega) ?_
      intro v9 w9 hown9 hgrow9 _
      obtain ⟨gq, cq, hvq⟩ := ownQ_slice hown9
      subst hvq
      have hX9 : w9.heap[bk]? = some (.cells #[.int .i64 m, .string a, .string q, .string d] 36 (0, 0)) := (hgrow9.block bk (Array.getElem?_eq_some_iff.1 HAX.out).1 (fun c => (HNE.out.2 bk c.symm).1 rfl)).trans HAX.out
      have hW9 := WdW.grew HA.out hown9 hgrow9
      have hB9 : Below lo w w9 := (HDB.out.alloc (by have := HDB.out.size; have := HLO.out; omega) _).grown hgrow9 (by rw [World.size_alloc]; omega) (fun k hk => (HA.out.ops.lt k hk).1)
      have HW9 := hidF hW9
      have HB9 := hidF hB9
      have hS9 := HSI.out _ hX9
      refine ⟨hS9, ?_⟩
      (try simp only [List.getElem_toArray, List.getElem_cons_succ, List.getElem_cons_zero, Act.put, List.setIfInBounds_toArray, List.set_cons_zero, List.set_cons_succ])
      clear hown9 hgrow9 hW9 hB9 HAX HA
      refine wpAnyH_take (i := 8) (v := .pointer (some ⟨wd, 0, none⟩)) rfl (by kernel_rfl) (by kernel_rfl) (by kernel_rfl) (fun _ _ _ h => h) (Or.inl ⟨by rfl, by intro w' hS'; go_simp <;> (first | omega | rfl | (rw [IntKind.wrap_i64]; omega))⟩) hS9 ?_
      (try simp only [List.getElem_toArray, List.getElem_cons_succ, List.getElem_cons_zero, Act.put, List.setIfInBounds_toArray, List.set_cons_zero, List.set_cons_succ])
      refine wpAnyH_take (i := 9) (v := .pointer (some ⟨wd, 2, none⟩)) rfl (by kernel_rfl) (by kernel_rfl) (by kernel_rfl) (fun _ _ _ h => h) (Or.inl ⟨by rfl, by intro w' hS'; go_simp <;> (first | omega | rfl | (rw [IntKind.wrap_i64]; omega))⟩) hS9 ?_
      (try simp only [List.getElem_toArray, List.getElem_cons_succ, List.getElem_cons_zero, Act.put, List.setIfInBounds_toArray, List.set_cons_zero, List.set_cons_succ])
      have k9 := cell_of_row _ _ 2 _ _ _ HW9.out.1
      have z9 := frozen_of_row w9 wd 2 _ _ HW9.out.1
      have hX10 : (w9.setCell ⟨wd, 2, none⟩ (.slice gq (O.length + 1) cq)).heap[bk]? = some (.cells #[.int .i64 m, .string a, .string q, .string d] 36 (0, 0)) := (heap_setCell_other _ _ _ _ (fun c => HNE.out.1 c.symm)).trans hX9
      refine held_stepS (i := 10) (by kernel_rfl) rfl (by rfl) ?_
      go_simp
      refine ⟨HSI.out _ hX10, ?_⟩
      (try simp only [List.getElem_toArray, List.getElem_cons_succ, List.getElem_cons_zero, Act.put, List.setIfInBounds_toArray, List.set_cons_zero, List.set_cons_succ])
      refine wpAnyH_done (by kernel_rfl) ?_ _
      have HE : Hid (WdW (w9.setCell ⟨wd, 2, none⟩ (.slice gq (O.length + 1) cq)) lo wd p mb vS (.slice gq (O.length + 1) cq) M (O ++ [⟨m, a, q, d⟩])) := WdW.stored HW9.out
      have HEB : Hid (Below lo w (w9.setCell ⟨wd, 2, none⟩ (.slice gq (O.length + 1) cq))) := HB9.out.setCell (p := ⟨wd, 2, none⟩) hbs _
      clear hSa hS9 hX9 hX10 k9 z9 hSd HSX HSI HDW HDX HDB hd2 HW9 HB9
      generalize w9.setCell ⟨wd, 2, none⟩ (.slice gq (O.length + 1) cq) = w10 at HE HEB ⊢
      have HFT2 := hidF (HFT.out _ _ M _ HE.out)
      have c0 := cell_of_row _ _ 0 _ _ _ HE.out.box
      have c2 := cell_of_row _ _ 2 _ _ _ HE.out.box
      by_cases h200 : O.length + 1 ≤ 200
      · have h2I : ¬ (200 : Int) < ((O.length : Int) + 1) := by omega
        by_cases hfit : M.length ≤ 60 ∧ sumD M ≤ 200000
        · have HSR : Hid (stP L O.length ⟨m, a, q, d⟩ 0) := Or.inr (Or.inr (Or.inr ⟨HOP.out, ⟨M, HDF.out, h200, hfit⟩, rfl⟩))
          rw [decide_eq_true hfit] at HFT2
          clear h200 hfit
          go_wp2_with fail
          refine HFT2.out.mono ?_
          rintro e w11 ⟨rfl, hw11⟩
          subst w11
          go_wp2_with fail
          go_ret
          exact ⟨⟨0, rfl, HSR.out, fun _ => ⟨_, by rw [HG.out]; exact HE.out⟩⟩, HEB.out⟩
        · have HSR : Hid (stP L O.length ⟨m, a, q, d⟩ 4) := Or.inr (Or.inr (Or.inl ⟨HOP.out, ⟨M, HDF.out, fun k => hfit k.2⟩, rfl⟩))
          rw [decide_eq_false hfit] at HFT2
          clear h200 hfit
          go_wp2_with fail
          refine HFT2.out.mono ?_
          rintro e w11 ⟨rfl, hw11⟩
          subst w11
          go_wp2_with fail
          go_ret
          exact ⟨⟨4, rfl, HSR.out, fun h => absurd h (by omega)⟩, HEB.out⟩
      · have h2I : (200 : Int) < ((O.length : Int) + 1) := by omega
        have HSR : Hid (stP L O.length ⟨m, a, q, d⟩ 4) := Or.inr (Or.inr (Or.inl ⟨HOP.out, ⟨M, HDF.out, fun k => h200 k.1⟩, rfl⟩))
        clear h200
        go_wp2_with fail
        go_ret
        exact ⟨⟨4, rfl, HSR.out, fun h => absurd h (by omega)⟩, HEB.out⟩
    · go_simp
      have hSa : S (X2.alloc (.cells #[.int .i64 m, .string a, .string q, .string d] 36)) := HSI.out _ ((Below.heap_alloc _ _ _ (Array.getElem?_eq_some_iff.1 HDX.out).1).trans HDX.out)
      refine ⟨hSa, ?_⟩
      (try simp only [List.getElem_toArray, List.getElem_cons_succ, List.getElem_cons_zero, Act.put, List.setIfInBounds_toArray, List.set_cons_zero, List.set_cons_succ])
      have hd3 : (X2.alloc (.cells #[.int .i64 m, .string a, .string q, .string d] 36)).cell? ⟨wd, 2, none⟩ = some vO := cell_of_row _ _ 2 _ _ _ ((Below.heap_alloc _ _ _ (Array.getElem?_eq_some_iff.1 HDW.out.box).1).trans HDW.out.box)
      refine held_stepS (i := 4) (by kernel_rfl) rfl (by rfl) ?_
      go_simp
      refine ⟨hSa, ?_⟩
      (try simp only [List.getElem_toArray, List.getElem_cons_succ, List.getElem_cons_zero, Act.put, List.setIfInBounds_toArray, List.set_cons_zero, List.set_cons_succ])
      have HA := hidF (HDW.out.under ((Below.refl _ _).alloc (Nat.le_refl _) (.cells #[.int .i64 m, .string a, .string q, .string d] 36)))
      have HAX : Hid ((X2.alloc (.cells #[.int .i64 m, .string a, .string q, .string d] 36)).heap[bk]? = some (.cells #[.int .i64 m, .string a, .string q, .string d] 36 (0, 0))) := (Below.heap_alloc _ _ _ (Array.getElem?_eq_some_iff.1 HDX.out).1).trans HDX.out
      have hsz := (Array.getElem?_eq_some_iff.1 HDW.out.box).1
      have hbs := HDW.out.base
      refine held_stepS (i := 7) (by kernel_rfl) rfl (by rfl) ?_
      refine wp_append_own _ _ _ 25 rfl lo 36 i0 _ 4 56 Try.underlying25 hi0 hz0 hz1 hz2 rfl (by decide) vO O.length (dqC O) rfl HA.out.ops ⟨X2.heap.size, 0, none⟩ 1 1 [.int .i64 m, .string a, .string q, .string d] rfl rfl (cell_fourQ rfl) (four_dq _ _ _ _) (by unfold maxLen; omega) (by omega) (by rw [World.size_alloc]; omega) ?_
      intro v9 w9 hown9 hgrow9 _
      obtain ⟨gq, cq, hvq⟩ := ownQ_slice hown9
      subst hvq
      have hX9 : w9.heap[bk]? = some (.cells #[.int .i64 m, .string a, .string q, .string d] 36 (0, 0)) := (hgrow9.block bk (Array.getElem?_eq_some_iff.1 HAX.out).1 (fun c => (HNE.out.2 bk c.symm).1 rfl)).trans HAX.out
      have hW9 := WdW.grew HA.out hown9 hgrow9
      have hB9 : Below lo w w9 := (HDB.out.alloc (by have := HDB.out.size; have := HLO.out; omega) _).grown hgrow9 (by rw [World.size_alloc]; omega) (fun k hk => (HA.out.ops.lt k hk).1)
      have HW9 := hidF hW9
      have HB9 := hidF hB9
      have hS9 := HSI.out _ hX9
      refine ⟨hS9, ?_⟩
      (try simp only [List.getElem_toArray, List.getElem_cons_succ, List.getElem_cons_zero, Act.put, List.setIfInBounds_toArray, List.set_cons_zero, List.set_cons_succ])
      clear hown9 hgrow9 hW9 hB9 HAX HA
      refine wpAnyH_take (i := 8) (v := .pointer (some ⟨wd, 0, none⟩)) rfl (by kernel_rfl) (by kernel_rfl) (by kernel_rfl) (fun _ _ _ h => h) (Or.inl ⟨by rfl, by intro w' hS'; go_simp <;> (first | omega | rfl | (rw [IntKind.wrap_i64]; omega))⟩) hS9 ?_
      (try simp only [List.getElem_toArray, List.getElem_cons_succ, List.getElem_cons_zero, Act.put, List.setIfInBounds_toArray, List.set_cons_zero, List.set_cons_succ])
      refine wpAnyH_take (i := 9) (v := .pointer (some ⟨wd, 2, none⟩)) rfl (by kernel_rfl) (by kernel_rfl) (by kernel_rfl) (fun _ _ _ h => h) (Or.inl ⟨by rfl, by intro w' hS'; go_simp <;> (first | omega | rfl | (rw [IntKind.wrap_i64]; omega))⟩) hS9 ?_
      (try simp only [List.getElem_toArray, List.getElem_cons_succ, List.getElem_cons_zero, Act.put, List.setIfInBounds_toArray, List.set_cons_zero, List.set_cons_succ])
      have k9 := cell_of_row _ _ 2 _ _ _ HW9.out.1
      have z9 := frozen_of_row w9 wd 2 _ _ HW9.out.1
      have hX10 : (w9.setCell ⟨wd, 2, none⟩ (.slice gq (O.length + 1) cq)).heap[bk]? = some (.cells #[.int .i64 m, .string a, .string q, .string d] 36 (0, 0)) := (heap_setCell_other _ _ _ _ (fun c => HNE.out.1 c.symm)).trans hX9
      refine held_stepS (i := 10) (by kernel_rfl) rfl (by rfl) ?_
      go_simp
      refine ⟨HSI.out _ hX10, ?_⟩
      (try simp only [List.getElem_toArray, List.getElem_cons_succ, List.getElem_cons_zero, Act.put, List.setIfInBounds_toArray, List.set_cons_zero, List.set_cons_succ])
      refine wpAnyH_done (by kernel_rfl) ?_ _
      have HE : Hid (WdW (w9.setCell ⟨wd, 2, none⟩ (.slice gq (O.length + 1) cq)) lo wd p mb vS (.slice gq (O.length + 1) cq) M (O ++ [⟨m, a, q, d⟩])) := WdW.stored HW9.out
      have HEB : Hid (Below lo w (w9.setCell ⟨wd, 2, none⟩ (.slice gq (O.length + 1) cq))) := HB9.out.setCell (p := ⟨wd, 2, none⟩) hbs _
      clear hSa hS9 hX9 hX10 k9 z9 hSd HSX HSI HDW HDX HDB hd2 HW9 HB9
      generalize w9.setCell ⟨wd, 2, none⟩ (.slice gq (O.length + 1) cq) = w10 at HE HEB ⊢
      have HFT2 := hidF (HFT.out _ _ M _ HE.out)
      have c0 := cell_of_row _ _ 0 _ _ _ HE.out.box
      have c2 := cell_of_row _ _ 2 _ _ _ HE.out.box
      by_cases h200 : O.length + 1 ≤ 200
      · have h2I : ¬ (200 : Int) < ((O.length : Int) + 1) := by omega
        by_cases hfit : M.length ≤ 60 ∧ sumD M ≤ 200000
        · have HSR : Hid (stP L O.length ⟨m, a, q, d⟩ 0) := Or.inr (Or.inr (Or.inr ⟨HOP.out, ⟨M, HDF.out, h200, hfit⟩, rfl⟩))
          rw [decide_eq_true hfit] at HFT2
          clear h200 hfit
          go_wp2_with fail
          refine HFT2.out.mono ?_
          rintro e w11 ⟨rfl, hw11⟩
          subst w11
          go_wp2_with fail
          go_ret
          exact ⟨⟨0, rfl, HSR.out, fun _ => ⟨_, by rw [HG.out]; exact HE.out⟩⟩, HEB.out⟩
        · have HSR : Hid (stP L O.length ⟨m, a, q, d⟩ 4) := Or.inr (Or.inr (Or.inl ⟨HOP.out, ⟨M, HDF.out, fun k => hfit k.2⟩, rfl⟩))
          rw [decide_eq_false hfit] at HFT2
          clear h200 hfit
          go_wp2_with fail
          refine HFT2.out.mono ?_
          rintro e w11 ⟨rfl, hw11⟩
          subst w11
          go_wp2_with fail
          go_ret
          exact ⟨⟨4, rfl, HSR.out, fun h => absurd h (by omega)⟩, HEB.out⟩
      · have h2I : (200 : Int) < ((O.length : Int) + 1) := by omega
        have HSR : Hid (stP L O.length ⟨m, a, q, d⟩ 4) := Or.inr (Or.inr (Or.inl ⟨HOP.out, ⟨M, HDF.out, fun k => h200 k.1⟩, rfl⟩))
        clear h200
        go_wp2_with fail
        go_ret
        exact ⟨⟨4, rfl, HSR.out, fun h => absurd h (by omega)⟩, HEB.out⟩
end Go.Proofs.Ytanlggglbpibfaa
