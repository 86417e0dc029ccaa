/-
  Several texts of this seat as one: DoP, DoS, DoT, DoI, DoJ.
-/
import Derived.Test.YtanlggglbpibfaaFsT
import Derived.Test.YtanlggglbpibfaaDkA1

/-!   Ops done one by one on a right disk: what comes of them. -/
namespace Go.Proofs.Ytanlggglbpibfaa
open Go.RowKit
set_option linter.unusedVariables false
set_option linter.unusedSimpArgs false
/-- the code of one op at files L, with n ops before it -/
def codeF (L : List FlI) (n : Nat) (o : DqI) : Int := if opP o then (match doF L o with
    | none => 3
    | some M => if n + 1 ≤ 200 ∧ M.length ≤ 60 ∧ sumD M ≤ 200000 then 0 else 4)
  else 2
theorem stP_code {L : List FlI} {n : Nat} {o : DqI} {c : Int} (h : stP L n o c) : c = codeF L n o := by
  unfold codeF
  rcases h with ⟨h, rfl⟩ | ⟨h1, h2, rfl⟩ | ⟨h1, ⟨M, h2, h3⟩, rfl⟩ | ⟨h1, ⟨M, h2, h3⟩, rfl⟩
  · rw [if_neg h]
  · rw [if_pos h1, h2]
  · rw [if_pos h1, h2]; exact (if_neg h3).symm
  · rw [if_pos h1, h2]; exact (if_pos h3).symm
theorem stP_of (L : List FlI) (n : Nat) (o : DqI) : stP L n o (codeF L n o) := by
  unfold codeF
  by_cases h1 : opP o
  · rw [if_pos h1]
    cases h2 : doF L o with
    | none => exact Or.inr (Or.inl ⟨h1, h2, rfl⟩)
    | some M =>
      by_cases h3 : n + 1 ≤ 200 ∧ M.length ≤ 60 ∧ sumD M ≤ 200000
      · exact Or.inr (Or.inr (Or.inr ⟨h1, ⟨M, h2, h3⟩, if_pos h3⟩))
      · exact Or.inr (Or.inr (Or.inl ⟨h1, ⟨M, h2, h3⟩, if_neg h3⟩))
  · rw [if_neg h1]; exact Or.inl ⟨h1, rfl⟩
theorem codeF_go {M : List FlI} {n : Nat} {o : DqI} (hM : filesP M) (h : codeF M n o = 0) : n + 1 ≤ 200 ∧ stepF M o = some (doG M o) := stP_go hM (stP_of M n o) h
theorem disk_next {L S : List FlI} {O : List DqI} {o : DqI} (h : diskP L S O) (hc : codeF L O.length o = 0) : diskP (doG L o) S (O ++ [o]) := by
  have k := codeF_go h.live hc
  exact ⟨h.safe, by rw [List.length_append]; exact k.1, by rw [runF_snoc h.run]; exact k.2⟩
/-- the files and the ops behind one op -/
def actL (L : List FlI) (n : Nat) (o : DqI) : List FlI := if codeF L n o = 0 then doG L o else L
def actO (L : List FlI) (O : List DqI) (o : DqI) : List DqI := if codeF L O.length o = 0 then O ++ [o] else O
/-- ops one by one, up to the first that is refused -/
def actsF : List FlI → List DqI → List DqI → Int × List FlI × List DqI
  | L, O, [] => (0, L, O)
  | L, O, o :: P => if codeF L O.length o = 0 then actsF (doG L o) (O ++ [o]) P else (codeF L O.length o, L, O)
theorem acts_go {L : List FlI} {O P : List DqI} {o : DqI} (h : codeF L O.length o = 0) : actsF L O (o :: P) = actsF (doG L o) (O ++ [o]) P := by
  show (if codeF L O.length o = 0 then _ else _) = _
  rw [if_pos h]
theorem acts_no {L : List FlI} {O P : List DqI} {o : DqI} (h : codeF L O.length o ≠ 0) : actsF L O (o :: P) = (codeF L O.length o, L, O) := by
  show (if codeF L O.length o = 0 then _ else _) = _
  rw [if_neg h]
theorem acts_disk {S : List FlI} : ∀ {P O : List DqI} {L : List FlI}, diskP L S O → diskP (actsF L O P).2.1 S (actsF L O P).2.2
  | [], O, L, h => h
  | o :: P, O, L, h => by
    by_cases hc : codeF L O.length o = 0
    · rw [acts_go hc]; exact acts_disk (disk_next h hc)
    · rw [acts_no hc]; exact h
/-- a disk and a code -/
structure DkA where
  l : List FlI
  s : List FlI
  o : List DqI
  c : Int
noncomputable def doA (L S : List FlI) (O P : List DqI) : DkA := open Classical in if diskP L S O then (if (actsF L O P).1 = 0 then ⟨(actsF L O P).2.1, S, (actsF L O P).2.2, 0⟩ else ⟨L, S, O, (actsF L O P).1⟩) else ⟨[], [], [], 1⟩
theorem doA_bad {L S : List FlI} {O P : List DqI} (h : ¬ diskP L S O) : doA L S O P = ⟨[], [], [], 1⟩ := by unfold doA; rw [if_neg h]
theorem doA_yes {L S : List FlI} {O P : List DqI} (h : diskP L S O) (h0 : (actsF L O P).1 = 0) : doA L S O P = ⟨(actsF L O P).2.1, S, (actsF L O P).2.2, 0⟩ := by unfold doA; rw [if_pos h, if_pos h0]
theorem doA_no {L S : List FlI} {O P : List DqI} (h : diskP L S O) (h0 : (actsF L O P).1 ≠ 0) : doA L S O P = ⟨L, S, O, (actsF L O P).1⟩ := by unfold doA; rw [if_pos h, if_neg h0]
theorem doA_few (L S : List FlI) (O P : List DqI) : (doA L S O P).l.length ≤ 60 ∧ (doA L S O P).s.length ≤ 60 ∧ (doA L S O P).o.length ≤ 200 := by
  by_cases h : diskP L S O
  · by_cases h0 : (actsF L O P).1 = 0
    · rw [doA_yes h h0]; have k := acts_disk (P := P) h; exact ⟨k.live.len, k.safe.len, k.few⟩
    · rw [doA_no h h0]; exact ⟨h.live.len, h.safe.len, h.few⟩
  · rw [doA_bad h]; exact ⟨by simp, by simp, by simp⟩
theorem run_ops {L S : List FlI} {O : List DqI} (h : runF S O = some L) : ∀ o ∈ O, opP o := by
  induction O generalizing S with
  | nil => intro o ho; cases ho
  | cons x O ih =>
    unfold runF at h
    split at h
    · cases h
    · rename_i M e
      intro o ho
      rcases List.mem_cons.1 ho with rfl | ho
      · unfold stepF at e
        split at e
        · assumption
        · cases e
      · exact ih h o ho
end Go.Proofs.Ytanlggglbpibfaa

/-!   One op at a right disk: the specification's way. -/
namespace Go.Proofs.Ytanlggglbpibfaa
open Go.RowKit
set_option linter.unusedVariables false
set_option linter.unusedSimpArgs false
theorem results_cell_t {P : Program} {fn : Func} {t p : Tmp} {ty : TypeId} (h : fn.results = #[.cell p ty, .tmp t]) (tmps : Array Value) (w : World) (g : Nat) (t2 : TypeId) (cs : Array Value) (fr : Nat × Nat) (d : TypeDesc)
    (hp : tmps.getD p undef = .pointer (some ⟨g, 0, none⟩)) (hg : w.heap[g]? = some (.cells cs t2 fr))
    (hu : P.underlying ty = some d) (hd : (match d with | .struct _ | .array _ _ => true | _ => false) = true) (hi : (P.info? ty).map (·.size) = some cs.size) :
    (results fn tmps).run P w = .ok (.tuple #[.agg cs, tmps.getD t undef]) w := by
  have hp' : tmps[p]?.getD undef = .pointer (some ⟨g, 0, none⟩) := by simpa using hp
  simp [results, h, hp', asAddr, run_loadVar_row w g t2 ty cs fr d hg hu hd hi]
/-- what one op makes of a right disk -/
def ActAns (L S : List FlI) (O : List DqI) (o : DqI) (e : Ending) (w' : World) : Prop := ∃ x y z, e = .returned (.tuple #[.agg #[x, y, z], .int .i64 (codeF L O.length o)]) ∧ FlV w' x (actL L O.length o) ∧ FlV w' y S ∧ DqV w' z (actO L O o)
set_option maxRecDepth 100000 in
set_option maxHeartbeats 4000000 in
theorem sact_any (vL vS vO : Value) (L S : List FlI) (O : List DqI) (m : Int) (a q d : ByteArray) (w : World) (hD : diskP L S O) (hO : DqLe O) (ha : a.size ≤ 1100000) (hq : q.size ≤ 1100000) (hd : d.size ≤ 1100000) (h1 : FlV w vL L) (h2 : FlV w vS S) (h3 : DqV w vO O) :
    Calls Try.prog 59 #[.agg #[vL, vS, vO], dqV m a q d] w fun e w' => ActAns L S O ⟨m, a, q, d⟩ e w' ∧ Below w.heap.size w w' := by
  obtain ⟨al, cl, rfl⟩ := h1.slice
  obtain ⟨a2, cs, rfl⟩ := h2.slice
  obtain ⟨ao, co, rfl⟩ := h3.slice
  have HCP : Hid (∀ w', Below w.heap.size w w' → Calls Try.prog 65 #[.agg #[.slice al L.length cl, .slice a2 S.length cs, .slice ao O.length co]] w' fun e w'' => (∃ a b c, e = .returned (.agg #[a, b, c]) ∧ FlT w'' a L ∧ FlT w'' b S ∧ w''.ownsRow w'.heap.size 36 4 c O.length (dqC O)) ∧ Below w'.heap.size w' w'') := fun w' hb => scopy15_any _ _ _ L S O w' hD.live.le hD.safe.le hO (h1.below hb) (h2.below hb) (h3.below hb)
  have HDO : Hid (∀ w', Below w.heap.size w w' → Calls Try.prog 43 #[.slice al L.length cl, .agg #[.int .i64 m, .string a, .string q, .string d]] w' (DoAns w' L ⟨m, a, q, d⟩)) := fun w' hb => sdo15_any _ L m a q d w' hD.live.le hD.live.rise (fun f hf => by have := sumD_mem hf; have := hD.live.sum; omega) (by omega) (h1.below hb)
  have HFO : Hid (∀ (w : World), Calls Try.prog 44 #[.agg #[.int .i64 m, .string a, .string q, .string d]] w fun e w' => e = .returned (.bool (decide (opP ⟨m, a, q, d⟩))) ∧ Below w.heap.size w w') := fun w => sform_any m a q d w
  have HFM : Hid (∀ (M : List FlI) u w', FlLe M → FlV w' u M → Calls Try.prog 42 #[u] w' fun e w'' => e = .returned (.bool (flB M)) ∧ Below w'.heap.size w' w'') := fun M u w' hM hu => sfiles_any u M w' hM hu.arg
  have HON : Hid (O.length ≤ 200) := hD.few
  have HLI : Hid (filesP L) := hD.live
  have HLE : Hid (∀ M, doF L ⟨m, a, q, d⟩ = some M → FlLe M) := fun M hM => doF_le (o := ⟨m, a, q, d⟩) (fun f hf => ⟨by have := (hD.live.nm f hf).2; omega, by have := sumD_mem hf; have := hD.live.sum; show f.d.size + d.size ≤ _; omega⟩) (by have := hD.live.len; omega) (by show a.size ≤ _; omega) (by show q.size ≤ _; omega) (by show d.size ≤ _; omega) hM
  have HSAME : Hid (∀ {c : Int} {W : World} {x y z : Value}, codeF L O.length ⟨m, a, q, d⟩ = c → FlV W x L ∧ FlV W y S ∧ W.ownsRow w.heap.size 36 4 z O.length (dqC O) → c ≠ 0 → FlV W x (actL L O.length ⟨m, a, q, d⟩) ∧ FlV W y S ∧ DqV W z (actO L O ⟨m, a, q, d⟩)) := fun {c W x y z} hc h h0 => by
    have h0 : codeF L O.length ⟨m, a, q, d⟩ ≠ 0 := by rw [hc]; exact h0
    unfold actL actO
    rw [if_neg h0, if_neg h0]
    exact ⟨h.1, h.2.1, DqV.of_own h.2.2⟩
  have HX1 : Hid ((((w.alloc (.cells #[.slice al L.length cl, .slice a2 S.length cs, .slice ao O.length co] 27)).alloc (.cells #[.int .i64 m, .string a, .string q, .string d] 36)).alloc (.cells #[.slice none 0 0, .slice none 0 0, .slice none 0 0] 27)).heap[w.heap.size]? = some (.cells #[.slice al L.length cl, .slice a2 S.length cs, .slice ao O.length co] 27 (0, 0)) ∧ (((w.alloc (.cells #[.slice al L.length cl, .slice a2 S.length cs, .slice ao O.length co] 27)).alloc (.cells #[.int .i64 m, .string a, .string q, .string d] 36)).alloc (.cells #[.slice none 0 0, .slice none 0 0, .slice none 0 0] 27)).heap[w.heap.size + 1]? = some (.cells #[.int .i64 m, .string a, .string q, .string d] 36 (0, 0)) ∧ (((w.alloc (.cells #[.slice al L.length cl, .slice a2 S.length cs, .slice ao O.length co] 27)).alloc (.cells #[.int .i64 m, .string a, .string q, .string d] 36)).alloc (.cells #[.slice none 0 0, .slice none 0 0, .slice none 0 0] 27)).heap[w.heap.size + 2]? = some (.cells #[.slice none 0 0, .slice none 0 0, .slice none 0 0] 27 (0, 0))) := by
    have s1 : (w.alloc (.cells #[.slice al L.length cl, .slice a2 S.length cs, .slice ao O.length co] 27)).heap.size = w.heap.size + 1 := World.size_alloc _ _
    have s2 : ((w.alloc (.cells #[.slice al L.length cl, .slice a2 S.length cs, .slice ao O.length co] 27)).alloc (.cells #[.int .i64 m, .string a, .string q, .string d] 36)).heap.size = w.heap.size + 2 := by rw [World.size_alloc, s1]
    refine ⟨?_, ?_, ?_⟩
    · rw [Below.heap_alloc _ _ _ (by omega), Below.heap_alloc _ _ _ (by omega), heap_alloc_new]
    · rw [Below.heap_alloc _ _ _ (by omega)]
      have := heap_alloc_new (w.alloc (.cells #[.slice al L.length cl, .slice a2 S.length cs, .slice ao O.length co] 27)) (.cells #[.int .i64 m, .string a, .string q, .string d] 36)
      rw [s1] at this
      exact this
    · have := heap_alloc_new ((w.alloc (.cells #[.slice al L.length cl, .slice a2 S.length cs, .slice ao O.length co] 27)).alloc (.cells #[.int .i64 m, .string a, .string q, .string d] 36)) (.cells #[.slice none 0 0, .slice none 0 0, .slice none 0 0] 27)
      rw [s2] at this
      exact this
  have HB1 : Hid (Below w.heap.size w (((w.alloc (.cells #[.slice al L.length cl, .slice a2 S.length cs, .slice ao O.length co] 27)).alloc (.cells #[.int .i64 m, .string a, .string q, .string d] 36)).alloc (.cells #[.slice none 0 0, .slice none 0 0, .slice none 0 0] 27))) := (((Below.refl _ _).alloc (Nat.le_refl _) _).alloc (by simp) _).alloc (by simp; omega) _
  unfold dqV
  clear hD hO ha hq hd h1 h2 h3
  go_enter Try.func59, Try.ntmps59
  go_wp2_with fail
  have hfo := HFO.out (((w.alloc (.cells #[.slice al L.length cl, .slice a2 S.length cs, .slice ao O.length co] 27)).alloc (.cells #[.int .i64 m, .string a, .string q, .string d] 36)).alloc (.cells #[.slice none 0 0, .slice none 0 0, .slice none 0 0] 27))
  generalize ((w.alloc (.cells #[.slice al L.length cl, .slice a2 S.length cs, .slice ao O.length co] 27)).alloc (.cells #[.int .i64 m, .string a, .string q, .string d] 36)).alloc (.cells #[.slice none 0 0, .slice none 0 0, .slice none 0 0] 27) = w1 at HB1 HX1 hfo ⊢
  obtain ⟨bk, hbk⟩ : ∃ bk, bk = w.heap.size := ⟨_, rfl⟩
  obtain ⟨ok, hok⟩ : ∃ ok, ok = w.heap.size + 1 := ⟨_, rfl⟩
  obtain ⟨rk, hrk⟩ : ∃ rk, rk = w.heap.size + 2 := ⟨_, rfl⟩
  have HBK : Hid (bk = w.heap.size ∧ ok = w.heap.size + 1 ∧ rk = w.heap.size + 2) := ⟨hbk, hok, hrk⟩
  have HRK : Hid (w.heap.size ≤ rk) := by show _ ≤ _; omega
  rw [← hrk, ← hok, ← hbk] at HX1 ⊢
  clear hbk hok hrk
  refine hfo.mono ?_
  rintro e w2 ⟨rfl, hb2⟩
  have HX2 : Hid (w2.heap[bk]? = some (.cells #[.slice al L.length cl, .slice a2 S.length cs, .slice ao O.length co] 27 (0, 0)) ∧ w2.heap[ok]? = some (.cells #[.int .i64 m, .string a, .string q, .string d] 36 (0, 0)) ∧ w2.heap[rk]? = some (.cells #[.slice none 0 0, .slice none 0 0, .slice none 0 0] 27 (0, 0))) := ⟨(hb2.block _ (Array.getElem?_eq_some_iff.1 HX1.out.1).1).trans HX1.out.1, (hb2.block _ (Array.getElem?_eq_some_iff.1 HX1.out.2.1).1).trans HX1.out.2.1, (hb2.block _ (Array.getElem?_eq_some_iff.1 HX1.out.2.2).1).trans HX1.out.2.2⟩
  have HB2 := hidF (blFl HB1.out hb2 HB1.out.size)
  clear hb2 HX1 HB1 hfo HFO
  by_cases hop : opP ⟨m, a, q, d⟩
  rotate_left
  · have HCD : Hid (codeF L O.length ⟨m, a, q, d⟩ = 2) := by show codeF _ _ _ = _; unfold codeF; rw [if_neg hop]
    rw [decide_eq_false hop]
    have c0 := cell_of_row _ _ 0 _ _ _ HX2.out.1
    have c1 := cell_of_row _ _ 1 _ _ _ HX2.out.1
    have c2 := cell_of_row _ _ 2 _ _ _ HX2.out.1
    clear hop
    go_wp2_with fail
    refine (HCP.out _ HB2.out).mono ?_
    rintro e w3 ⟨⟨u1, u2, u3, rfl, t1, t2, t3⟩, hb3⟩
    obtain ⟨x1, y1, rfl⟩ := t1.slice
    obtain ⟨x2, y2, rfl⟩ := t2.slice
    obtain ⟨x3, y3, rfl⟩ := ownQ_slice t3
    have HX3 : Hid (w3.heap[bk]? = some (.cells #[.slice al L.length cl, .slice a2 S.length cs, .slice ao O.length co] 27 (0, 0)) ∧ w3.heap[ok]? = some (.cells #[.int .i64 m, .string a, .string q, .string d] 36 (0, 0)) ∧ w3.heap[rk]? = some (.cells #[.slice none 0 0, .slice none 0 0, .slice none 0 0] 27 (0, 0))) := ⟨(hb3.block _ (Array.getElem?_eq_some_iff.1 HX2.out.1).1).trans HX2.out.1, (hb3.block _ (Array.getElem?_eq_some_iff.1 HX2.out.2.1).1).trans HX2.out.2.1, (hb3.block _ (Array.getElem?_eq_some_iff.1 HX2.out.2.2).1).trans HX2.out.2.2⟩
    have HB3 := hidF (blFl HB2.out hb3 HB2.out.size)
    have hz4 := HX3.out.2.2
    have hb7 := HB3.out
    have HB9 : Hid (Below w.heap.size w (set3b w3 rk (.slice x1 L.length y1) (.slice x2 S.length y2) (.slice x3 O.length y3))) := ((hb7.setCell (p := ⟨rk, 0, none⟩) HRK.out _).setCell (p := ⟨rk, 1, none⟩) HRK.out _).setCell (p := ⟨rk, 2, none⟩) HRK.out _
    have HR9 : Hid ((set3b w3 rk (.slice x1 L.length y1) (.slice x2 S.length y2) (.slice x3 O.length y3)).heap[rk]? = some (.cells #[.slice x1 L.length y1, .slice x2 S.length y2, .slice x3 O.length y3] 27 (0, 0))) := heap_setCell_same _ _ _ _ _ _ (heap_setCell_same _ _ _ _ _ _ (heap_setCell_same _ _ _ _ _ _ hz4))
    have HO9 : Hid (FlV (set3b w3 rk (.slice x1 L.length y1) (.slice x2 S.length y2) (.slice x3 O.length y3)) (.slice x1 L.length y1) L ∧ FlV (set3b w3 rk (.slice x1 L.length y1) (.slice x2 S.length y2) (.slice x3 O.length y3)) (.slice x2 S.length y2) S ∧ (set3b w3 rk (.slice x1 L.length y1) (.slice x2 S.length y2) (.slice x3 O.length y3)).ownsRow w.heap.size 36 4 (.slice x3 O.length y3) O.length (dqC O)) := ⟨(t1.set3b hz4).1, (t2.set3b hz4).1, own_set3b (ownF_base t3 HB2.out.size) hz4 (by decide)⟩
    have z0 := cell_of_row _ _ 0 _ _ _ hz4
    have z1 := cell_of_row _ _ 1 _ _ _ hz4
    have z2 := cell_of_row _ _ 2 _ _ _ hz4
    have f0 := frozen_of_row _ _ 0 _ _ hz4
    have f1 := frozen_of_row _ _ 1 _ _ hz4
    have f2 := frozen_of_row _ _ 2 _ _ hz4
    clear c0 c1 c2 t1 t2 t3 hz4 hb7 hb3
    go_wp2_with fail
    exact bodyPost_ret (results_cell_t rfl _ _ rk 27 #[.slice x1 L.length y1, .slice x2 S.length y2, .slice x3 O.length y3] (0, 0) _ rfl HR9.out Try.underlying27 rfl (by kernel_rfl)) rfl ⟨⟨_, _, _, by rw [HCD.out]; rfl, HSAME.out HCD.out HO9.out (by decide)⟩, HB9.out⟩
  rw [decide_eq_true hop]
  have c0 := cell_of_row _ _ 0 _ _ _ HX2.out.1
  have c1 := cell_of_row _ _ 1 _ _ _ HX2.out.1
  have c2 := cell_of_row _ _ 2 _ _ _ HX2.out.1
  have o0 := cell_of_row _ _ 0 _ _ _ HX2.out.2.1
  have o1 := cell_of_row _ _ 1 _ _ _ HX2.out.2.1
  have o2 := cell_of_row _ _ 2 _ _ _ HX2.out.2.1
  have o3 := cell_of_row _ _ 3 _ _ _ HX2.out.2.1
  go_wp2_with fail
  refine (HDO.out _ HB2.out).mono ?_
  rintro e w3 ⟨v3, M, b3, rfl, hf3, hdo⟩
  have hb3 := hf3.bel
  have HX3 : Hid (w3.heap[bk]? = some (.cells #[.slice al L.length cl, .slice a2 S.length cs, .slice ao O.length co] 27 (0, 0)) ∧ w3.heap[ok]? = some (.cells #[.int .i64 m, .string a, .string q, .string d] 36 (0, 0)) ∧ w3.heap[rk]? = some (.cells #[.slice none 0 0, .slice none 0 0, .slice none 0 0] 27 (0, 0))) := ⟨(hb3.block _ (Array.getElem?_eq_some_iff.1 HX2.out.1).1).trans HX2.out.1, (hb3.block _ (Array.getElem?_eq_some_iff.1 HX2.out.2.1).1).trans HX2.out.2.1, (hb3.block _ (Array.getElem?_eq_some_iff.1 HX2.out.2.2).1).trans HX2.out.2.2⟩
  have HB3 := hidF (blFl HB2.out hb3 HB2.out.size)
  have HF3 : Hid (FlT w3 v3 M) := FlT.of_own hf3.own
  clear hb3 hf3 c0 c1 c2 o0 o1 o2 o3
  rcases hdo with ⟨rfl, hdo⟩ | ⟨rfl, hdo, hml⟩
  rotate_left
  · have HCD : Hid (codeF L O.length ⟨m, a, q, d⟩ = 3) := by show codeF _ _ _ = _; unfold codeF; rw [if_pos hop, hdo]
    have c0 := cell_of_row _ _ 0 _ _ _ HX3.out.1
    have c1 := cell_of_row _ _ 1 _ _ _ HX3.out.1
    have c2 := cell_of_row _ _ 2 _ _ _ HX3.out.1
    clear hop hdo hml HF3
    go_wp2_with fail
    refine (HCP.out _ HB3.out).mono ?_
    rintro e w4 ⟨⟨u1, u2, u3, rfl, t1, t2, t3⟩, hb4⟩
    obtain ⟨x1, y1, rfl⟩ := t1.slice
    obtain ⟨x2, y2, rfl⟩ := t2.slice
    obtain ⟨x3, y3, rfl⟩ := ownQ_slice t3
    have HX4 : Hid (w4.heap[bk]? = some (.cells #[.slice al L.length cl, .slice a2 S.length cs, .slice ao O.length co] 27 (0, 0)) ∧ w4.heap[ok]? = some (.cells #[.int .i64 m, .string a, .string q, .string d] 36 (0, 0)) ∧ w4.heap[rk]? = some (.cells #[.slice none 0 0, .slice none 0 0, .slice none 0 0] 27 (0, 0))) := ⟨(hb4.block _ (Array.getElem?_eq_some_iff.1 HX3.out.1).1).trans HX3.out.1, (hb4.block _ (Array.getElem?_eq_some_iff.1 HX3.out.2.1).1).trans HX3.out.2.1, (hb4.block _ (Array.getElem?_eq_some_iff.1 HX3.out.2.2).1).trans HX3.out.2.2⟩
    have HB4 := hidF (blFl HB3.out hb4 HB3.out.size)
    have hz4 := HX4.out.2.2
    have hb7 := HB4.out
    have HB9 : Hid (Below w.heap.size w (set3b w4 rk (.slice x1 L.length y1) (.slice x2 S.length y2) (.slice x3 O.length y3))) := ((hb7.setCell (p := ⟨rk, 0, none⟩) HRK.out _).setCell (p := ⟨rk, 1, none⟩) HRK.out _).setCell (p := ⟨rk, 2, none⟩) HRK.out _
    have HR9 : Hid ((set3b w4 rk (.slice x1 L.length y1) (.slice x2 S.length y2) (.slice x3 O.length y3)).heap[rk]? = some (.cells #[.slice x1 L.length y1, .slice x2 S.length y2, .slice x3 O.length y3] 27 (0, 0))) := heap_setCell_same _ _ _ _ _ _ (heap_setCell_same _ _ _ _ _ _ (heap_setCell_same _ _ _ _ _ _ hz4))
    have HO9 : Hid (FlV (set3b w4 rk (.slice x1 L.length y1) (.slice x2 S.length y2) (.slice x3 O.length y3)) (.slice x1 L.length y1) L ∧ FlV (set3b w4 rk (.slice x1 L.length y1) (.slice x2 S.length y2) (.slice x3 O.length y3)) (.slice x2 S.length y2) S ∧ (set3b w4 rk (.slice x1 L.length y1) (.slice x2 S.length y2) (.slice x3 O.length y3)).ownsRow w.heap.size 36 4 (.slice x3 O.length y3) O.length (dqC O)) := ⟨(t1.set3b hz4).1, (t2.set3b hz4).1, own_set3b (ownF_base t3 HB3.out.size) hz4 (by decide)⟩
    have z0 := cell_of_row _ _ 0 _ _ _ hz4
    have z1 := cell_of_row _ _ 1 _ _ _ hz4
    have z2 := cell_of_row _ _ 2 _ _ _ hz4
    have f0 := frozen_of_row _ _ 0 _ _ hz4
    have f1 := frozen_of_row _ _ 1 _ _ hz4
    have f2 := frozen_of_row _ _ 2 _ _ hz4
    clear c0 c1 c2 t1 t2 t3 hz4 hb7 hb4
    go_wp2_with fail
    exact bodyPost_ret (results_cell_t rfl _ _ rk 27 #[.slice x1 L.length y1, .slice x2 S.length y2, .slice x3 O.length y3] (0, 0) _ rfl HR9.out Try.underlying27 rfl (by kernel_rfl)) rfl ⟨⟨_, _, _, by rw [HCD.out]; rfl, HSAME.out HCD.out HO9.out (by decide)⟩, HB9.out⟩
  have HML : Hid (FlLe M) := HLE.out M hdo
  have HMF : Hid (filesP M ↔ M.length ≤ 60 ∧ sumD M ≤ 200000) := ⟨fun k => ⟨k.len, k.sum⟩, fun k => ⟨k.1, doF_nm HLI.out.nm hop hdo, doF_rise HLI.out.rise hdo, k.2⟩⟩
  have HCC : Hid (codeF L O.length ⟨m, a, q, d⟩ = if O.length + 1 ≤ 200 ∧ M.length ≤ 60 ∧ sumD M ≤ 200000 then 0 else 4) := by show codeF _ _ _ = _; unfold codeF; rw [if_pos hop, hdo]
  have HGG : Hid (doG L ⟨m, a, q, d⟩ = M) := by show doG _ _ = _; unfold doG; rw [hdo]; rfl
  obtain ⟨p3, k3, rfl⟩ := HF3.out.slice
  clear hop hdo
  have c2 := cell_of_row _ _ 2 _ _ _ HX3.out.1
  by_cases hfu : O.length = 200
  · have HCD : Hid (codeF L O.length ⟨m, a, q, d⟩ = 4) := by show codeF _ _ _ = _; rw [HCC.out, if_neg (by omega)]
    have e1 : ((O.length : Int) == 200) = true := by rw [hfu]; rfl
    have e2 : decide ((O.length : Int) = 200) = true := decide_eq_true (by omega)
    have e3 : (O.length : Int) = 200 := by omega
    clear hfu
    have c0 := cell_of_row _ _ 0 _ _ _ HX3.out.1
    have c1 := cell_of_row _ _ 1 _ _ _ HX3.out.1
    have c2 := cell_of_row _ _ 2 _ _ _ HX3.out.1
    clear HML
    go_wp2_with fail
    refine (HCP.out _ HB3.out).mono ?_
    rintro e w4 ⟨⟨u1, u2, u3, rfl, t1, t2, t3⟩, hb4⟩
    obtain ⟨x1, y1, rfl⟩ := t1.slice
    obtain ⟨x2, y2, rfl⟩ := t2.slice
    obtain ⟨x3, y3, rfl⟩ := ownQ_slice t3
    have HX4 : Hid (w4.heap[bk]? = some (.cells #[.slice al L.length cl, .slice a2 S.length cs, .slice ao O.length co] 27 (0, 0)) ∧ w4.heap[ok]? = some (.cells #[.int .i64 m, .string a, .string q, .string d] 36 (0, 0)) ∧ w4.heap[rk]? = some (.cells #[.slice none 0 0, .slice none 0 0, .slice none 0 0] 27 (0, 0))) := ⟨(hb4.block _ (Array.getElem?_eq_some_iff.1 HX3.out.1).1).trans HX3.out.1, (hb4.block _ (Array.getElem?_eq_some_iff.1 HX3.out.2.1).1).trans HX3.out.2.1, (hb4.block _ (Array.getElem?_eq_some_iff.1 HX3.out.2.2).1).trans HX3.out.2.2⟩
    have HB4 := hidF (blFl HB3.out hb4 HB3.out.size)
    have hz4 := HX4.out.2.2
    have hb7 := HB4.out
    have HB9 : Hid (Below w.heap.size w (set3b w4 rk (.slice x1 L.length y1) (.slice x2 S.length y2) (.slice x3 O.length y3))) := ((hb7.setCell (p := ⟨rk, 0, none⟩) HRK.out _).setCell (p := ⟨rk, 1, none⟩) HRK.out _).setCell (p := ⟨rk, 2, none⟩) HRK.out _
    have HR9 : Hid ((set3b w4 rk (.slice x1 L.length y1) (.slice x2 S.length y2) (.slice x3 O.length y3)).heap[rk]? = some (.cells #[.slice x1 L.length y1, .slice x2 S.length y2, .slice x3 O.length y3] 27 (0, 0))) := heap_setCell_same _ _ _ _ _ _ (heap_setCell_same _ _ _ _ _ _ (heap_setCell_same _ _ _ _ _ _ hz4))
    have HO9 : Hid (FlV (set3b w4 rk (.slice x1 L.length y1) (.slice x2 S.length y2) (.slice x3 O.length y3)) (.slice x1 L.length y1) L ∧ FlV (set3b w4 rk (.slice x1 L.length y1) (.slice x2 S.length y2) (.slice x3 O.length y3)) (.slice x2 S.length y2) S ∧ (set3b w4 rk (.slice x1 L.length y1) (.slice x2 S.length y2) (.slice x3 O.length y3)).ownsRow w.heap.size 36 4 (.slice x3 O.length y3) O.length (dqC O)) := ⟨(t1.set3b hz4).1, (t2.set3b hz4).1, own_set3b (ownF_base t3 HB3.out.size) hz4 (by decide)⟩
    have z0 := cell_of_row _ _ 0 _ _ _ hz4
    have z1 := cell_of_row _ _ 1 _ _ _ hz4
    have z2 := cell_of_row _ _ 2 _ _ _ hz4
    have f0 := frozen_of_row _ _ 0 _ _ hz4
    have f1 := frozen_of_row _ _ 1 _ _ hz4
    have f2 := frozen_of_row _ _ 2 _ _ hz4
    clear c0 c1 c2 t1 t2 t3 hz4 hb7 hb4
    go_wp2_with fail
    exact bodyPost_ret (results_cell_t rfl _ _ rk 27 #[.slice x1 L.length y1, .slice x2 S.length y2, .slice x3 O.length y3] (0, 0) _ rfl HR9.out Try.underlying27 rfl (by kernel_rfl)) rfl ⟨⟨_, _, _, by rw [HCD.out]; rfl, HSAME.out HCD.out HO9.out (by decide)⟩, HB9.out⟩
  have e1 : ((O.length : Int) == 200) = false := beq_eq_false_iff_ne.2 (by omega)
  have e2 : decide ((O.length : Int) = 200) = false := decide_eq_false (by omega)
  have e3 : ¬ (O.length : Int) = 200 := by omega
  go_wp2_with fail
  refine (HFM.out M _ _ HML.out HF3.out.1).mono ?_
  rintro e w4 ⟨rfl, hb4⟩
  have HX4 : Hid (w4.heap[bk]? = some (.cells #[.slice al L.length cl, .slice a2 S.length cs, .slice ao O.length co] 27 (0, 0)) ∧ w4.heap[ok]? = some (.cells #[.int .i64 m, .string a, .string q, .string d] 36 (0, 0)) ∧ w4.heap[rk]? = some (.cells #[.slice none 0 0, .slice none 0 0, .slice none 0 0] 27 (0, 0))) := ⟨(hb4.block _ (Array.getElem?_eq_some_iff.1 HX3.out.1).1).trans HX3.out.1, (hb4.block _ (Array.getElem?_eq_some_iff.1 HX3.out.2.1).1).trans HX3.out.2.1, (hb4.block _ (Array.getElem?_eq_some_iff.1 HX3.out.2.2).1).trans HX3.out.2.2⟩
  have HB4 := hidF (blFl HB3.out hb4 HB3.out.size)
  have HF4 := hidF (HF3.out.below hb4)
  clear hb4 c2
  by_cases hfm : filesP M
  rotate_left
  · have HCD : Hid (codeF L O.length ⟨m, a, q, d⟩ = 4) := by show codeF _ _ _ = _; rw [HCC.out, if_neg (fun k => hfm (HMF.out.2 k.2))]
    rw [flB_no hfm]
    have c0 := cell_of_row _ _ 0 _ _ _ HX4.out.1
    have c1 := cell_of_row _ _ 1 _ _ _ HX4.out.1
    have c2 := cell_of_row _ _ 2 _ _ _ HX4.out.1
    clear hfm
    go_wp2_with fail
    refine (HCP.out _ HB4.out).mono ?_
    rintro e w5 ⟨⟨u1, u2, u3, rfl, t1, t2, t3⟩, hb5⟩
    obtain ⟨x1, y1, rfl⟩ := t1.slice
    obtain ⟨x2, y2, rfl⟩ := t2.slice
    obtain ⟨x3, y3, rfl⟩ := ownQ_slice t3
    have HX5 : Hid (w5.heap[bk]? = some (.cells #[.slice al L.length cl, .slice a2 S.length cs, .slice ao O.length co] 27 (0, 0)) ∧ w5.heap[ok]? = some (.cells #[.int .i64 m, .string a, .string q, .string d] 36 (0, 0)) ∧ w5.heap[rk]? = some (.cells #[.slice none 0 0, .slice none 0 0, .slice none 0 0] 27 (0, 0))) := ⟨(hb5.block _ (Array.getElem?_eq_some_iff.1 HX4.out.1).1).trans HX4.out.1, (hb5.block _ (Array.getElem?_eq_some_iff.1 HX4.out.2.1).1).trans HX4.out.2.1, (hb5.block _ (Array.getElem?_eq_some_iff.1 HX4.out.2.2).1).trans HX4.out.2.2⟩
    have HB5 := hidF (blFl HB4.out hb5 HB4.out.size)
    have hz4 := HX5.out.2.2
    have hb7 := HB5.out
    have HB9 : Hid (Below w.heap.size w (set3b w5 rk (.slice x1 L.length y1) (.slice x2 S.length y2) (.slice x3 O.length y3))) := ((hb7.setCell (p := ⟨rk, 0, none⟩) HRK.out _).setCell (p := ⟨rk, 1, none⟩) HRK.out _).setCell (p := ⟨rk, 2, none⟩) HRK.out _
    have HR9 : Hid ((set3b w5 rk (.slice x1 L.length y1) (.slice x2 S.length y2) (.slice x3 O.length y3)).heap[rk]? = some (.cells #[.slice x1 L.length y1, .slice x2 S.length y2, .slice x3 O.length y3] 27 (0, 0))) := heap_setCell_same _ _ _ _ _ _ (heap_setCell_same _ _ _ _ _ _ (heap_setCell_same _ _ _ _ _ _ hz4))
    have HO9 : Hid (FlV (set3b w5 rk (.slice x1 L.length y1) (.slice x2 S.length y2) (.slice x3 O.length y3)) (.slice x1 L.length y1) L ∧ FlV (set3b w5 rk (.slice x1 L.length y1) (.slice x2 S.length y2) (.slice x3 O.length y3)) (.slice x2 S.length y2) S ∧ (set3b w5 rk (.slice x1 L.length y1) (.slice x2 S.length y2) (.slice x3 O.length y3)).ownsRow w.heap.size 36 4 (.slice x3 O.length y3) O.length (dqC O)) := ⟨(t1.set3b hz4).1, (t2.set3b hz4).1, own_set3b (ownF_base t3 HB4.out.size) hz4 (by decide)⟩
    have z0 := cell_of_row _ _ 0 _ _ _ hz4
    have z1 := cell_of_row _ _ 1 _ _ _ hz4
    have z2 := cell_of_row _ _ 2 _ _ _ hz4
    have f0 := frozen_of_row _ _ 0 _ _ hz4
    have f1 := frozen_of_row _ _ 1 _ _ hz4
    have f2 := frozen_of_row _ _ 2 _ _ hz4
    clear c0 c1 c2 t1 t2 t3 hz4 hb7 hb5
    go_wp2_with fail
    exact bodyPost_ret (results_cell_t rfl _ _ rk 27 #[.slice x1 L.length y1, .slice x2 S.length y2, .slice x3 O.length y3] (0, 0) _ rfl HR9.out Try.underlying27 rfl (by kernel_rfl)) rfl ⟨⟨_, _, _, by rw [HCD.out]; rfl, HSAME.out HCD.out HO9.out (by decide)⟩, HB9.out⟩
  have HCD : Hid (codeF L O.length ⟨m, a, q, d⟩ = 0) := by show codeF _ _ _ = _; rw [HCC.out, if_pos ⟨by have := HON.out; omega, HMF.out.1 hfm⟩]
  rw [flB_yes hfm]
  clear hfm hfu
  have c0 := cell_of_row _ _ 0 _ _ _ HX4.out.1
  have c1 := cell_of_row _ _ 1 _ _ _ HX4.out.1
  have c2 := cell_of_row _ _ 2 _ _ _ HX4.out.1
  go_wp2_with fail
  refine (HCP.out _ HB4.out).mono ?_
  rintro e w5 ⟨⟨u1, u2, u3, rfl, t1, t2, t3⟩, hb5⟩
  obtain ⟨x1, y1, rfl⟩ := t1.slice
  obtain ⟨x2, y2, rfl⟩ := t2.slice
  obtain ⟨x3, y3, rfl⟩ := ownQ_slice t3
  have HX5 : Hid (w5.heap[bk]? = some (.cells #[.slice al L.length cl, .slice a2 S.length cs, .slice ao O.length co] 27 (0, 0)) ∧ w5.heap[ok]? = some (.cells #[.int .i64 m, .string a, .string q, .string d] 36 (0, 0)) ∧ w5.heap[rk]? = some (.cells #[.slice none 0 0, .slice none 0 0, .slice none 0 0] 27 (0, 0))) := ⟨(hb5.block _ (Array.getElem?_eq_some_iff.1 HX4.out.1).1).trans HX4.out.1, (hb5.block _ (Array.getElem?_eq_some_iff.1 HX4.out.2.1).1).trans HX4.out.2.1, (hb5.block _ (Array.getElem?_eq_some_iff.1 HX4.out.2.2).1).trans HX4.out.2.2⟩
  have HB5 := hidF (blFl HB4.out hb5 HB4.out.size)
  have HF5 := hidF (HF4.out.below hb5)
  have HT5 := hidF (And.intro t1 (And.intro t2 t3))
  have HS5 : Hid (w4.heap.size ≤ w5.heap.size) := hb5.size
  have hsl : (w5.alloc (.cells #[.slice p3 M.length k3, .slice x2 S.length y2, .slice x3 O.length y3] 27)).heap.size = w5.heap.size + 1 := World.size_alloc _ _
  have hA6 : Below w5.heap.size w5 (w5.alloc (.cells #[.slice p3 M.length k3, .slice x2 S.length y2, .slice x3 O.length y3] 27)) := (Below.refl _ _).alloc (Nat.le_refl _) _
  have HR6 : Hid ((w5.alloc (.cells #[.slice p3 M.length k3, .slice x2 S.length y2, .slice x3 O.length y3] 27)).heap[w5.heap.size]? = some (.cells #[.slice p3 M.length k3, .slice x2 S.length y2, .slice x3 O.length y3] 27 (0, 0)) ∧ (w5.alloc (.cells #[.slice p3 M.length k3, .slice x2 S.length y2, .slice x3 O.length y3] 27)).heap[ok]? = some (.cells #[.int .i64 m, .string a, .string q, .string d] 36 (0, 0)) ∧ (w5.alloc (.cells #[.slice p3 M.length k3, .slice x2 S.length y2, .slice x3 O.length y3] 27)).heap[rk]? = some (.cells #[.slice none 0 0, .slice none 0 0, .slice none 0 0] 27 (0, 0))) := ⟨heap_alloc_new _ _, (hA6.block _ (Array.getElem?_eq_some_iff.1 HX5.out.2.1).1).trans HX5.out.2.1, (hA6.block _ (Array.getElem?_eq_some_iff.1 HX5.out.2.2).1).trans HX5.out.2.2⟩
  have HT6 : Hid (FlT (w5.alloc (.cells #[.slice p3 M.length k3, .slice x2 S.length y2, .slice x3 O.length y3] 27)) (.slice p3 M.length k3) M ∧ FlT (w5.alloc (.cells #[.slice p3 M.length k3, .slice x2 S.length y2, .slice x3 O.length y3] 27)) (.slice x2 S.length y2) S ∧ (w5.alloc (.cells #[.slice p3 M.length k3, .slice x2 S.length y2, .slice x3 O.length y3] 27)).ownsRow w4.heap.size 36 4 (.slice x3 O.length y3) O.length (dqC O)) := ⟨HF5.out.below hA6, HT5.out.2.1.below hA6, ownF_call HT5.out.2.2 hA6⟩
  have HB6 : Hid (Below w.heap.size w (w5.alloc (.cells #[.slice p3 M.length k3, .slice x2 S.length y2, .slice x3 O.length y3] 27))) := blFl HB5.out hA6 HB5.out.size
  have HLT3 : Hid (∀ k, (Value.slice x3 O.length y3).ownBlock = some k → w4.heap.size ≤ k ∧ k < w5.heap.size) := fun k hk => HT5.out.2.2.lt k hk
  have HPL : Hid (∀ k, (Value.slice p3 M.length k3).ownBlock = some k → k < w4.heap.size) := fun k hk => HF4.out.1.lt2 hk
  have HRL : Hid (rk < w4.heap.size) := (Array.getElem?_eq_some_iff.1 HX4.out.2.2).1
  have HS45 : Hid (w.heap.size ≤ w4.heap.size) := HB4.out.size
  obtain ⟨i0, hi0, hz0, hz1, hz2⟩ := info_parts Try.infDq
  have hon := HON.out
  clear hb5 c0 c1 c2 t1 t2 t3 hA6 HT5 HF5 HF4 HF3 HX2 HX3 HX4 HB2 HB3
  go_wp2_with (first | refine wpList_load_row rfl 36 _ rfl ok rfl 36 #[.int .i64 m, .string a, .string q, .string d] (0, 0) _ HR6.out.2.1 Try.underlying36 rfl (by kernel_rfl) ?_ | refine wpList_append_own _ rfl _ _ 25 rfl w4.heap.size 36 i0 _ 4 56 Try.underlying25 hi0 hz0 hz1 hz2 rfl (by decide) (.slice x3 O.length y3) O.length (dqC O) rfl (World.ownsRow.alloc HT6.out.2.2 _) ⟨w5.heap.size + 1, 0, none⟩ 1 1 [.int .i64 m, .string a, .string q, .string d] rfl rfl (cell_fourQ hsl) (four_dq _ _ _ _) (by unfold maxLen; omega) (by omega) (by have := HS5.out; rw [World.size_alloc, World.size_alloc]; omega) ?_)
  intro v9 w9 hown hgrow hnn
  obtain ⟨x9, y9, rfl⟩ := ownQ_slice hown
  have hb67 : Below w5.heap.size (w5.alloc (.cells #[.slice p3 M.length k3, .slice x2 S.length y2, .slice x3 O.length y3] 27)) ((w5.alloc (.cells #[.slice p3 M.length k3, .slice x2 S.length y2, .slice x3 O.length y3] 27)).alloc (.cells #[.int .i64 m, .string a, .string q, .string d] 36)) := (Below.refl _ _).alloc (by rw [hsl]; omega) _
  have hb6 : Below (w5.alloc (.cells #[.slice p3 M.length k3, .slice x2 S.length y2, .slice x3 O.length y3] 27)).heap.size (w5.alloc (.cells #[.slice p3 M.length k3, .slice x2 S.length y2, .slice x3 O.length y3] 27)) ((w5.alloc (.cells #[.slice p3 M.length k3, .slice x2 S.length y2, .slice x3 O.length y3] 27)).alloc (.cells #[.int .i64 m, .string a, .string q, .string d] 36)) := (Below.refl _ _).alloc (Nat.le_refl _) _
  have ht7 := (hb6.block _ (by rw [hsl]; omega)).trans HR6.out.1
  have hr7 := (hb6.block _ (Array.getElem?_eq_some_iff.1 HR6.out.2.2).1).trans HR6.out.2.2
  have ht9 := (hgrow.block _ (Array.getElem?_eq_some_iff.1 ht7).1 (fun c => by have := (HLT3.out _ c.symm).2; omega)).trans ht7
  have hr9 := (hgrow.block _ (Array.getElem?_eq_some_iff.1 hr7).1 (fun c => by have := (HLT3.out _ c.symm).1; have := HRL.out; omega)).trans hr7
  have HO9 : Hid (FlT w9 (.slice p3 M.length k3) M ∧ FlT w9 (.slice x2 S.length y2) S ∧ w9.ownsRow w4.heap.size 36 4 (.slice x9 (O.length + 1) y9) (O ++ [(⟨m, a, q, d⟩ : DqI)]).length (dqC (O ++ [(⟨m, a, q, d⟩ : DqI)]))) := by
    have ho7 := ownF_call HT6.out.2.2 hb6
    have f1 := HT6.out.1.below hb6
    have f2 := HT6.out.2.1.below hb6
    refine ⟨f1.keep hgrow.size (fun g hg => hgrow.block g (f1.1.lt2 hg) (fun c => by have := (HLT3.out _ c.symm).1; have := HPL.out g hg; omega)), f2.grownK ho7 (by decide) hgrow, ?_⟩
    rw [← dqC_snoc2, List.length_append]
    exact hown
  have HB9 : Hid (Below w.heap.size w w9) := (HB6.out.alloc HB6.out.size _).grown hgrow (by rw [World.size_alloc]; have := HB6.out.size; omega) (fun j hj => by have := (HLT3.out j hj).1; have := HS45.out; omega)
  obtain ⟨tk, htk⟩ : ∃ tk, tk = w5.heap.size := ⟨_, rfl⟩
  have HTR : Hid (w.heap.size ≤ tk ∧ tk ≠ rk ∧ rk ≠ tk) := ⟨by have := HB5.out.size; omega, by have := HRL.out; have := HS5.out; omega, by have := HRL.out; have := HS5.out; omega⟩
  rw [← htk] at ht9 ⊢
  have htr := HTR.out.2.2
  have z2 := cell_of_row _ _ 2 _ _ _ ht9
  have f2 := frozen_of_row _ _ 2 _ _ ht9
  have HT9 := hidF ht9
  have HR9 := hidF hr9
  clear hown hgrow hnn hb67 hb6 ht7 hr7 HR6 HT6 HB6 HX5 hon hsl htk ht9 hr9
  obtain ⟨W9, hW9⟩ : ∃ W9, W9 = w9.setCell ⟨tk, 2, none⟩ (.slice x9 (O.length + 1) y9) := ⟨_, rfl⟩
  have HWT : Hid (W9.heap[tk]? = some (.cells #[.slice p3 M.length k3, .slice x2 S.length y2, .slice x9 (O.length + 1) y9] 27 (0, 0))) := by rw [hW9]; exact heap_setCell_same _ _ _ _ _ _ HT9.out
  have HWR : Hid (W9.heap[rk]? = some (.cells #[.slice none 0 0, .slice none 0 0, .slice none 0 0] 27 (0, 0))) := by rw [hW9]; exact (heap_setCell_other _ _ _ _ htr).trans HR9.out
  have r0 := cell_of_row _ _ 0 _ _ _ HR9.out
  have r1 := cell_of_row _ _ 1 _ _ _ HR9.out
  have r2 := cell_of_row _ _ 2 _ _ _ HR9.out
  have q0 := frozen_of_row _ _ 0 _ _ HR9.out
  have q1 := frozen_of_row _ _ 1 _ _ HR9.out
  have q2 := frozen_of_row _ _ 2 _ _ HR9.out
  have htr2 := HTR.out.2.1
  have HBW : Hid (Below w.heap.size w W9) := by rw [hW9]; exact HB9.out.setCell (p := ⟨tk, 2, none⟩) HTR.out.1 _
  have HOW : Hid (FlT W9 (.slice p3 M.length k3) M ∧ FlT W9 (.slice x2 S.length y2) S ∧ W9.ownsRow w4.heap.size 36 4 (.slice x9 (O.length + 1) y9) (O ++ [(⟨m, a, q, d⟩ : DqI)]).length (dqC (O ++ [(⟨m, a, q, d⟩ : DqI)]))) := by
    have hne : ∀ {u : Value} {N : List FlI}, FlT w9 u N → ∀ g, 0 < N.length → u.ownBlock = some g → g ≠ tk := fun {u N} hu g h0 hg c => by
      subst c
      obtain ⟨cur, hc⟩ := hu.2 g h0 hg
      rw [HT9.out] at hc
      injection hc with hc
      injection hc with _ hc _
      exact absurd hc (by decide)
    have hk : ∀ {u : Value} {N : List FlI}, FlT w9 u N → FlT W9 u N := fun {u N} hu => by
      rw [hW9]
      refine ⟨hu.1.keepB (by simp) fun g h0 hv _ => heap_setCell_other _ _ _ _ (hne hu g h0 (by rw [hv]; rfl)), fun g h0 hv => ?_⟩
      obtain ⟨cur, hc⟩ := hu.2 g h0 hv
      exact ⟨cur, (heap_setCell_other _ _ _ _ (hne hu g h0 hv)).trans hc⟩
    refine ⟨hk HO9.out.1, hk HO9.out.2.1, ?_⟩
    rw [hW9]
    exact ownK_keep2 HO9.out.2.2 fun g hg => heap_setCell_other _ _ _ _ (by
      rintro rfl
      obtain ⟨_, cur, hc⟩ := ownK_at2 HO9.out.2.2 hg
      rw [HT9.out] at hc
      injection hc with hc
      injection hc with _ hc _
      exact absurd hc (by decide))
  have HRX : Hid ((set3b W9 rk (.slice p3 M.length k3) (.slice x2 S.length y2) (.slice x9 (O.length + 1) y9)).heap[rk]? = some (.cells #[.slice p3 M.length k3, .slice x2 S.length y2, .slice x9 (O.length + 1) y9] 27 (0, 0))) := heap_setCell_same _ _ _ _ _ _ (heap_setCell_same _ _ _ _ _ _ (heap_setCell_same _ _ _ _ _ _ HWR.out))
  have HBX : Hid (Below w.heap.size w (set3b W9 rk (.slice p3 M.length k3) (.slice x2 S.length y2) (.slice x9 (O.length + 1) y9))) := ((HBW.out.setCell (p := ⟨rk, 0, none⟩) HRK.out _).setCell (p := ⟨rk, 1, none⟩) HRK.out _).setCell (p := ⟨rk, 2, none⟩) HRK.out _
  have HOX : Hid (FlV (set3b W9 rk (.slice p3 M.length k3) (.slice x2 S.length y2) (.slice x9 (O.length + 1) y9)) (.slice p3 M.length k3) (actL L O.length ⟨m, a, q, d⟩) ∧ FlV (set3b W9 rk (.slice p3 M.length k3) (.slice x2 S.length y2) (.slice x9 (O.length + 1) y9)) (.slice x2 S.length y2) S ∧ DqV (set3b W9 rk (.slice p3 M.length k3) (.slice x2 S.length y2) (.slice x9 (O.length + 1) y9)) (.slice x9 (O.length + 1) y9) (actO L O ⟨m, a, q, d⟩)) := by
    unfold actL actO
    rw [if_pos HCD.out, if_pos HCD.out, HGG.out]
    exact ⟨(HOW.out.1.set3b HWR.out).1, (HOW.out.2.1.set3b HWR.out).1, DqV.of_own (own_set3b HOW.out.2.2 HWR.out (by decide))⟩
  subst hW9
  go_wp2_with (refine wpList_load_row rfl 27 _ rfl tk rfl 27 #[.slice p3 M.length k3, .slice x2 S.length y2, .slice x9 (O.length + 1) y9] (0, 0) _ HWT.out Try.underlying27 rfl (by kernel_rfl) ?_)
  exact bodyPost_ret (results_cell_t rfl _ _ rk 27 #[.slice p3 M.length k3, .slice x2 S.length y2, .slice x9 (O.length + 1) y9] (0, 0) _ rfl HRX.out Try.underlying27 rfl (by kernel_rfl)) rfl ⟨⟨_, _, _, by rw [HCD.out]; rfl, HOX.out⟩, HBX.out⟩
end Go.Proofs.Ytanlggglbpibfaa

/-!   Do: the specification's. -/
namespace Go.Proofs.Ytanlggglbpibfaa
open Go.RowKit
set_option linter.unusedVariables false
set_option linter.unusedSimpArgs false
/-- a disk and a code, as an answer -/
def DoV (A : DkA) (e : Ending) (w' : World) : Prop := ∃ x y z, e = .returned (.tuple #[.agg #[x, y, z], .int .i64 A.c]) ∧ FlV w' x A.l ∧ FlV w' y A.s ∧ DqV w' z A.o
theorem doA_one (L S : List FlI) (O : List DqI) (o : DqI) (h : diskP L S O) : doA L S O [o] = ⟨actL L O.length o, S, actO L O o, codeF L O.length o⟩ := by
  by_cases hc : codeF L O.length o = 0
  · have e : actsF L O [o] = (0, doG L o, O ++ [o]) := acts_go hc
    rw [doA_yes h (by rw [e]), e]
    unfold actL actO
    rw [if_pos hc, if_pos hc, hc]
  · have e : actsF L O [o] = (codeF L O.length o, L, O) := acts_no hc
    rw [doA_no h (by rw [e]; exact hc), e]
    unfold actL actO
    rw [if_neg hc, if_neg hc]
theorem DqV.keepB {w w' : World} {v : Value} {L : List DqI} (h : DqV w v L) (hz : w.heap.size ≤ w'.heap.size) (hb : ∀ g, 0 < L.length → v.ownBlock = some g → w.cell? ⟨g, 0, none⟩ = some (.int .i64 (dqF L 0).m) → w'.heap[g]? = w.heap[g]?) : DqV w' v L := by
  rcases h with h | ⟨g, c, rfl, hr⟩
  · exact Or.inl h
  · refine Or.inr ⟨g, c, rfl, ?_⟩
    by_cases h0 : 0 < L.length
    · have hb := hb g h0 rfl (hr.c0 0 h0)
      have hc : ∀ o, w'.cell? ⟨g, o, none⟩ = w.cell? ⟨g, o, none⟩ := fun o => by
        simp [World.cell?, hb]
      exact ⟨Nat.lt_of_lt_of_le hr.lt hz, fun i hi => (hc _).trans (hr.c0 i hi), fun i hi => (hc _).trans (hr.c1 i hi), fun i hi => (hc _).trans (hr.c2 i hi), fun i hi => (hc _).trans (hr.c3 i hi)⟩
    · exact ⟨Nat.lt_of_lt_of_le hr.lt hz, fun i hi => absurd hi (by omega), fun i hi => absurd hi (by omega), fun i hi => absurd hi (by omega), fun i hi => absurd hi (by omega)⟩
theorem DqV.set3b {w : World} {v a b c : Value} {L : List DqI} {k : Nat} {p : Option Addr} {n m : Nat} {x y : Value} {e : TypeId} (h : DqV w v L) (hk : w.heap[k]? = some (.cells #[.slice p n m, x, y] e (0, 0))) : DqV (set3b w k a b c) v L :=
  h.keepB (Nat.le_of_eq (set3b_size _ _ _ _ _).symm) fun g _ _ hg => set3b_other _ _ _ (by
    rintro rfl
    rw [cell_of_row _ _ 0 _ _ _ hk] at hg
    cases hg)
set_option maxRecDepth 100000 in
set_option maxHeartbeats 4000000 in
theorem sdoT_any (vL vS vO : Value) (L S : List FlI) (O : List DqI) (m : Int) (a q d : ByteArray) (w : World) (hL : FlLe L) (hS : FlLe S) (hO : DqLe O) (ha : a.size ≤ 1100000) (hq : q.size ≤ 1100000) (hd : d.size ≤ 1100000) (h1 : FlV w vL L) (h2 : FlV w vS S) (h3 : DqV w vO O) :
    Calls Try.prog 21 #[.agg #[vL, vS, vO], dqV m a q d] w fun e w' => DoV (doA L S O [⟨m, a, q, d⟩]) e w' ∧ Below w.heap.size w w' := by
  have HDK : Hid (∀ w', Below w.heap.size w w' → Calls Try.prog 15 #[.agg #[vL, vS, vO]] w' fun e w'' => e = .returned (.bool (dkB L S O)) ∧ Below w'.heap.size w' w'') := fun w' hb => sdisk_any vL vS vO L S O w' hL hS hO (h1.below hb) (h2.below hb) (h3.below hb)
  have HAC : Hid (∀ w', Below w.heap.size w w' → diskP L S O → Calls Try.prog 59 #[.agg #[vL, vS, vO], .agg #[.int .i64 m, .string a, .string q, .string d]] w' fun e w'' => ActAns L S O ⟨m, a, q, d⟩ e w'' ∧ Below w'.heap.size w' w'') := fun w' hb hD => sact_any vL vS vO L S O m a q d w' hD hO ha hq hd (h1.below hb) (h2.below hb) (h3.below hb)
  obtain ⟨al, cl, rfl⟩ := h1.slice
  obtain ⟨a2, cs, rfl⟩ := h2.slice
  obtain ⟨ao, co, rfl⟩ := h3.slice
  have HX1 : Hid ((((w.alloc (.cells #[.slice al L.length cl, .slice a2 S.length cs, .slice ao O.length co] 27)).alloc (.cells #[.int .i64 m, .string a, .string q, .string d] 36)).alloc (.cells #[.slice none 0 0, .slice none 0 0, .slice none 0 0] 27)).heap[w.heap.size]? = some (.cells #[.slice al L.length cl, .slice a2 S.length cs, .slice ao O.length co] 27 (0, 0)) ∧ (((w.alloc (.cells #[.slice al L.length cl, .slice a2 S.length cs, .slice ao O.length co] 27)).alloc (.cells #[.int .i64 m, .string a, .string q, .string d] 36)).alloc (.cells #[.slice none 0 0, .slice none 0 0, .slice none 0 0] 27)).heap[w.heap.size + 1]? = some (.cells #[.int .i64 m, .string a, .string q, .string d] 36 (0, 0)) ∧ (((w.alloc (.cells #[.slice al L.length cl, .slice a2 S.length cs, .slice ao O.length co] 27)).alloc (.cells #[.int .i64 m, .string a, .string q, .string d] 36)).alloc (.cells #[.slice none 0 0, .slice none 0 0, .slice none 0 0] 27)).heap[w.heap.size + 2]? = some (.cells #[.slice none 0 0, .slice none 0 0, .slice none 0 0] 27 (0, 0))) := by
    have s1 : (w.alloc (.cells #[.slice al L.length cl, .slice a2 S.length cs, .slice ao O.length co] 27)).heap.size = w.heap.size + 1 := World.size_alloc _ _
    have s2 : ((w.alloc (.cells #[.slice al L.length cl, .slice a2 S.length cs, .slice ao O.length co] 27)).alloc (.cells #[.int .i64 m, .string a, .string q, .string d] 36)).heap.size = w.heap.size + 2 := by rw [World.size_alloc, s1]
    refine ⟨?_, ?_, ?_⟩
    · rw [Below.heap_alloc _ _ _ (by omega), Below.heap_alloc _ _ _ (by omega), heap_alloc_new]
    · rw [Below.heap_alloc _ _ _ (by omega)]
      have := heap_alloc_new (w.alloc (.cells #[.slice al L.length cl, .slice a2 S.length cs, .slice ao O.length co] 27)) (.cells #[.int .i64 m, .string a, .string q, .string d] 36)
      rw [s1] at this
      exact this
    · have := heap_alloc_new ((w.alloc (.cells #[.slice al L.length cl, .slice a2 S.length cs, .slice ao O.length co] 27)).alloc (.cells #[.int .i64 m, .string a, .string q, .string d] 36)) (.cells #[.slice none 0 0, .slice none 0 0, .slice none 0 0] 27)
      rw [s2] at this
      exact this
  have HB1 : Hid (Below w.heap.size w (((w.alloc (.cells #[.slice al L.length cl, .slice a2 S.length cs, .slice ao O.length co] 27)).alloc (.cells #[.int .i64 m, .string a, .string q, .string d] 36)).alloc (.cells #[.slice none 0 0, .slice none 0 0, .slice none 0 0] 27))) := (((Below.refl _ _).alloc (Nat.le_refl _) _).alloc (by simp) _).alloc (by simp; omega) _
  unfold dqV
  clear hL hS hO ha hq hd h1 h2 h3
  go_enter Try.func21, Try.ntmps21
  go_wp2_with fail
  have hdk := HDK.out _ HB1.out
  generalize ((w.alloc (.cells #[.slice al L.length cl, .slice a2 S.length cs, .slice ao O.length co] 27)).alloc (.cells #[.int .i64 m, .string a, .string q, .string d] 36)).alloc (.cells #[.slice none 0 0, .slice none 0 0, .slice none 0 0] 27) = w1 at HB1 HX1 hdk ⊢
  obtain ⟨bk, hbk⟩ : ∃ bk, bk = w.heap.size := ⟨_, rfl⟩
  obtain ⟨ok, hok⟩ : ∃ ok, ok = w.heap.size + 1 := ⟨_, rfl⟩
  obtain ⟨rk, hrk⟩ : ∃ rk, rk = w.heap.size + 2 := ⟨_, rfl⟩
  have HRK : Hid (w.heap.size ≤ rk) := by show _ ≤ _; omega
  rw [← hrk, ← hok, ← hbk] at HX1 ⊢
  clear hbk hok hrk
  refine hdk.mono ?_
  rintro e w2 ⟨rfl, hb2⟩
  have HX2 : Hid (w2.heap[bk]? = some (.cells #[.slice al L.length cl, .slice a2 S.length cs, .slice ao O.length co] 27 (0, 0)) ∧ w2.heap[ok]? = some (.cells #[.int .i64 m, .string a, .string q, .string d] 36 (0, 0)) ∧ w2.heap[rk]? = some (.cells #[.slice none 0 0, .slice none 0 0, .slice none 0 0] 27 (0, 0))) := ⟨(hb2.block _ (Array.getElem?_eq_some_iff.1 HX1.out.1).1).trans HX1.out.1, (hb2.block _ (Array.getElem?_eq_some_iff.1 HX1.out.2.1).1).trans HX1.out.2.1, (hb2.block _ (Array.getElem?_eq_some_iff.1 HX1.out.2.2).1).trans HX1.out.2.2⟩
  have HB2 := hidF (blFl HB1.out hb2 HB1.out.size)
  clear hb2 HX1 HB1 hdk
  by_cases hD : diskP L S O
  rotate_left
  · have HE : Hid (doA L S O [⟨m, a, q, d⟩] = ⟨[], [], [], 1⟩) := doA_bad hD
    rw [dkB_no hD]
    have hz4 := HX2.out.2.2
    have hb7 := HB2.out
    have HB9 : Hid (Below w.heap.size w (set3b w2 rk (.slice none 0 0) (.slice none 0 0) (.slice none 0 0))) := ((hb7.setCell (p := ⟨rk, 0, none⟩) HRK.out _).setCell (p := ⟨rk, 1, none⟩) HRK.out _).setCell (p := ⟨rk, 2, none⟩) HRK.out _
    have HR9 : Hid ((set3b w2 rk (.slice none 0 0) (.slice none 0 0) (.slice none 0 0)).heap[rk]? = some (.cells #[(.slice none 0 0), (.slice none 0 0), (.slice none 0 0)] 27 (0, 0))) := heap_setCell_same _ _ _ _ _ _ (heap_setCell_same _ _ _ _ _ _ (heap_setCell_same _ _ _ _ _ _ hz4))
    have z0 := cell_of_row _ _ 0 _ _ _ hz4
    have z1 := cell_of_row _ _ 1 _ _ _ hz4
    have z2 := cell_of_row _ _ 2 _ _ _ hz4
    have f0 := frozen_of_row _ _ 0 _ _ hz4
    have f1 := frozen_of_row _ _ 1 _ _ hz4
    have f2 := frozen_of_row _ _ 2 _ _ hz4
    clear hD hz4 hb7
    go_wp2_with fail
    exact bodyPost_ret (results_cell_t rfl _ _ rk 27 #[.slice none 0 0, .slice none 0 0, .slice none 0 0] (0, 0) _ rfl HR9.out Try.underlying27 rfl (by kernel_rfl)) rfl ⟨by rw [HE.out]; exact ⟨_, _, _, rfl, Or.inl ⟨rfl, rfl⟩, Or.inl ⟨rfl, rfl⟩, Or.inl ⟨rfl, rfl⟩⟩, HB9.out⟩
  have HE : Hid (doA L S O [⟨m, a, q, d⟩] = ⟨actL L O.length ⟨m, a, q, d⟩, S, actO L O ⟨m, a, q, d⟩, codeF L O.length ⟨m, a, q, d⟩⟩) := doA_one L S O _ hD
  have HAT := hidF (HAC.out w2 HB2.out hD)
  rw [dkB_yes hD]
  have c0 := cell_of_row _ _ 0 _ _ _ HX2.out.1
  have c1 := cell_of_row _ _ 1 _ _ _ HX2.out.1
  have c2 := cell_of_row _ _ 2 _ _ _ HX2.out.1
  have o0 := cell_of_row _ _ 0 _ _ _ HX2.out.2.1
  have o1 := cell_of_row _ _ 1 _ _ _ HX2.out.2.1
  have o2 := cell_of_row _ _ 2 _ _ _ HX2.out.2.1
  have o3 := cell_of_row _ _ 3 _ _ _ HX2.out.2.1
  clear hD HAC
  go_wp2_with fail
  refine HAT.out.mono ?_
  rintro e w3 ⟨⟨u1, u2, u3, rfl, t1, t2, t3⟩, hb3⟩
  obtain ⟨x1, y1, rfl⟩ := t1.slice
  obtain ⟨x2, y2, rfl⟩ := t2.slice
  obtain ⟨x3, y3, rfl⟩ := t3.slice
  have HX3 : Hid (w3.heap[bk]? = some (.cells #[.slice al L.length cl, .slice a2 S.length cs, .slice ao O.length co] 27 (0, 0)) ∧ w3.heap[ok]? = some (.cells #[.int .i64 m, .string a, .string q, .string d] 36 (0, 0)) ∧ w3.heap[rk]? = some (.cells #[.slice none 0 0, .slice none 0 0, .slice none 0 0] 27 (0, 0))) := ⟨(hb3.block _ (Array.getElem?_eq_some_iff.1 HX2.out.1).1).trans HX2.out.1, (hb3.block _ (Array.getElem?_eq_some_iff.1 HX2.out.2.1).1).trans HX2.out.2.1, (hb3.block _ (Array.getElem?_eq_some_iff.1 HX2.out.2.2).1).trans HX2.out.2.2⟩
  have HB3 := hidF (blFl HB2.out hb3 HB2.out.size)
  have hz4 := HX3.out.2.2
  have hb7 := HB3.out
  have HB9 : Hid (Below w.heap.size w (set3b w3 rk (.slice x1 (actL L O.length ⟨m, a, q, d⟩).length y1) (.slice x2 S.length y2) (.slice x3 (actO L O ⟨m, a, q, d⟩).length y3))) := ((hb7.setCell (p := ⟨rk, 0, none⟩) HRK.out _).setCell (p := ⟨rk, 1, none⟩) HRK.out _).setCell (p := ⟨rk, 2, none⟩) HRK.out _
  have HR9 : Hid ((set3b w3 rk (.slice x1 (actL L O.length ⟨m, a, q, d⟩).length y1) (.slice x2 S.length y2) (.slice x3 (actO L O ⟨m, a, q, d⟩).length y3)).heap[rk]? = some (.cells #[(.slice x1 (actL L O.length ⟨m, a, q, d⟩).length y1), (.slice x2 S.length y2), (.slice x3 (actO L O ⟨m, a, q, d⟩).length y3)] 27 (0, 0))) := heap_setCell_same _ _ _ _ _ _ (heap_setCell_same _ _ _ _ _ _ (heap_setCell_same _ _ _ _ _ _ hz4))
  have z0 := cell_of_row _ _ 0 _ _ _ hz4
  have z1 := cell_of_row _ _ 1 _ _ _ hz4
  have z2 := cell_of_row _ _ 2 _ _ _ hz4
  have f0 := frozen_of_row _ _ 0 _ _ hz4
  have f1 := frozen_of_row _ _ 1 _ _ hz4
  have f2 := frozen_of_row _ _ 2 _ _ hz4
  have HO9 : Hid (FlV (set3b w3 rk (.slice x1 (actL L O.length ⟨m, a, q, d⟩).length y1) (.slice x2 S.length y2) (.slice x3 (actO L O ⟨m, a, q, d⟩).length y3)) (.slice x1 (actL L O.length ⟨m, a, q, d⟩).length y1) (actL L O.length ⟨m, a, q, d⟩) ∧ FlV (set3b w3 rk (.slice x1 (actL L O.length ⟨m, a, q, d⟩).length y1) (.slice x2 S.length y2) (.slice x3 (actO L O ⟨m, a, q, d⟩).length y3)) (.slice x2 S.length y2) S ∧ DqV (set3b w3 rk (.slice x1 (actL L O.length ⟨m, a, q, d⟩).length y1) (.slice x2 S.length y2) (.slice x3 (actO L O ⟨m, a, q, d⟩).length y3)) (.slice x3 (actO L O ⟨m, a, q, d⟩).length y3) (actO L O ⟨m, a, q, d⟩)) := ⟨t1.set3b hz4, t2.set3b hz4, t3.set3b hz4⟩
  clear hb3 t1 t2 t3 hz4 hb7 c0 c1 c2 o0 o1 o2 o3
  go_wp2_with fail
  exact bodyPost_ret (results_cell_t rfl _ _ rk 27 #[.slice x1 (actL L O.length ⟨m, a, q, d⟩).length y1, .slice x2 S.length y2, .slice x3 (actO L O ⟨m, a, q, d⟩).length y3] (0, 0) _ rfl HR9.out Try.underlying27 rfl (by kernel_rfl)) rfl ⟨by rw [HE.out]; exact ⟨_, _, _, rfl, HO9.out⟩, HB9.out⟩
end Go.Proofs.Ytanlggglbpibfaa

/-!   Ops done one by one, or none: the code's. -/
namespace Go.Proofs.Ytanlggglbpibfaa
open Go.RowKit
set_option linter.unusedVariables false
set_option linter.unusedSimpArgs false
/-- a disk that is all its own, and a code -/
def DoO (B : Nat) (A : DkA) (e : Ending) (w' : World) : Prop := ∃ a b c, e = .returned (.tuple #[.agg #[a, b, c], .int .i64 A.c]) ∧ w'.ownsRow B 88 2 a A.l.length (flC A.l) ∧ w'.ownsRow B 88 2 b A.s.length (flC A.s) ∧ w'.ownsRow B 36 4 c A.o.length (dqC A.o) ∧ (∀ k, a.ownBlock = some k → b.ownBlock ≠ some k ∧ c.ownBlock ≠ some k) ∧ (∀ k, b.ownBlock = some k → c.ownBlock ≠ some k)
theorem drop_at {P : List DqI} {i : Nat} (h : i < P.length) : P.drop i = dqF P i :: P.drop (i + 1) := by
  rw [dqF_at h]; exact List.drop_eq_getElem_cons h
set_option maxRecDepth 100000 in
set_option maxHeartbeats 4000000 in
theorem doAll_any (vL vS vO vP : Value) (L S : List FlI) (O P : List DqI) (w : World) (hL : FlLe L) (hS : FlLe S) (hO : DqLe O) (hP : DqLe P) (h1 : FlV w vL L) (h2 : FlV w vS S) (h3 : DqV w vO O) (h4 : DqV w vP P) :
    Calls Try.prog 58 #[.agg #[vL, vS, vO], vP] w fun e w' => DoO w.heap.size (doA L S O P) e w' ∧ Below w.heap.size w w' := by
  have HOP : Hid (∀ w', Below w.heap.size w w' → Calls Try.prog 41 #[.agg #[vL, vS, vO]] w' fun e w'' => OdAns w' vS L S O e w'' ∧ Below w'.heap.size w' w'') := fun w' hb => open15_any vL vS vO L S O w' hL hS hO (h1.below hb) (h2.below hb) (h3.below hb)
  have HCD : Hid (∀ w', Below w.heap.size w w' → Calls Try.prog 52 #[.agg #[vL, vS, vO]] w' fun e w'' => DkO w'.heap.size w' e w'' L S O ∧ Below w'.heap.size w' w'') := fun w' hb => cdisk15_any vL vS vO L S O w' hL hS hO (h1.below hb) (h2.below hb) (h3.below hb)
  have HVS : Hid (∀ w', Below w.heap.size w w' → FlV w' vS S) := fun w' hb => h2.below hb
  obtain ⟨al, cl, rfl⟩ := h1.slice
  obtain ⟨a2, cs, rfl⟩ := h2.slice
  obtain ⟨ao, co, rfl⟩ := h3.slice
  obtain ⟨ap, cp, rfl⟩ := h4.slice
  have HPR : Hid (∀ i w', i < P.length → Below w.heap.size w w' → ∃ g c, (Value.slice ap P.length cp) = .slice (some ⟨g, 0, none⟩) P.length c ∧ DqRow w' g P.length (dqF P)) := fun i w' hi hb => by
    rcases h4 with ⟨_, rfl⟩ | ⟨g, c, e, hr⟩
    · simp at hi
    · exact ⟨g, c, e, hr.below hb hr.lt⟩
  have HWDO : Hid (∀ lo wd p mb v (M : List FlI) (R : List DqI) (m : Int) (a q d : ByteArray) w', WdW w' lo wd p mb (.slice a2 S.length cs) v M R → filesP M → R.length ≤ 200 → q.size ≤ 1100000 → d.size ≤ 1100000 → Calls Try.prog 78 #[.pointer (some ⟨wd, 0, none⟩), .agg #[.int .i64 m, .string a, .string q, .string d]] w' fun e w'' => (∃ c, e = .returned (.int .i64 c) ∧ stP M R.length ⟨m, a, q, d⟩ c ∧ (c = 0 → ∃ v', WdW w'' lo wd p mb (.slice a2 S.length cs) v' (doG M ⟨m, a, q, d⟩) (R ++ [⟨m, a, q, d⟩]))) ∧ Below lo w' w'') := fun lo wd p mb v M R m a q d w' hw hM hR hq hd => wdo_any m a q d w' hw (by have := hM.len; omega) (by have := hM.sum; omega) (by omega) (by omega) (by omega)
  have HPZ := hidF hP
  have HOZ := hidF hO
  have hP9 := hP.len
  have HX1 : Hid (((w.alloc (.cells #[.slice al L.length cl, .slice a2 S.length cs, .slice ao O.length co] 27)).alloc (.cells #[.slice none 0 0, .slice none 0 0, .slice none 0 0] 27)).heap[w.heap.size]? = some (.cells #[.slice al L.length cl, .slice a2 S.length cs, .slice ao O.length co] 27 (0, 0)) ∧ ((w.alloc (.cells #[.slice al L.length cl, .slice a2 S.length cs, .slice ao O.length co] 27)).alloc (.cells #[.slice none 0 0, .slice none 0 0, .slice none 0 0] 27)).heap[w.heap.size + 1]? = some (.cells #[.slice none 0 0, .slice none 0 0, .slice none 0 0] 27 (0, 0))) := by
    refine ⟨?_, ?_⟩
    · rw [Below.heap_alloc _ _ _ (by simp), heap_alloc_new]
    · have := heap_alloc_new (w.alloc (.cells #[.slice al L.length cl, .slice a2 S.length cs, .slice ao O.length co] 27)) (.cells #[.slice none 0 0, .slice none 0 0, .slice none 0 0] 27)
      rw [World.size_alloc] at this
      exact this
  have HB1 : Hid (Below w.heap.size w ((w.alloc (.cells #[.slice al L.length cl, .slice a2 S.length cs, .slice ao O.length co] 27)).alloc (.cells #[.slice none 0 0, .slice none 0 0, .slice none 0 0] 27))) := ((Below.refl _ _).alloc (Nat.le_refl _) _).alloc (by simp) _
  have HSZ1 : Hid (((w.alloc (.cells #[.slice al L.length cl, .slice a2 S.length cs, .slice ao O.length co] 27)).alloc (.cells #[.slice none 0 0, .slice none 0 0, .slice none 0 0] 27)).heap.size = w.heap.size + 2) := by show _ = _; rw [World.size_alloc, World.size_alloc]
  clear hL hS hO hP h1 h2 h3 h4
  go_enter Try.func58, Try.ntmps58
  go_wp2_with fail
  have hop := HOP.out _ HB1.out
  generalize (w.alloc (.cells #[.slice al L.length cl, .slice a2 S.length cs, .slice ao O.length co] 27)).alloc (.cells #[.slice none 0 0, .slice none 0 0, .slice none 0 0] 27) = w1 at HB1 HX1 HSZ1 hop ⊢
  obtain ⟨bk, hbk⟩ : ∃ bk, bk = w.heap.size := ⟨_, rfl⟩
  obtain ⟨rk, hrk⟩ : ∃ rk, rk = w.heap.size + 1 := ⟨_, rfl⟩
  have HRK : Hid (w.heap.size ≤ rk) := by show _ ≤ _; omega
  have HBK : Hid (bk < w1.heap.size ∧ rk < w1.heap.size ∧ w.heap.size ≤ w1.heap.size) := by have := HSZ1.out; exact ⟨by omega, by omega, by omega⟩
  rw [← hrk, ← hbk] at HX1 ⊢
  clear hbk hrk
  refine hop.mono ?_
  rintro e w2 ⟨hod, hb2⟩
  have HX2 : Hid (w2.heap[bk]? = some (.cells #[.slice al L.length cl, .slice a2 S.length cs, .slice ao O.length co] 27 (0, 0)) ∧ w2.heap[rk]? = some (.cells #[.slice none 0 0, .slice none 0 0, .slice none 0 0] 27 (0, 0))) := ⟨(hb2.block _ (Array.getElem?_eq_some_iff.1 HX1.out.1).1).trans HX1.out.1, (hb2.block _ (Array.getElem?_eq_some_iff.1 HX1.out.2).1).trans HX1.out.2⟩
  have HB2 := hidF (blFl HB1.out hb2 HB1.out.size)
  clear hb2 HX1 HB1 hop HSZ1 HOP
  rcases hod with ⟨hD, lo, wd, p, mb, v0, rfl, hlo1, hlo2, hw0⟩ | ⟨hD, x, rfl⟩
  rotate_left
  · have HE : Hid (doA L S O P = ⟨[], [], [], 1⟩) := doA_bad hD
    have hz4 := HX2.out.2
    have hb7 := HB2.out
    have HB9 : Hid (Below w.heap.size w (set3b w2 rk (.slice none 0 0) (.slice none 0 0) (.slice none 0 0))) := ((hb7.setCell (p := ⟨rk, 0, none⟩) HRK.out _).setCell (p := ⟨rk, 1, none⟩) HRK.out _).setCell (p := ⟨rk, 2, none⟩) HRK.out _
    have HR9 : Hid ((set3b w2 rk (.slice none 0 0) (.slice none 0 0) (.slice none 0 0)).heap[rk]? = some (.cells #[(.slice none 0 0), (.slice none 0 0), (.slice none 0 0)] 27 (0, 0))) := heap_setCell_same _ _ _ _ _ _ (heap_setCell_same _ _ _ _ _ _ (heap_setCell_same _ _ _ _ _ _ hz4))
    have z0 := cell_of_row _ _ 0 _ _ _ hz4
    have z1 := cell_of_row _ _ 1 _ _ _ hz4
    have z2 := cell_of_row _ _ 2 _ _ _ hz4
    have f0 := frozen_of_row _ _ 0 _ _ hz4
    have f1 := frozen_of_row _ _ 1 _ _ hz4
    have f2 := frozen_of_row _ _ 2 _ _ hz4
    clear hD hz4 hb7
    go_wp2_with fail
    exact bodyPost_ret (results_cell_t rfl _ _ rk 27 #[.slice none 0 0, .slice none 0 0, .slice none 0 0] (0, 0) _ rfl HR9.out Try.underlying27 rfl (by kernel_rfl)) rfl ⟨by rw [HE.out]; exact ⟨_, _, _, rfl, World.ownsRow_nil _ _ _ _, World.ownsRow_nil _ _ _ _, World.ownsRow_nil _ _ _ _, fun k hk => (by cases hk), fun k hk => (by cases hk)⟩, HB9.out⟩
  have HBL : Hid (bk < lo ∧ rk < lo ∧ w.heap.size ≤ lo) := by have := HBK.out; exact ⟨by omega, by omega, by omega⟩
  have HD := hidF hD
  have HT0 : Hid (diskP L S O ∧ actsF L O P = actsF L O (P.drop 0) ∧ ∀ o ∈ O, o.a.size ≤ 1100000 ∧ o.p.size ≤ 1100000 ∧ o.d.size ≤ 1100000) := ⟨hD, rfl, HOZ.out.sz⟩
  have HW0 := hidF hw0
  have HM0 : Hid (Below w.heap.size w w2 ∧ (w2.heap[bk]? = some (.cells #[.slice al L.length cl, .slice a2 S.length cs, .slice ao O.length co] 27 (0, 0)) ∧ w2.heap[rk]? = some (.cells #[.slice none 0 0, .slice none 0 0, .slice none 0 0] 27 (0, 0)))) := ⟨HB2.out, HX2.out⟩
  clear hD hw0 hlo1 hlo2 HB2 HX2
  go_wp2_with fail
  go_loopw [21] (fun y wr => ∃ (i : Nat) (v : Value) (M : List FlI) (R : List DqI), i ≤ P.length ∧ y = .int .i64 (i : Int) ∧ Hid (diskP M S R ∧ actsF L O P = actsF M R (P.drop i) ∧ ∀ o ∈ R, o.a.size ≤ 1100000 ∧ o.p.size ≤ 1100000 ∧ o.d.size ≤ 1100000) ∧ Hid (WdW wr lo wd p mb (.slice a2 S.length cs) v M R) ∧ Hid (Below w.heap.size w wr ∧ (wr.heap[bk]? = some (.cells #[.slice al L.length cl, .slice a2 S.length cs, .slice ao O.length co] 27 (0, 0)) ∧ wr.heap[rk]? = some (.cells #[.slice none 0 0, .slice none 0 0, .slice none 0 0] 27 (0, 0))))) (fun y _ => P.length - (intFl y).toNat)
  case atStart => exact ⟨0, v0, L, O, by omega, rfl, HT0, HW0, HM0⟩
  case round =>
    clear HT0 HW0 HM0
    rename World => W0
    obtain ⟨i, v, M, R, hi, rfl, HT, HW, HM⟩ := hrel
    by_cases hlt : i < P.length
    · have hltI : (i : Int) < (P.length : Int) := by omega
      obtain ⟨g, c, hap, hrow⟩ := HPR.out i _ hlt HM.out.1
      injection hap with e1 e2 e3
      subst e1 e3
      clear e2
      obtain ⟨q0, hq⟩ : ∃ q, q = 4 * i := ⟨_, rfl⟩
      have hiq : i * 4 = q0 := by omega
      have x0 := hrow.c0 i hlt
      have x1 := hrow.c1 i hlt
      have x2 := hrow.c2 i hlt
      have x3 := hrow.c3 i hlt
      rw [← hq] at x0 x1 x2 x3
      have HDR : Hid (actsF L O P = actsF M R (dqF P i :: P.drop (i + 1))) := by show _ = _; rw [← drop_at hlt]; exact HT.out.2.1
      have HSZ := hidF (HPZ.out.at hlt)
      have HIN := hidF hlt
      clear hrow hq
      generalize dqF P i = op at x0 x1 x2 x3 HDR HSZ
      obtain ⟨om, oa, oq, od⟩ := op
      simp only at x0 x1 x2 x3 HSZ
      have HBA : Hid (Below W0.heap.size W0 (W0.alloc (.cells #[.int .i64 om, .string oa, .string oq, .string od] 36))) := (Below.refl _ _).alloc (Nat.le_refl _) _
      have hWD := HWDO.out lo wd p mb v M R om oa oq od _ (HW.out.under HBA.out) HT.out.1.live HT.out.1.few HSZ.out.2.1 HSZ.out.2.2
      have HWD2 := hidF hWD
      clear hWD
      go_wp2_with fail
      refine HWD2.out.mono ?_
      rintro e w4 ⟨⟨cc, rfl, hst, hnx⟩, hb4⟩
      have HB4 : Hid (Below w.heap.size w w4) := (blFl HM.out.1 HBA.out HM.out.1.size).trans (hb4.mono HBL.out.2.2)
      have HX4 : Hid (w4.heap[bk]? = some (.cells #[.slice al L.length cl, .slice a2 S.length cs, .slice ao O.length co] 27 (0, 0)) ∧ w4.heap[rk]? = some (.cells #[.slice none 0 0, .slice none 0 0, .slice none 0 0] 27 (0, 0))) := ⟨(hb4.block bk HBL.out.1).trans ((Below.heap_alloc _ _ _ (Array.getElem?_eq_some_iff.1 HM.out.2.1).1).trans HM.out.2.1), (hb4.block rk HBL.out.2.1).trans ((Below.heap_alloc _ _ _ (Array.getElem?_eq_some_iff.1 HM.out.2.2).1).trans HM.out.2.2)⟩
      have hcd := stP_code hst
      clear hb4 x0 x1 x2 x3 HBA HWD2 hst
      by_cases hcc : cc = 0
      · obtain ⟨v5, hW5⟩ := hnx hcc
        have hgo : codeF M R.length ⟨om, oa, oq, od⟩ = 0 := by rw [← hcd]; exact hcc
        have HT5 : Hid (diskP (doG M ⟨om, oa, oq, od⟩) S (R ++ [⟨om, oa, oq, od⟩]) ∧ actsF L O P = actsF (doG M ⟨om, oa, oq, od⟩) (R ++ [⟨om, oa, oq, od⟩]) (P.drop (i + 1)) ∧ ∀ o ∈ R ++ [(⟨om, oa, oq, od⟩ : DqI)], o.a.size ≤ 1100000 ∧ o.p.size ≤ 1100000 ∧ o.d.size ≤ 1100000) := ⟨disk_next HT.out.1 hgo, by rw [HDR.out, acts_go hgo], fun o ho => (List.mem_append.1 ho).elim (HT.out.2.2 o) (fun ho => by rw [List.mem_singleton.1 ho]; exact HSZ.out)⟩
        have HW5 := hidF hW5
        have HM5 : Hid (Below w.heap.size w w4 ∧ (w4.heap[bk]? = some (.cells #[.slice al L.length cl, .slice a2 S.length cs, .slice ao O.length co] 27 (0, 0)) ∧ w4.heap[rk]? = some (.cells #[.slice none 0 0, .slice none 0 0, .slice none 0 0] 27 (0, 0)))) := ⟨HB4.out, HX4.out⟩
        subst hcc
        clear hW5 hgo hcd hnx HB4 HX4
        go_wp2_with fail
        go_roundw
        case rel => exact ⟨i + 1, v5, _, _, by have := HIN.out; omega, by go_num, HT5, HW5, HM5⟩
        case measure => simp [intFl]; have := HIN.out; omega
      · have hgo : codeF M R.length ⟨om, oa, oq, od⟩ ≠ 0 := by rw [← hcd]; exact hcc
        have hac : actsF L O P = (cc, M, R) := by rw [HDR.out, acts_no hgo, ← hcd]
        have HE : Hid (doA L S O P = ⟨L, S, O, cc⟩) := by show _ = _; rw [doA_no HD.out (by rw [hac]; exact hcc), hac]
        have hcb : (cc != 0) = true := by rw [bne_iff_ne]; exact hcc
        have hcb2 : (cc == 0) = false := beq_eq_false_iff_ne.2 hcc
        have c0 := cell_of_row _ _ 0 _ _ _ HX4.out.1
        have c1 := cell_of_row _ _ 1 _ _ _ HX4.out.1
        have c2 := cell_of_row _ _ 2 _ _ _ HX4.out.1
        clear hnx hcc hac hgo hcd
        go_wp2_with fail
        refine (HCD.out _ HB4.out).mono ?_
        rintro e w5 ⟨⟨u1, u2, u3, rfl, t1, t2, t3, t4, t5⟩, hb5⟩
        obtain ⟨x1, y1, rfl⟩ := ownF_slice t1
        obtain ⟨x2, y2, rfl⟩ := ownF_slice t2
        obtain ⟨x3, y3, rfl⟩ := ownQ_slice t3
        have HX5 : Hid (w5.heap[bk]? = some (.cells #[.slice al L.length cl, .slice a2 S.length cs, .slice ao O.length co] 27 (0, 0)) ∧ w5.heap[rk]? = some (.cells #[.slice none 0 0, .slice none 0 0, .slice none 0 0] 27 (0, 0))) := ⟨(hb5.block _ (Array.getElem?_eq_some_iff.1 HX4.out.1).1).trans HX4.out.1, (hb5.block _ (Array.getElem?_eq_some_iff.1 HX4.out.2).1).trans HX4.out.2⟩
        have HB5 := hidF (blFl HB4.out hb5 HB4.out.size)
        have HLO : w.heap.size ≤ w4.heap.size := HB4.out.size
        have hz4 := HX5.out.2
        have hb7 := HB5.out
        have HB9 : Hid (Below w.heap.size w (set3b w5 rk (.slice x1 L.length y1) (.slice x2 S.length y2) (.slice x3 O.length y3))) := ((hb7.setCell (p := ⟨rk, 0, none⟩) HRK.out _).setCell (p := ⟨rk, 1, none⟩) HRK.out _).setCell (p := ⟨rk, 2, none⟩) HRK.out _
        have HR9 : Hid ((set3b w5 rk (.slice x1 L.length y1) (.slice x2 S.length y2) (.slice x3 O.length y3)).heap[rk]? = some (.cells #[(.slice x1 L.length y1), (.slice x2 S.length y2), (.slice x3 O.length y3)] 27 (0, 0))) := heap_setCell_same _ _ _ _ _ _ (heap_setCell_same _ _ _ _ _ _ (heap_setCell_same _ _ _ _ _ _ hz4))
        have z0 := cell_of_row _ _ 0 _ _ _ hz4
        have z1 := cell_of_row _ _ 1 _ _ _ hz4
        have z2 := cell_of_row _ _ 2 _ _ _ hz4
        have f0 := frozen_of_row _ _ 0 _ _ hz4
        have f1 := frozen_of_row _ _ 1 _ _ hz4
        have f2 := frozen_of_row _ _ 2 _ _ hz4
        have HO9 : Hid (DoO w.heap.size ⟨L, S, O, cc⟩ (.returned (.tuple #[.agg #[(.slice x1 L.length y1), (.slice x2 S.length y2), (.slice x3 O.length y3)], .int .i64 cc])) (set3b w5 rk (.slice x1 L.length y1) (.slice x2 S.length y2) (.slice x3 O.length y3))) := ⟨_, _, _, rfl, own_set3b (ownF_base t1 HLO) hz4 (by decide), own_set3b (ownF_base t2 HLO) hz4 (by decide), own_set3b (ownF_base t3 HLO) hz4 (by decide), t4, t5⟩
        clear hb5 t1 t2 t3 t4 t5 hz4 hb7 c0 c1 c2 HLO HX4 HB4
        go_wp2_with fail
        exact bodyPost_ret (results_cell_t rfl _ _ rk 27 #[(.slice x1 L.length y1), (.slice x2 S.length y2), (.slice x3 O.length y3)] (0, 0) _ rfl HR9.out Try.underlying27 rfl (by kernel_rfl)) rfl ⟨by rw [HE.out]; exact HO9.out, HB9.out⟩
    · have hie : i = P.length := by omega
      have hltI : ¬ (i : Int) < (P.length : Int) := by omega
      have hac : actsF L O P = (0, M, R) := by rw [HT.out.2.1, hie, List.drop_length]; rfl
      have HE : Hid (doA L S O P = ⟨M, S, R, 0⟩) := by show _ = _; rw [doA_yes HD.out (by rw [hac]), hac]
      have hb2 := HM.out.1
      have HB2 := hidF HM.out.1
      have HX2 := hidF HM.out.2
      have HWK : Hid (Calls Try.prog 54 #[.pointer (some ⟨wd, 0, none⟩)] W0 fun e w' => DkO W0.heap.size W0 e w' M S R ∧ Below W0.heap.size W0 w') := wdisk_any W0 HW.out (HVS.out _ HM.out.1) (by have := HT.out.1.live.len; omega) HT.out.1.live.le HT.out.1.safe.le ⟨by have := HT.out.1.few; omega, HT.out.2.2⟩
      clear hac hie
      go_wp2_with fail
      refine HWK.out.mono ?_
      rintro e w5 ⟨⟨u1, u2, u3, rfl, t1, t2, t3, t4, t5⟩, hb5⟩
      obtain ⟨x1, y1, rfl⟩ := ownF_slice t1
      obtain ⟨x2, y2, rfl⟩ := ownF_slice t2
      obtain ⟨x3, y3, rfl⟩ := ownQ_slice t3
      have HX5 : Hid (w5.heap[bk]? = some (.cells #[.slice al L.length cl, .slice a2 S.length cs, .slice ao O.length co] 27 (0, 0)) ∧ w5.heap[rk]? = some (.cells #[.slice none 0 0, .slice none 0 0, .slice none 0 0] 27 (0, 0))) := ⟨(hb5.block _ (Array.getElem?_eq_some_iff.1 HX2.out.1).1).trans HX2.out.1, (hb5.block _ (Array.getElem?_eq_some_iff.1 HX2.out.2).1).trans HX2.out.2⟩
      have HB5 := hidF (blFl HB2.out hb5 HB2.out.size)
      have HLO : w.heap.size ≤ W0.heap.size := HB2.out.size
      have hz4 := HX5.out.2
      have hb7 := HB5.out
      have HB9 : Hid (Below w.heap.size w (set3b w5 rk (.slice x1 M.length y1) (.slice x2 S.length y2) (.slice x3 R.length y3))) := ((hb7.setCell (p := ⟨rk, 0, none⟩) HRK.out _).setCell (p := ⟨rk, 1, none⟩) HRK.out _).setCell (p := ⟨rk, 2, none⟩) HRK.out _
      have HR9 : Hid ((set3b w5 rk (.slice x1 M.length y1) (.slice x2 S.length y2) (.slice x3 R.length y3)).heap[rk]? = some (.cells #[(.slice x1 M.length y1), (.slice x2 S.length y2), (.slice x3 R.length y3)] 27 (0, 0))) := heap_setCell_same _ _ _ _ _ _ (heap_setCell_same _ _ _ _ _ _ (heap_setCell_same _ _ _ _ _ _ hz4))
      have z0 := cell_of_row _ _ 0 _ _ _ hz4
      have z1 := cell_of_row _ _ 1 _ _ _ hz4
      have z2 := cell_of_row _ _ 2 _ _ _ hz4
      have f0 := frozen_of_row _ _ 0 _ _ hz4
      have f1 := frozen_of_row _ _ 1 _ _ hz4
      have f2 := frozen_of_row _ _ 2 _ _ hz4
      have HO9 : Hid (DoO w.heap.size ⟨M, S, R, 0⟩ (.returned (.tuple #[.agg #[(.slice x1 M.length y1), (.slice x2 S.length y2), (.slice x3 R.length y3)], .int .i64 0])) (set3b w5 rk (.slice x1 M.length y1) (.slice x2 S.length y2) (.slice x3 R.length y3))) := ⟨_, _, _, rfl, own_set3b (ownF_base t1 HLO) hz4 (by decide), own_set3b (ownF_base t2 HLO) hz4 (by decide), own_set3b (ownF_base t3 HLO) hz4 (by decide), t4, t5⟩
      clear hb5 hb2 t1 t2 t3 t4 t5 hz4 hb7 HLO HX2 HB2
      go_wp2_with fail
      exact bodyPost_ret (results_cell_t rfl _ _ rk 27 #[(.slice x1 M.length y1), (.slice x2 S.length y2), (.slice x3 R.length y3)] (0, 0) _ rfl HR9.out Try.underlying27 rfl (by kernel_rfl)) rfl ⟨by rw [HE.out]; exact HO9.out, HB9.out⟩
end Go.Proofs.Ytanlggglbpibfaa

/-!   Do: the code's. -/
namespace Go.Proofs.Ytanlggglbpibfaa
open Go.RowKit
set_option linter.unusedVariables false
set_option linter.unusedSimpArgs false
theorem dqv_made (w : World) (m : Int) (a q d : ByteArray) : DqV (w.alloc (.cells #[.int .i64 m, .string a, .string q, .string d] 36)) (.slice (some ⟨w.heap.size, 0, none⟩) 1 1) [⟨m, a, q, d⟩] := by
  have h := heap_alloc_new w (.cells #[.int .i64 m, .string a, .string q, .string d] 36)
  refine Or.inr ⟨w.heap.size, 1, rfl, ⟨by rw [World.size_alloc]; omega, fun i hi => ?_, fun i hi => ?_, fun i hi => ?_, fun i hi => ?_⟩⟩ <;>
  · have hi : i < 1 := hi
    obtain rfl : i = 0 := by omega
    first | exact cell_of_row _ _ 0 _ _ _ h | exact cell_of_row _ _ 1 _ _ _ h | exact cell_of_row _ _ 2 _ _ _ h | exact cell_of_row _ _ 3 _ _ _ h
set_option maxRecDepth 100000 in
set_option maxHeartbeats 400000 in
theorem do15T_any (vL vS vO : Value) (L S : List FlI) (O : List DqI) (m : Int) (a q d : ByteArray) (w : World) (hL : FlLe L) (hS : FlLe S) (hO : DqLe O) (ha : a.size ≤ 1100000) (hq : q.size ≤ 1100000) (hd : d.size ≤ 1100000) (h1 : FlV w vL L) (h2 : FlV w vS S) (h3 : DqV w vO O) :
    Calls Try.prog 20 #[.agg #[vL, vS, vO], dqV m a q d] w fun e w' => DoO w.heap.size (doA L S O [⟨m, a, q, d⟩]) e w' ∧ Below w.heap.size w w' := by
  have HDA : Hid (∀ w' vP, Below w.heap.size w w' → DqV w' vP [⟨m, a, q, d⟩] → Calls Try.prog 58 #[.agg #[vL, vS, vO], vP] w' fun e w'' => DoO w'.heap.size (doA L S O [⟨m, a, q, d⟩]) e w'' ∧ Below w'.heap.size w' w'') := fun w' vP hb hp => doAll_any vL vS vO vP L S O _ w' hL hS hO ⟨by simp, fun o ho => by rw [List.mem_singleton.1 ho]; exact ⟨ha, hq, hd⟩⟩ (h1.below hb) (h2.below hb) (h3.below hb) hp
  obtain ⟨al, cl, rfl⟩ := h1.slice
  obtain ⟨a2, cs, rfl⟩ := h2.slice
  obtain ⟨ao, co, rfl⟩ := h3.slice
  have HX1 : Hid ((((w.alloc (.cells #[.slice al L.length cl, .slice a2 S.length cs, .slice ao O.length co] 27)).alloc (.cells #[.int .i64 m, .string a, .string q, .string d] 36)).alloc (.cells #[.slice none 0 0, .slice none 0 0, .slice none 0 0] 27)).heap[w.heap.size]? = some (.cells #[.slice al L.length cl, .slice a2 S.length cs, .slice ao O.length co] 27 (0, 0)) ∧ (((w.alloc (.cells #[.slice al L.length cl, .slice a2 S.length cs, .slice ao O.length co] 27)).alloc (.cells #[.int .i64 m, .string a, .string q, .string d] 36)).alloc (.cells #[.slice none 0 0, .slice none 0 0, .slice none 0 0] 27)).heap[w.heap.size + 1]? = some (.cells #[.int .i64 m, .string a, .string q, .string d] 36 (0, 0)) ∧ (((w.alloc (.cells #[.slice al L.length cl, .slice a2 S.length cs, .slice ao O.length co] 27)).alloc (.cells #[.int .i64 m, .string a, .string q, .string d] 36)).alloc (.cells #[.slice none 0 0, .slice none 0 0, .slice none 0 0] 27)).heap[w.heap.size + 2]? = some (.cells #[.slice none 0 0, .slice none 0 0, .slice none 0 0] 27 (0, 0))) := by
    have s1 : (w.alloc (.cells #[.slice al L.length cl, .slice a2 S.length cs, .slice ao O.length co] 27)).heap.size = w.heap.size + 1 := World.size_alloc _ _
    have s2 : ((w.alloc (.cells #[.slice al L.length cl, .slice a2 S.length cs, .slice ao O.length co] 27)).alloc (.cells #[.int .i64 m, .string a, .string q, .string d] 36)).heap.size = w.heap.size + 2 := by rw [World.size_alloc, s1]
    refine ⟨?_, ?_, ?_⟩
    · rw [Below.heap_alloc _ _ _ (by omega), Below.heap_alloc _ _ _ (by omega), heap_alloc_new]
    · rw [Below.heap_alloc _ _ _ (by omega)]
      have := heap_alloc_new (w.alloc (.cells #[.slice al L.length cl, .slice a2 S.length cs, .slice ao O.length co] 27)) (.cells #[.int .i64 m, .string a, .string q, .string d] 36)
      rw [s1] at this
      exact this
    · have := heap_alloc_new ((w.alloc (.cells #[.slice al L.length cl, .slice a2 S.length cs, .slice ao O.length co] 27)).alloc (.cells #[.int .i64 m, .string a, .string q, .string d] 36)) (.cells #[.slice none 0 0, .slice none 0 0, .slice none 0 0] 27)
      rw [s2] at this
      exact this
  have HB1 : Hid (Below w.heap.size w (((w.alloc (.cells #[.slice al L.length cl, .slice a2 S.length cs, .slice ao O.length co] 27)).alloc (.cells #[.int .i64 m, .string a, .string q, .string d] 36)).alloc (.cells #[.slice none 0 0, .slice none 0 0, .slice none 0 0] 27))) := (((Below.refl _ _).alloc (Nat.le_refl _) _).alloc (by simp) _).alloc (by simp; omega) _
  have HS1 : Hid ((((w.alloc (.cells #[.slice al L.length cl, .slice a2 S.length cs, .slice ao O.length co] 27)).alloc (.cells #[.int .i64 m, .string a, .string q, .string d] 36)).alloc (.cells #[.slice none 0 0, .slice none 0 0, .slice none 0 0] 27)).heap.size = w.heap.size + 3) := by show _ = _; rw [World.size_alloc, World.size_alloc, World.size_alloc]
  generalize doA L S O [⟨m, a, q, d⟩] = A at HDA ⊢
  unfold dqV
  clear hL hS hO ha hq hd h1 h2 h3
  go_enter Try.func20, Try.ntmps20
  go_wp2_with fail
  have hda := HDA.out (((((w.alloc (.cells #[.slice al L.length cl, .slice a2 S.length cs, .slice ao O.length co] 27)).alloc (.cells #[.int .i64 m, .string a, .string q, .string d] 36)).alloc (.cells #[.slice none 0 0, .slice none 0 0, .slice none 0 0] 27))).alloc (.cells #[.int .i64 m, .string a, .string q, .string d] 36)) (.slice (some ⟨(((w.alloc (.cells #[.slice al L.length cl, .slice a2 S.length cs, .slice ao O.length co] 27)).alloc (.cells #[.int .i64 m, .string a, .string q, .string d] 36)).alloc (.cells #[.slice none 0 0, .slice none 0 0, .slice none 0 0] 27)).heap.size, 0, none⟩) 1 1) (HB1.out.alloc HB1.out.size _) (dqv_made _ m a q d)
  have hb2 : Below (((w.alloc (.cells #[.slice al L.length cl, .slice a2 S.length cs, .slice ao O.length co] 27)).alloc (.cells #[.int .i64 m, .string a, .string q, .string d] 36)).alloc (.cells #[.slice none 0 0, .slice none 0 0, .slice none 0 0] 27)).heap.size (((w.alloc (.cells #[.slice al L.length cl, .slice a2 S.length cs, .slice ao O.length co] 27)).alloc (.cells #[.int .i64 m, .string a, .string q, .string d] 36)).alloc (.cells #[.slice none 0 0, .slice none 0 0, .slice none 0 0] 27)) (((((w.alloc (.cells #[.slice al L.length cl, .slice a2 S.length cs, .slice ao O.length co] 27)).alloc (.cells #[.int .i64 m, .string a, .string q, .string d] 36)).alloc (.cells #[.slice none 0 0, .slice none 0 0, .slice none 0 0] 27))).alloc (.cells #[.int .i64 m, .string a, .string q, .string d] 36)) := (Below.refl _ _).alloc (Nat.le_refl _) _
  rw [HS1.out] at hda
  generalize hw2 : ((((w.alloc (.cells #[.slice al L.length cl, .slice a2 S.length cs, .slice ao O.length co] 27)).alloc (.cells #[.int .i64 m, .string a, .string q, .string d] 36)).alloc (.cells #[.slice none 0 0, .slice none 0 0, .slice none 0 0] 27))).alloc (.cells #[.int .i64 m, .string a, .string q, .string d] 36) = w2 at hda hb2 ⊢
  have HX2 : Hid (w2.heap[w.heap.size + 2]? = some (.cells #[.slice none 0 0, .slice none 0 0, .slice none 0 0] 27 (0, 0))) := (hb2.block _ (Array.getElem?_eq_some_iff.1 HX1.out.2.2).1).trans HX1.out.2.2
  have HB2 := hidF (blFl HB1.out hb2 HB1.out.size)
  clear hw2 hb2 HX1 HB1 HS1
  obtain ⟨pk, hpk⟩ : ∃ pk, pk = w.heap.size + 3 := ⟨_, rfl⟩
  rw [← hpk] at hda ⊢
  clear hpk
  obtain ⟨rk, hrk⟩ : ∃ rk, rk = w.heap.size + 2 := ⟨_, rfl⟩
  have HRK : Hid (w.heap.size ≤ rk) := by show _ ≤ _; omega
  rw [← hrk] at HX2 ⊢
  clear hrk
  refine hda.mono ?_
  rintro e w3 ⟨⟨u1, u2, u3, rfl, t1, t2, t3, t4, t5⟩, hb3⟩
  obtain ⟨x1, y1, rfl⟩ := ownF_slice t1
  obtain ⟨x2, y2, rfl⟩ := ownF_slice t2
  obtain ⟨x3, y3, rfl⟩ := ownQ_slice t3
  have hz4 := (hb3.block _ (Array.getElem?_eq_some_iff.1 HX2.out).1).trans HX2.out
  have hb7 := blFl HB2.out hb3 HB2.out.size
  have HLO := HB2.out.size
  have HB9 : Hid (Below w.heap.size w (set3b w3 rk (.slice x1 A.l.length y1) (.slice x2 A.s.length y2) (.slice x3 A.o.length y3))) := ((hb7.setCell (p := ⟨rk, 0, none⟩) HRK.out _).setCell (p := ⟨rk, 1, none⟩) HRK.out _).setCell (p := ⟨rk, 2, none⟩) HRK.out _
  have HR9 : Hid ((set3b w3 rk (.slice x1 A.l.length y1) (.slice x2 A.s.length y2) (.slice x3 A.o.length y3)).heap[rk]? = some (.cells #[(.slice x1 A.l.length y1), (.slice x2 A.s.length y2), (.slice x3 A.o.length y3)] 27 (0, 0))) := heap_setCell_same _ _ _ _ _ _ (heap_setCell_same _ _ _ _ _ _ (heap_setCell_same _ _ _ _ _ _ hz4))
  have z0 := cell_of_row _ _ 0 _ _ _ hz4
  have z1 := cell_of_row _ _ 1 _ _ _ hz4
  have z2 := cell_of_row _ _ 2 _ _ _ hz4
  have f0 := frozen_of_row _ _ 0 _ _ hz4
  have f1 := frozen_of_row _ _ 1 _ _ hz4
  have f2 := frozen_of_row _ _ 2 _ _ hz4
  have HO9 : Hid (DoO w.heap.size A (.returned (.tuple #[.agg #[.slice x1 A.l.length y1, .slice x2 A.s.length y2, .slice x3 A.o.length y3], .int .i64 A.c])) (set3b w3 rk (.slice x1 A.l.length y1) (.slice x2 A.s.length y2) (.slice x3 A.o.length y3))) := ⟨_, _, _, rfl, own_set3b (ownF_base t1 HLO) hz4 (by decide), own_set3b (ownF_base t2 HLO) hz4 (by decide), own_set3b (ownF_base t3 HLO) hz4 (by decide), t4, t5⟩
  clear hb3 t1 t2 t3 t4 t5 hz4 hb7 hda HLO HX2 HB2
  go_wp2_with fail
  exact bodyPost_ret (results_cell_t rfl _ _ rk 27 #[.slice x1 A.l.length y1, .slice x2 A.s.length y2, .slice x3 A.o.length y3] (0, 0) _ rfl HR9.out Try.underlying27 rfl (by kernel_rfl)) rfl ⟨by exact HO9.out, HB9.out⟩
end Go.Proofs.Ytanlggglbpibfaa
