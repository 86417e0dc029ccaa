/-
  The specification's reader of ranges, in words of 32 bits: plain mathematics.
-/
import Derived.Test.YtibciflmalfbjaaPkD
namespace Go.Proofs.Ytibciflmalfbjaa
open Go.RowKit
set_option linter.unusedVariables false
set_option linter.unusedSimpArgs false
/-- the shifts behind a choice, in 32 bits -/
def snrm : Nat → Nat → List Nat → Bool × Nat × Nat × List Nat
  | w, c, [] => (decide (16777216 ≤ w), w, c, [])
  | w, c, b :: r => if w < 16777216 then snrm (w * 256) ((c * 256 + b) % 4294967296) r else (true, w, c, b :: r)
theorem snrm_done {w c : Nat} {l : List Nat} (h : 16777216 ≤ w) : snrm w c l = (true, w, c, l) := by
  cases l with
  | nil => simp [snrm, h]
  | cons b r => rw [snrm, if_neg (by omega)]
theorem snrm_step {w c b : Nat} {r : List Nat} (h : w < 16777216) : snrm w c (b :: r) = snrm (w * 256) ((c * 256 + b) % 4294967296) r := by rw [snrm, if_pos h]
theorem snrm_end {w c : Nat} (h : w < 16777216) : snrm w c [] = (false, w, c, []) := by
  rw [snrm, decide_eq_false (by omega)]
theorem snrm_fine {w c : Nat} {l : List Nat} (hw : w < 4294967296) (hc : c < 4294967296) (hl : ∀ x ∈ l, x < 256) : (snrm w c l).2.1 < 4294967296 ∧ (snrm w c l).2.2.1 < 4294967296 ∧ ∀ x ∈ (snrm w c l).2.2.2, x < 256 := by
  induction l generalizing w c with
  | nil => exact ⟨hw, hc, hl⟩
  | cons b r ih =>
    by_cases h : w < 16777216
    · rw [snrm_step h]
      exact ih (by omega) (by omega) (fun x hx => hl x (List.mem_cons_of_mem _ hx))
    · rw [snrm_done (by omega)]; exact ⟨hw, hc, hl⟩
theorem snrm_nrm {w c : Nat} {l : List Nat} (hw : w < 4294967296) (hc : c < w) (hl : ∀ x ∈ l, x < 256) : snrm w c l = nrm w c l ∧ (nrm w c l).2.2.1 < (nrm w c l).2.1 := by
  induction l generalizing w c with
  | nil => exact ⟨rfl, hc⟩
  | cons b r ih =>
    have hb := hl b (List.mem_cons_self ..)
    by_cases h : w < 16777216
    · rw [snrm_step h, nrm_step h]
      have e1 : (c * 256 + b) % 4294967296 = c * 256 + b := Nat.mod_eq_of_lt (by omega)
      have e2 : min (c * 256 + b) (w * 256) = c * 256 + b := by omega
      rw [e1, e2]
      exact ih (by omega) (by omega) (fun x hx => hl x (List.mem_cons_of_mem _ hx))
    · rw [snrm_done (by omega), nrm_done (by omega)]; exact ⟨rfl, hc⟩
def snx (s : DS) (x : Nat) : Bool × Nat × Nat × List Nat := snrm (s.w1 x) (s.c1 x) s.rest
def sgo (sb : DS × Bool) (x : Nat) : DS × Bool := if sb.2 = true then sb else (⟨(snx sb.1 x).2.1, (snx sb.1 x).2.2.1, sb.1.pr x, (snx sb.1 x).2.2.2⟩, !(snx sb.1 x).1)
def stell (sb : DS × Bool) (x : Nat) : Nat := if sb.2 = true then 0 else if (snx sb.1 x).1 = true then sb.1.bit x else 0
def sbitR (s : DS × Bool) (c _ : Nat) : Nat := stell s c
def snxtR (s : DS × Bool) (c _ : Nat) : DS × Bool := sgo s c
theorem stell_lt (sb : DS × Bool) (x : Nat) : stell sb x < 2 := by
  unfold stell DS.bit
  split
  · omega
  · split
    · split <;> omega
    · omega
theorem sgo_fine {sb : DS × Bool} (h : sb.1.Fine) (x : Nat) : (sgo sb x).1.Fine := by
  unfold sgo
  split
  · exact h
  · have hb := DS.bd_le h x
    have h1 : sb.1.w1 x < 4294967296 := by have := h.w; unfold DS.w1; split <;> omega
    have h2 : sb.1.c1 x < 4294967296 := by have := h.c; unfold DS.c1; split <;> omega
    obtain ⟨a, b, c⟩ := snrm_fine h1 h2 h.r
    refine ⟨a, b, fun j => ?_, c⟩
    show 1 ≤ sb.1.pr x j ∧ sb.1.pr x j ≤ 2047
    unfold DS.pr; split
    · exact movP_in _ (h.p x)
    · exact h.p j
theorem snx_nx {s : DS} (h : s.Fine) (hc : s.code < s.width) (x : Nat) : snx s x = s.nx x ∧ (s.go x).code < (s.go x).width := by
  have hb := DS.bd_le h x
  have h1 : s.w1 x < 4294967296 := by have := h.w; unfold DS.w1; split <;> omega
  have h2 : s.c1 x < s.w1 x := by unfold DS.c1 DS.w1; split <;> omega
  obtain ⟨a, b⟩ := snrm_nrm h1 h2 h.r
  exact ⟨a, b⟩
/-- the two readers go alike as long as the code's goes on -/
def Sim (sd sc : DS × Bool) : Prop := sc.2 = true → sd = (sc.1, false) ∧ sc.1.Fine ∧ sc.1.code < sc.1.width
theorem sim_step {sd sc : DS × Bool} (h : Sim sd sc) (c t : Nat) : Sim (snxtR sd c t) (nxtR sc c t) ∧ ((nxtR sc c t).2 = true → sbitR sd c t = bitR sc c t) := by
  constructor
  · intro hk
    have hk2 : sc.2 = true ∧ sc.1.ok c = true := by
      have : (sc.2 && sc.1.ok c) = true := hk
      simpa using this
    obtain ⟨e, hf, hc⟩ := h hk2.1
    obtain ⟨e1, e2⟩ := snx_nx hf hc c
    refine ⟨?_, hf.go c, e2⟩
    have hs : sgo (sc.1, false) c = (⟨(snx sc.1 c).2.1, (snx sc.1 c).2.2.1, sc.1.pr c, (snx sc.1 c).2.2.2⟩, !(snx sc.1 c).1) := by unfold sgo; rw [if_neg (by simp)]
    have h3 : (sc.1.nx c).1 = true := hk2.2
    rw [e]
    show sgo (sc.1, false) c = (sc.1.go c, false)
    rw [hs, e1, h3]; rfl
  · intro hk
    have hk2 : sc.2 = true ∧ sc.1.ok c = true := by
      have : (sc.2 && sc.1.ok c) = true := hk
      simpa using this
    obtain ⟨e, hf, hc⟩ := h hk2.1
    obtain ⟨e1, e2⟩ := snx_nx hf hc c
    rw [e]
    show stell (sc.1, false) c = sc.1.tell c
    unfold stell DS.tell
    rw [if_neg (by simp), e1, if_pos (show (sc.1.nx c).1 = true from hk2.2), if_pos hk2.2]
theorem nxtR_mono {sc : DS × Bool} {c t : Nat} (h : (nxtR sc c t).2 = true) : sc.2 = true := by
  have : (sc.2 && sc.1.ok c) = true := h
  simp at this
  exact this.1
theorem thR_mono (f : Nat) (v : Int) : ∀ (k nd : Nat) (sc : DS × Bool), (thT bitR nxtR f v k nd sc).1.2 = true → sc.2 = true
  | 0, _, _, h => h
  | k + 1, nd, sc, h => nxtR_mono (thR_mono f v k _ _ h)
theorem thT_sim (f : Nat) (v : Int) : ∀ (k nd : Nat) (sd sc : DS × Bool), Sim sd sc → (thT bitR nxtR f v k nd sc).1.2 = true → (thT sbitR snxtR f v k nd sd).2 = (thT bitR nxtR f v k nd sc).2 ∧ Sim (thT sbitR snxtR f v k nd sd).1 (thT bitR nxtR f v k nd sc).1
  | 0, _, _, _, h, _ => ⟨rfl, h⟩
  | k + 1, nd, sd, sc, h, hk => by
    have hk2 := thR_mono f v k _ _ hk
    obtain ⟨h1, h2⟩ := sim_step h (f + nd) (tvT v k)
    have e := h2 hk2
    show (thT sbitR snxtR f v k (2 * nd + sbitR sd (f + nd) (tvT v k)) (snxtR sd (f + nd) (tvT v k))).2 = _ ∧ Sim (thT sbitR snxtR f v k (2 * nd + sbitR sd (f + nd) (tvT v k)) (snxtR sd (f + nd) (tvT v k))).1 _
    rw [e]
    exact thT_sim f v k _ _ _ h1 hk
/-- the token that the specification reads -/
def smTok (s : DS × Bool) (a : Nat) : (DS × Bool) × TkN := thTok sbitR snxtR a 0 0 0 0 s
def tkOf (x y z : Nat) : TkN := ⟨1, 0, (y - 2 ^ 6) * 64 + (z - 2 ^ 6) + 1, x - 2 ^ 6 + 3⟩
theorem thTok_byte {σ : Type} {bit : σ → Nat → Nat → Nat} {nxt : σ → Nat → Nat → σ} {a k : Nat} {b d l : Int} {s : σ} (h : bit s a k = 0) : thTok bit nxt a k b d l s = ((thT bit nxt 1 b 8 1 (nxt s a k)).1, ⟨0, (thT bit nxt 1 b 8 1 (nxt s a k)).2 - 2 ^ 8, 0, 0⟩) := by
  unfold thTok; rw [if_pos h]
theorem thTok_copy {σ : Type} {bit : σ → Nat → Nat → Nat} {nxt : σ → Nat → Nat → σ} {a k : Nat} {b d l : Int} {s : σ} (h : bit s a k ≠ 0) : thTok bit nxt a k b d l s = ((thT bit nxt 400 ((d - 1).tmod 64) 6 1 (thT bit nxt 330 ((d - 1).tdiv 64) 6 1 (thT bit nxt 260 (l - 3) 6 1 (nxt s a k)).1).1).1, tkOf (thT bit nxt 260 (l - 3) 6 1 (nxt s a k)).2 (thT bit nxt 330 ((d - 1).tdiv 64) 6 1 (thT bit nxt 260 (l - 3) 6 1 (nxt s a k)).1).2 (thT bit nxt 400 ((d - 1).tmod 64) 6 1 (thT bit nxt 330 ((d - 1).tdiv 64) 6 1 (thT bit nxt 260 (l - 3) 6 1 (nxt s a k)).1).1).2) := by
  unfold thTok; rw [if_neg h]; rfl
theorem smTok_sim {sd sc : DS × Bool} (h : Sim sd sc) (a : Nat) (hk : (mkTok sc a).1.2 = true) : (smTok sd a).2 = (mkTok sc a).2 ∧ Sim (smTok sd a).1 (mkTok sc a).1 := by
  obtain ⟨h1, h2⟩ := sim_step h a 0
  by_cases hb : bitR sc a 0 = 0
  · have em : mkTok sc a = _ := thTok_byte hb
    rw [em] at hk ⊢
    simp only at hk
    have hk2 := thR_mono _ _ _ _ _ hk
    have es : smTok sd a = _ := thTok_byte ((h2 hk2).trans hb)
    obtain ⟨a1, a2⟩ := thT_sim 1 0 8 1 _ _ h1 hk
    rw [es]
    simp only
    exact ⟨by rw [a1], a2⟩
  · have em : mkTok sc a = _ := thTok_copy hb
    rw [em] at hk ⊢
    simp only at hk
    have hk4 := thR_mono _ _ _ _ _ hk
    have hk3 := thR_mono _ _ _ _ _ hk4
    have hk2 := thR_mono _ _ _ _ _ hk3
    have es : smTok sd a = _ := thTok_copy (fun c => hb ((h2 hk2).symm.trans c))
    obtain ⟨a1, a2⟩ := thT_sim 260 (0 - 3) 6 1 _ _ h1 hk3
    obtain ⟨b1, b2⟩ := thT_sim 330 ((0 - 1 : Int).tdiv 64) 6 1 _ _ a2 hk4
    obtain ⟨c1, c2⟩ := thT_sim 400 ((0 - 1 : Int).tmod 64) 6 1 _ _ b2 hk
    rw [es]
    simp only
    refine ⟨?_, c2⟩
    rw [a1, b1, c1]
theorem smTok_k (s : DS × Bool) (a : Nat) : (smTok s a).2.k < 2 := by
  unfold smTok thTok
  split
  · show (0 : Nat) < 2; decide
  · show (1 : Nat) < 2; decide
/-- what the specification makes of the tokens that it reads -/
noncomputable def srun (n : Nat) : Nat → DS × Bool → Nat → List Nat → Option (List Nat)
  | 0, s, _, o => if s.2 = true then none else some o
  | k + 1, s, a, o => if s.2 = true then none else if n ≤ o.length then some o else
      if (smTok s a).2.k = 0 then srun n k (smTok s a).1 0 (o ++ [(smTok s a).2.b]) else
      if (smTok s a).2.d ≤ o.length ∧ o.length + (smTok s a).2.l ≤ n then srun n k (smTok s a).1 1 (cpI (smTok s a).2.d o (smTok s a).2.l) else none
theorem srun_bad {n k a : Nat} {s : DS × Bool} {o : List Nat} (h : s.2 = true) : srun n k s a o = none := by
  cases k with
  | zero => unfold srun; rw [if_pos h]
  | succ k => unfold srun; rw [if_pos h]
theorem srun_end {n k a : Nat} {s : DS × Bool} {o : List Nat} (h : s.2 = false) (h2 : n ≤ o.length) : srun n k s a o = some o := by
  cases k with
  | zero => unfold srun; rw [if_neg (by rw [h]; decide)]
  | succ k => unfold srun; rw [if_neg (by rw [h]; decide), if_pos h2]
theorem srun_byte {n k a : Nat} {s : DS × Bool} {o : List Nat} (h : s.2 = false) (h2 : o.length < n) (h3 : (smTok s a).2.k = 0) : srun n (k + 1) s a o = srun n k (smTok s a).1 0 (o ++ [(smTok s a).2.b]) := by
  conv => lhs; unfold srun
  rw [if_neg (by rw [h]; decide), if_neg (by omega), if_pos h3]
theorem srun_copy {n k a : Nat} {s : DS × Bool} {o : List Nat} (h : s.2 = false) (h2 : o.length < n) (h3 : (smTok s a).2.k ≠ 0) (h4 : (smTok s a).2.d ≤ o.length) (h5 : o.length + (smTok s a).2.l ≤ n) : srun n (k + 1) s a o = srun n k (smTok s a).1 1 (cpI (smTok s a).2.d o (smTok s a).2.l) := by
  conv => lhs; unfold srun
  rw [if_neg (by rw [h]; decide), if_neg (by omega), if_neg h3, if_pos ⟨h4, h5⟩]
theorem srun_not {n k a : Nat} {s : DS × Bool} {o : List Nat} (h : s.2 = false) (h2 : o.length < n) (h3 : (smTok s a).2.k ≠ 0) (h4 : ¬ ((smTok s a).2.d ≤ o.length ∧ o.length + (smTok s a).2.l ≤ n)) : srun n (k + 1) s a o = none := by
  conv => lhs; unfold srun
  rw [if_neg (by rw [h]; decide), if_neg (by omega), if_neg h3, if_neg h4]
theorem srun_len {n : Nat} : ∀ (k : Nat) (s : DS × Bool) (a : Nat) (o o' : List Nat), o.length ≤ n → srun n k s a o = some o' → o'.length ≤ n
  | 0, s, a, o, o', h, e => by
    unfold srun at e
    split at e
    · cases e
    · cases e; exact h
  | k + 1, s, a, o, o', h, e => by
    unfold srun at e
    split at e
    · cases e
    · split at e
      · cases e; exact h
      · split at e
        · exact srun_len k _ _ _ _ (by rw [List.length_append]; show _ + 1 ≤ _; omega) e
        · split at e
          · rename_i hc
            exact srun_len k _ _ _ _ (by rw [cpI_len]; exact hc.2) e
          · cases e
theorem mkRun_len {n : Nat} : ∀ (k : Nat) (s : DS × Bool) (a : Nat) (o o' : List Nat), mkRun n k s a o = some o' → o.length ≤ o'.length
  | 0, s, a, o, o', e => by
    unfold mkRun at e
    cases e; exact Nat.le_refl _
  | k + 1, s, a, o, o', e => by
    by_cases hn : n ≤ o.length
    · rw [mkRun_enough hn] at e; cases e; exact Nat.le_refl _
    · cases hst : mkStep s a o with
      | none => rw [mkRun_none (by omega) hst] at e; cases e
      | some q =>
        obtain ⟨s1, a1, o1⟩ := q
        rw [mkRun_some (by omega) hst] at e
        have h1 := mkRun_len k _ _ _ _ e
        unfold mkStep at hst
        split at hst
        · rename_i hc
          injection hst with q1
          injection q1 with q2 q3
          injection q3 with q4 q5
          have := tkOut_more (t := ⟨((mkTok s a).2.k : Int), ((mkTok s a).2.b : Int), ((mkTok s a).2.d : Int), ((mkTok s a).2.l : Int)⟩) hc.2
          rw [q5] at this
          omega
        · cases hst
theorem srun_made {n : Nat} {dd : List Nat} (hdd : dd.length ≤ n) : ∀ (k : Nat) (sd sc : DS × Bool) (a : Nat) (o : List Nat), Sim sd sc → sc.2 = true → mkRun n k sc a o = some dd → n ≤ o.length + k → srun n k sd a o = some dd
  | 0, sd, sc, a, o, hs, hc, e, hk => by
    have h0 := (hs hc).1
    rw [mkRun_enough (by omega)] at e
    rw [srun_end (by rw [h0]) (by omega), e]
  | k + 1, sd, sc, a, o, hs, hc, e, hk => by
    have h0 := (hs hc).1
    have hf : sd.2 = false := by rw [h0]
    by_cases hn : n ≤ o.length
    · rw [mkRun_enough hn] at e
      rw [srun_end hf hn, e]
    · cases hst : mkStep sc a o with
      | none => rw [mkRun_none (by omega) hst] at e; cases e
      | some q =>
        obtain ⟨s1, a1, o1⟩ := q
        rw [mkRun_some (by omega) hst] at e
        have hlen := mkRun_len k _ _ _ _ e
        unfold mkStep at hst
        split at hst
        · rename_i hcc
          injection hst with q1
          injection q1 with q2 q3
          injection q3 with q4 q5
          have hmore := tkOut_more (t := ⟨((mkTok sc a).2.k : Int), ((mkTok sc a).2.b : Int), ((mkTok sc a).2.d : Int), ((mkTok sc a).2.l : Int)⟩) hcc.2
          rw [q5] at hmore
          obtain ⟨t1, t2⟩ := smTok_sim hs a hcc.1
          subst q2
          have htp := hcc.2
          have hk2 := mkTok_k sc a
          rw [← t1] at q4 q5 htp hk2
          obtain ⟨T, hT⟩ : ∃ T, T = (smTok sd a).2 := ⟨_, rfl⟩
          rw [← hT] at q4 q5 htp hk2
          by_cases h3 : T.k = 0
          · have eo : o1 = o ++ [T.b] := by rw [← q5]; unfold tkOut; rw [if_pos (by simp [h3])]; simp
            rw [srun_byte hf (by omega) (by rw [← hT]; exact h3), ← hT, ← eo]
            rw [h3] at q4
            subst q4
            exact srun_made hdd k _ _ 0 o1 t2 hcc.1 e (by omega)
          · have h31 : T.k = 1 := by omega
            obtain ⟨_, ⟨c1, _⟩ | ⟨c1, c2, c3, c4, c5, c6, c7⟩⟩ := htp
            · omega
            have eo : o1 = cpI T.d o T.l := by rw [← q5]; unfold tkOut; rw [if_neg (by simp [h31])]; simp
            have el : o1.length = o.length + T.l := by rw [eo, cpI_len]
            rw [srun_copy hf (by omega) (by rw [← hT]; omega) (by rw [← hT]; omega) (by rw [← hT]; omega), ← hT, ← eo]
            rw [h31] at q4
            subst q4
            exact srun_made hdd k _ _ 1 o1 t2 hcc.1 e (by omega)
        · cases hst
noncomputable def sunp (S : ByteArray) : Option ByteArray := open Classical in match numI S with
  | none => none
  | some (n, R) => if 4000 < n then none else if startOk R then (match srun n n (DS.start (code0 R) (bl (rest0 R)), false) 0 [] with
    | none => none
    | some o => if pckB (strL o) = S then some (strL o) else none) else none
theorem sunp_some {S d : ByteArray} (h : sunp S = some d) : d.size ≤ 4000 ∧ pckB d = S := by
  unfold sunp at h
  split at h
  · cases h
  · rename_i n R _
    split at h
    · cases h
    · split at h
      · split at h
        · cases h
        · rename_i o ho
          split at h
          · rename_i hc
            cases h
            have := srun_len n _ _ [] _ (Nat.zero_le _) ho
            exact ⟨by rw [strL_size]; omega, hc⟩
          · cases h
      · cases h
theorem sunp_pack {d : ByteArray} (hd : d.size ≤ 4000) : sunp (pckB d) = some d := by
  have h : num (pckB d) = some ((d.size : Int), (put d.size).length) := num_put d.size (by omega) (pckR d)
  have hext : (pckB d).extract (put d.size).length (pckB d).size = pckR d := ext_tail2 _ _
  have h2 := numI_some h (by omega)
  rw [hext, Int.toNat_natCast] at h2
  have hok := (choS_chOk hd).2
  have hes := enc_start (chF (choS d)) (choS d).length hok
  rw [chL_chF] at hes
  obtain ⟨hst, hAt⟩ := hes
  have hst' : startOk (pckR d) := hst
  have hm := made_pack hd
  unfold made at hm
  rw [if_pos hst'] at hm
  have hsim : Sim (DS.start (code0 (pckR d)) (bl (rest0 (pckR d))), false) (DS.start (code0 (pckR d)) (bl (rest0 (pckR d))), true) := fun _ => ⟨rfl, DS.start_fine (pt4_lt (bsOf_lt _) 0) (bl_lt _), hAt.lt⟩
  have hr := srun_made (n := d.size) (by rw [bytesL_len]; exact Nat.le_refl _) d.size _ _ 0 [] hsim rfl hm (by omega)
  unfold sunp
  rw [h2]
  simp only []
  rw [if_neg (by omega), if_pos hst', hr]
  simp only []
  rw [strL_bytes, if_pos rfl]
theorem sunp_unp (S : ByteArray) : sunp S = unp S := by
  cases h : unp S with
  | some d =>
    obtain ⟨h1, h2⟩ := unp_some h
    rw [← h2]; exact sunp_pack h1
  | none =>
    cases h2 : sunp S with
    | none => rfl
    | some d =>
      obtain ⟨a, b⟩ := sunp_some h2
      rw [← b, unp_pack a] at h; cases h
end Go.Proofs.Ytibciflmalfbjaa
