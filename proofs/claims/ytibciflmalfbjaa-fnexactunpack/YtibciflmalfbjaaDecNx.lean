/-
  Coding of ranges as plain mathematics: one choice of a coder that reads, at any bytes; at bytes that were written it reads what was written.
-/
import Derived.Test.YtibciflmalfbjaaDecMath
namespace Go.Proofs.Ytibciflmalfbjaa
set_option linter.unusedVariables false

/-- a coder that reads -/
structure DS where
  width : Nat
  code : Nat
  probs : Nat → Nat
  rest : List Nat
/-- the shifts behind a choice: whether the bytes were there, width, code, what is left -/
def nrm : Nat → Nat → List Nat → Bool × Nat × Nat × List Nat
  | w, c, [] => (decide (16777216 ≤ w), w, c, [])
  | w, c, b :: r => if w < 16777216 then nrm (w * 256) (min (c * 256 + b) (w * 256)) r else (true, w, c, b :: r)
theorem nrm_done {w c : Nat} {l : List Nat} (h : 16777216 ≤ w) : nrm w c l = (true, w, c, l) := by
  cases l with
  | nil => simp [nrm, h]
  | cons b r => rw [nrm, if_neg (by omega)]
theorem nrm_step {w c b : Nat} {r : List Nat} (h : w < 16777216) : nrm w c (b :: r) = nrm (w * 256) (min (c * 256 + b) (w * 256)) r := by rw [nrm, if_pos h]
theorem nrm_end {w c : Nat} (h : w < 16777216) : nrm w c [] = (false, w, c, []) := by
  rw [nrm, decide_eq_false (by omega)]
def DS.bd (s : DS) (x : Nat) : Nat := s.width / 2048 * s.probs x
def DS.bit (s : DS) (x : Nat) : Nat := if s.code < s.bd x then 0 else 1
def DS.w1 (s : DS) (x : Nat) : Nat := if s.code < s.bd x then s.bd x else s.width - s.bd x
def DS.c1 (s : DS) (x : Nat) : Nat := if s.code < s.bd x then s.code else s.code - s.bd x
def DS.pr (s : DS) (x j : Nat) : Nat := if j = x then movP (s.probs x) (s.bit x) else s.probs j
def DS.nx (s : DS) (x : Nat) : Bool × Nat × Nat × List Nat := nrm (s.w1 x) (s.c1 x) s.rest
def DS.ok (s : DS) (x : Nat) : Bool := (s.nx x).1
def DS.tell (s : DS) (x : Nat) : Nat := if s.ok x then s.bit x else 0
def DS.go (s : DS) (x : Nat) : DS := ⟨(s.nx x).2.1, (s.nx x).2.2.1, s.pr x, (s.nx x).2.2.2⟩
structure DS.Fine (s : DS) : Prop where
  w : s.width < 4294967296
  c : s.code < 4294967296
  p : ∀ j, 1 ≤ s.probs j ∧ s.probs j ≤ 2047
  r : ∀ x ∈ s.rest, x < 256
theorem nrm_fine {w c : Nat} {l : List Nat} (hw : w < 4294967296) (hc : c < 4294967296) (hl : ∀ x ∈ l, x < 256) : (nrm w c l).2.1 < 4294967296 ∧ (nrm w c l).2.2.1 < 4294967296 ∧ ∀ x ∈ (nrm w c l).2.2.2, x < 256 := by
  induction l generalizing w c with
  | nil => exact ⟨hw, hc, hl⟩
  | cons b r ih =>
    by_cases h : w < 16777216
    · rw [nrm_step h]
      exact ih (by omega) (by omega) (fun x hx => hl x (List.mem_cons_of_mem _ hx))
    · rw [nrm_done (by omega)]; exact ⟨hw, hc, hl⟩
theorem DS.bd_le {s : DS} (h : s.Fine) (x : Nat) : s.bd x ≤ s.width := by
  have h2 := (h.p x).2
  unfold DS.bd
  have a2 : s.width / 2048 * s.probs x ≤ s.width / 2048 * 2047 := Nat.mul_le_mul_left _ h2
  omega
theorem DS.Fine.go {s : DS} (h : s.Fine) (x : Nat) : (s.go x).Fine := by
  have hb := DS.bd_le h x
  have h1 : s.w1 x < 4294967296 := by have := h.w; unfold DS.w1; split <;> omega
  have h2 : s.c1 x < 4294967296 := by have := h.c; unfold DS.c1; split <;> omega
  obtain ⟨a, b, c⟩ := nrm_fine h1 h2 h.r
  refine ⟨a, b, fun j => ?_, c⟩
  show 1 ≤ s.pr x j ∧ s.pr x j ≤ 2047
  unfold DS.pr; split
  · exact movP_in _ (h.p x)
  · exact h.p j
def DS.start (c : Nat) (r : List Nat) : DS := ⟨4294967295, c, fun _ => 1024, r⟩
theorem DS.start_fine {c : Nat} {r : List Nat} (hc : c < 4294967296) (hr : ∀ x ∈ r, x < 256) : (DS.start c r).Fine := ⟨by show 4294967295 < 4294967296; omega, hc, fun j => ⟨by show 1 ≤ 1024; omega, by show 1024 ≤ 2047; omega⟩, hr⟩

theorem shw_probs (s : RS) : s.shw.probs = s.probs := by unfold RS.shw RS.sh; split <;> rfl
theorem norm1_probs (s : RS) : s.norm1.probs = s.probs := by unfold RS.norm1; split; exact shw_probs s; rfl
theorem put_probs (s : RS) (x b : Nat) : (s.put x b).probs = s.moved x b := by
  unfold RS.put RS.norm
  rw [norm1_probs, norm1_probs]
  unfold RS.pre; split <;> rfl
theorem nrm_at1 {X : Nat} {Y : List Nat} {s t : RS} {code k : Nat} {rest : List Nat} (hX : X = val Y) (hb : ∀ x ∈ Y, x < 256) (h : At X Y s code rest) (hf : s.Fine) (hs : s.norm1.Sub t k) (hY : Y.length = t.out.length + 4) :
    ∃ c r, At X Y s.norm1 c r ∧ nrm s.width code rest = nrm s.norm1.width c r := by
  by_cases hw : s.width < 16777216
  · have e : s.norm1 = s.shw := by unfold RS.norm1; rw [if_pos hw]
    rw [e] at hs ⊢
    have hl := hs.len
    have hl2 := (shw_N hf).2
    obtain ⟨b, r, rfl, hb2, h2⟩ := h.shw hX hb hf (by omega)
    have hlt := h2.lt
    refine ⟨code * 256 + b, r, h2, ?_⟩
    rw [nrm_step hw, shw_width]
    rw [shw_width] at hlt
    rw [Nat.min_eq_left (by omega)]
  · have e : s.norm1 = s := by unfold RS.norm1; rw [if_neg hw]
    rw [e]
    exact ⟨code, rest, h, rfl⟩
/-- where one stands who reads what was written: the bit is the one that was written, and he stands where the one who wrote stood -/
theorem at_go {X : Nat} {Y : List Nat} {s t : RS} {code k x b : Nat} {rest : List Nat} (hX : X = val Y) (hb : ∀ x ∈ Y, x < 256) (h : At X Y s code rest) (hf : s.Fine) (hw : 16777216 ≤ s.width) (hbb : b = 0 ∨ b = 1)
    (hs : (s.put x b).Sub t k) (htw : 0 < t.width) (hY : Y.length = t.out.length + 4) (hXt : X = t.N) :
    ∃ c r, At X Y (s.put x b) c r ∧ DS.tell ⟨s.width, code, s.probs, rest⟩ x = b ∧ DS.ok ⟨s.width, code, s.probs, rest⟩ x = true ∧ DS.go ⟨s.width, code, s.probs, rest⟩ x = ⟨(s.put x b).width, c, (s.put x b).probs, r⟩ := by
  have hp := hf.pre hw x b
  obtain ⟨j1, hj1⟩ := sub_norm1 hp
  obtain ⟨j2, hj2⟩ := sub_norm1 hp.norm1
  have hs1 : (s.pre x b).norm1.Sub t (j2 + k) := hj2.trans hs
  have hs0 : (s.pre x b).Sub t (j1 + (j2 + k)) := hj1.trans hs1
  obtain ⟨h1, h2⟩ := h.pre hf hw hbb hs0 htw hY hXt
  obtain ⟨c1, r1, a1, n1⟩ := nrm_at1 hX hb h2 hp hs1 hY
  obtain ⟨c2, r2, a2, n2⟩ := nrm_at1 hX hb a1 hp.norm1 hs hY
  have hw2 := (hf.put hw x b).2
  have n3 : nrm (s.pre x b).width (if b = 0 then code else code - s.bound x) rest = (true, (s.put x b).width, c2, r2) := by
    rw [n1, n2]; exact nrm_done hw2
  have ebd : DS.bd ⟨s.width, code, s.probs, rest⟩ x = s.bound x := rfl
  have ebit : DS.bit ⟨s.width, code, s.probs, rest⟩ x = b := by
    unfold DS.bit; rw [ebd]
    show (if code < s.bound x then 0 else 1) = b
    rcases hbb with rfl | rfl
    · rw [if_pos (h1.1 rfl)]
    · rw [if_neg (fun q => by have := h1.2 q; omega)]
  have enx : DS.nx ⟨s.width, code, s.probs, rest⟩ x = (true, (s.put x b).width, c2, r2) := by
    rw [← n3]
    unfold DS.nx DS.w1 DS.c1
    rw [ebd]
    show nrm (if code < s.bound x then s.bound x else s.width - s.bound x) (if code < s.bound x then code else code - s.bound x) rest = _
    rcases hbb with rfl | rfl
    · have c := h1.1 rfl
      rw [if_pos c, if_pos c, if_pos rfl]; rfl
    · have c : ¬ code < s.bound x := fun q => by have := h1.2 q; omega
      rw [if_neg c, if_neg c, if_neg (by decide)]; rfl
  have eok : DS.ok ⟨s.width, code, s.probs, rest⟩ x = true := by unfold DS.ok; rw [enx]
  refine ⟨c2, r2, a2, by unfold DS.tell; rw [eok, ebit]; rfl, eok, ?_⟩
  unfold DS.go
  rw [enx, put_probs]
  congr 1
  funext j
  show DS.pr _ x j = _
  unfold DS.pr RS.moved
  rw [ebit]
/-- many choices -/
def DS.many (s : DS) : List Nat → DS
  | [] => s
  | x :: l => DS.many (s.go x) l
theorem at_many {X : Nat} {Y : List Nat} {s t : RS} {code k : Nat} {rest : List Nat} (hX : X = val Y) (hb : ∀ x ∈ Y, x < 256) (l : List (Nat × Nat)) (hl : OkC l) (h : At X Y s code rest) (hf : s.Fine) (hw : 16777216 ≤ s.width)
    (hs : (s.run l).Sub t k) (htw : 0 < t.width) (hY : Y.length = t.out.length + 4) (hXt : X = t.N) :
    ∃ c r, At X Y (s.run l) c r ∧ DS.many ⟨s.width, code, s.probs, rest⟩ (l.map (·.1)) = ⟨(s.run l).width, c, (s.run l).probs, r⟩ := by
  induction l generalizing s code rest with
  | nil => exact ⟨code, rest, h, rfl⟩
  | cons c l ih =>
    obtain ⟨h1, h2⟩ := hf.put hw c.1 c.2
    have hl2 : OkC l := fun d hd => hl d (List.mem_cons_of_mem _ hd)
    obtain ⟨k2, hk2⟩ := sub_run h1 h2 hl2
    obtain ⟨c', r', a', _, _, g'⟩ := at_go hX hb h hf hw (hl c (List.mem_cons_self ..)).2 (hk2.trans hs) htw hY hXt
    obtain ⟨c2, r2, a2, g2⟩ := ih hl2 a' h1 h2 hs
    refine ⟨c2, r2, a2, ?_⟩
    show DS.many (DS.go _ c.1) _ = _
    rw [g', g2]; rfl
end Go.Proofs.Ytibciflmalfbjaa
