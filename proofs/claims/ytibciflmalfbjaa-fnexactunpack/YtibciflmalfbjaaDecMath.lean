/-
  Coding of ranges as plain mathematics: what was written is read back.
-/
import Derived.Test.YtibciflmalfbjaaRngMath
import Derived.WalkKit
namespace Go.Proofs.Ytibciflmalfbjaa
set_option linter.unusedVariables false

/-- bytes as a number, the highest first -/
def val : List Nat → Nat
  | [] => 0
  | b :: l => b * 256 ^ l.length + val l
theorem val_append (a b : List Nat) : val (a ++ b) = val a * 256 ^ b.length + val b := by
  induction a with
  | nil => simp [val]
  | cons x a ih =>
    show x * 256 ^ (a ++ b).length + val (a ++ b) = (x * 256 ^ a.length + val a) * 256 ^ b.length + val b
    rw [ih, List.length_append, Nat.pow_add, Nat.add_mul, Nat.mul_assoc]; omega
theorem val_lt (l : List Nat) (h : ∀ x ∈ l, x < 256) : val l < 256 ^ l.length := by
  induction l with
  | nil => simp [val]
  | cons x l ih =>
    have h1 := h x (List.mem_cons_self ..)
    have h2 := ih (fun y hy => h y (List.mem_cons_of_mem _ hy))
    show x * 256 ^ l.length + val l < 256 ^ (l.length + 1)
    rw [Nat.pow_succ]
    have : x * 256 ^ l.length ≤ 255 * 256 ^ l.length := Nat.mul_le_mul_right _ (by omega)
    omega
theorem val_one (x : Nat) : val [x] = x := by simp [val]
theorem val_nines (m : Nat) : val (List.replicate m 255) + 1 = 256 ^ m := by
  induction m with
  | zero => rfl
  | succ m ih =>
    rw [List.replicate_succ]
    show 255 * 256 ^ (List.replicate m 255).length + val (List.replicate m 255) + 1 = _
    rw [List.length_replicate, Nat.pow_succ]; omega
theorem val_noughts (m : Nat) : val (List.replicate m 0) = 0 := by
  induction m with
  | zero => rfl
  | succ m ih =>
    rw [List.replicate_succ]
    show 0 * 256 ^ (List.replicate m 0).length + val (List.replicate m 0) = 0
    omega
theorem dg_len (h m c : Nat) : (dg h m c).length = m - 1 + 1 := by simp [dg]
theorem val_dg1 {h m : Nat} (hh : h < 255) : val (dg h m 1) = val (dg h m 0) + 1 := by
  unfold dg
  show (h + 1) % 256 * 256 ^ (List.replicate (m - 1) ((255 + 1) % 256)).length + val (List.replicate (m - 1) ((255 + 1) % 256)) = (h + 0) % 256 * 256 ^ (List.replicate (m - 1) ((255 + 0) % 256)).length + val (List.replicate (m - 1) ((255 + 0) % 256)) + 1
  have e1 : (h + 1) % 256 = h + 1 := by omega
  have e2 : (h + 0) % 256 = h := by omega
  have e3 : (255 + 1) % 256 = 0 := rfl
  have e4 : (255 + 0) % 256 = 255 := rfl
  rw [e1, e2, e3, e4, List.length_replicate, List.length_replicate, val_noughts, Nat.add_mul]
  have := val_nines (m - 1)
  omega

def RS.N (s : RS) : Nat := val s.out * 4294967296 + s.low % 4294967296
/-- the number, by what is held without what is carried -/
theorem RS.Fine.N_eq {s : RS} (h : s.Fine) : s.N = val (s.os ++ dg s.held s.many 0) * 4294967296 + s.low := by
  have hl := h.low
  unfold RS.N RS.out
  by_cases c : s.low < 4294967296
  · have e : s.low / 4294967296 = 0 := by omega
    rw [e]; omega
  · have e : s.low / 4294967296 = 1 := by omega
    have hh : s.held < 255 := by
      have := h.held; have := h.w1
      rcases Nat.lt_or_ge s.held 255 with q | q
      · exact q
      · have := h.cy (by omega); omega
    rw [e, val_append, val_append, val_dg1 hh, dg_len, dg_len]
    omega
theorem pre0 (s : RS) (x : Nat) : s.pre x 0 = { s with width := s.bound x, probs := s.moved x 0 } := rfl
theorem pre1 (s : RS) (x : Nat) : s.pre x 1 = { s with low := s.low + s.bound x, width := s.width - s.bound x, probs := s.moved x 1 } := rfl
theorem N_pre0 (s : RS) (x : Nat) : (s.pre x 0).N = s.N := rfl
theorem N_pre1 {s : RS} (h : s.Fine) (hw : 16777216 ≤ s.width) (x : Nat) : (s.pre x 1).N = s.N + s.bound x := by
  rw [(h.pre hw x 1).N_eq, h.N_eq]
  show val (s.os ++ dg s.held s.many 0) * 4294967296 + (s.low + s.bound x) = _
  omega
theorem out_pre (s : RS) (x b : Nat) : (s.pre x b).out.length = s.out.length := by
  unfold RS.pre; split
  · rfl
  · simp [RS.out, dg_len]
theorem shw_N {s : RS} (h : s.Fine) : s.shw.N = s.N * 256 ∧ s.shw.out.length = s.out.length + 1 := by
  obtain ⟨h1, h2⟩ := sh_out h.many
  have e1 : s.shw.out = s.sh.out := rfl
  have e2 : s.shw.low = s.sh.low := rfl
  refine ⟨?_, by rw [e1, h1]; simp⟩
  unfold RS.N
  rw [e1, e2, h1, h2, val_append, val_one]
  simp only [List.length_cons, List.length_nil]
  omega
/-- a state and one that is made of it by so many shifts: the numbers that it leaves open lie in the elder's -/
structure RS.Sub (s t : RS) (j : Nat) : Prop where
  len : t.out.length = s.out.length + j
  lo : s.N * 256 ^ j ≤ t.N
  hi : t.N + t.width ≤ (s.N + s.width) * 256 ^ j
theorem RS.Sub.refl (s : RS) : s.Sub s 0 := ⟨rfl, by simp, by simp⟩
theorem RS.Sub.trans {s t u : RS} {j k : Nat} (h1 : s.Sub t j) (h2 : t.Sub u k) : s.Sub u (j + k) := by
  refine ⟨by rw [h2.len, h1.len]; omega, ?_, ?_⟩
  · rw [Nat.pow_add, ← Nat.mul_assoc]; exact Nat.le_trans (Nat.mul_le_mul_right _ h1.lo) h2.lo
  · rw [Nat.pow_add, ← Nat.mul_assoc]; exact Nat.le_trans h2.hi (Nat.mul_le_mul_right _ h1.hi)
theorem sub_shw {s : RS} (h : s.Fine) : s.Sub s.shw 1 := by
  obtain ⟨h1, h2⟩ := shw_N h
  refine ⟨h2, by rw [h1]; simp, ?_⟩
  rw [h1, shw_width, Nat.add_mul]; simp
theorem sub_pre {s : RS} (h : s.Fine) (hw : 16777216 ≤ s.width) {x b : Nat} (hb : b = 0 ∨ b = 1) : s.Sub (s.pre x b) 0 := by
  have := (h.bnd hw x).2
  refine ⟨out_pre s x b, ?_, ?_⟩ <;> rcases hb with rfl | rfl
  · rw [N_pre0]; simp
  · rw [N_pre1 h hw]; simp
  · rw [N_pre0]; show _ + s.bound x ≤ _; simp; omega
  · rw [N_pre1 h hw]; show _ + (s.width - s.bound x) ≤ _; simp; omega
theorem sub_norm1 {s : RS} (h : s.Fine) : ∃ j, s.Sub s.norm1 j := by
  unfold RS.norm1; split
  · exact ⟨1, sub_shw h⟩
  · exact ⟨0, .refl s⟩
theorem sub_norm {s : RS} (h : s.Fine) : ∃ j, s.Sub s.norm j := by
  obtain ⟨j, hj⟩ := sub_norm1 h
  obtain ⟨k, hk⟩ := sub_norm1 h.norm1
  exact ⟨j + k, hj.trans hk⟩

/-- behind all choices -/
def RS.run (s : RS) : List (Nat × Nat) → RS
  | [] => s
  | c :: l => RS.run (s.put c.1 c.2) l
def OkC (l : List (Nat × Nat)) : Prop := ∀ c ∈ l, c.1 < 512 ∧ (c.2 = 0 ∨ c.2 = 1)
theorem run_fine {s : RS} (h : s.Fine) (hw : 16777216 ≤ s.width) (l : List (Nat × Nat)) : (s.run l).Fine ∧ 16777216 ≤ (s.run l).width := by
  induction l generalizing s with
  | nil => exact ⟨h, hw⟩
  | cons c l ih => obtain ⟨h1, h2⟩ := h.put hw c.1 c.2; exact ih h1 h2
theorem sub_run {s : RS} (h : s.Fine) (hw : 16777216 ≤ s.width) {l : List (Nat × Nat)} (hl : OkC l) : ∃ k, s.Sub (s.run l) k := by
  induction l generalizing s with
  | nil => exact ⟨0, .refl s⟩
  | cons c l ih =>
    obtain ⟨h1, h2⟩ := h.put hw c.1 c.2
    obtain ⟨k, hk⟩ := ih h1 h2 (fun d hd => hl d (List.mem_cons_of_mem _ hd))
    obtain ⟨j, hj⟩ := sub_norm (h.pre hw c.1 c.2)
    exact ⟨0 + j + k, ((sub_pre h hw (hl c (List.mem_cons_self ..)).2).trans hj).trans hk⟩

/-- a coder that reads: its code, what is left of the bytes, and that it stands where the one who wrote stood -/
structure At (X : Nat) (Y : List Nat) (s : RS) (code : Nat) (rest : List Nat) : Prop where
  rest : rest = Y.drop (s.out.length + 4)
  le : s.out.length + 4 ≤ Y.length
  n : X / 256 ^ (Y.length - (s.out.length + 4)) = s.N + code
  lt : code < s.width
theorem at_of_sub {X : Nat} {Y : List Nat} {s t : RS} {k : Nat} (h : s.Sub t k) (hw : 0 < t.width) (hY : Y.length = t.out.length + 4) (hX : X = t.N) : ∃ code, At X Y s code (Y.drop (s.out.length + 4)) := by
  have hl := h.len
  have hk : Y.length - (s.out.length + 4) = k := by omega
  have hp : 0 < 256 ^ k := Nat.pow_pos (by omega)
  have h1 : s.N ≤ X / 256 ^ k := (Nat.le_div_iff_mul_le hp).2 (by rw [hX]; exact h.lo)
  have h2 : X / 256 ^ k < s.N + s.width := (Nat.div_lt_iff_lt_mul hp).2 (by rw [hX]; have := h.hi; omega)
  refine ⟨X / 256 ^ k - s.N, rfl, by omega, by rw [hk]; omega, by omega⟩
/-- the byte that is read next -/
theorem val_drop (Y : List Nat) (hb : ∀ x ∈ Y, x < 256) (p : Nat) (hp : p < Y.length) : val Y / 256 ^ (Y.length - (p + 1)) = val Y / 256 ^ (Y.length - p) * 256 + Y[p] ∧ Y.drop p = Y[p] :: Y.drop (p + 1) := by
  have hd : Y.drop p = Y[p] :: Y.drop (p + 1) := List.drop_eq_getElem_cons hp
  refine ⟨?_, hd⟩
  have e1 : Y = Y.take p ++ Y.drop p := (List.take_append_drop p Y).symm
  have e2 : val Y = val (Y.take p) * 256 ^ (Y.length - p) + (Y[p] * 256 ^ (Y.length - (p + 1)) + val (Y.drop (p + 1))) := by
    have : val Y = val (Y.take p ++ Y.drop p) := by rw [← e1]
    rw [this, val_append, hd]
    show _ * 256 ^ (Y[p] :: Y.drop (p + 1)).length + (Y[p] * 256 ^ (Y.drop (p + 1)).length + _) = _
    rw [← hd, List.length_drop, List.length_drop]
  have hr : val (Y.drop (p + 1)) < 256 ^ (Y.length - (p + 1)) := by
    have := val_lt (Y.drop (p + 1)) (fun x hx => hb x (List.mem_of_mem_drop hx))
    rwa [List.length_drop] at this
  have hy : Y[p] < 256 := hb _ (List.getElem_mem hp)
  have e3 : Y.length - p = (Y.length - (p + 1)) + 1 := by omega
  rw [e2, e3, Nat.pow_succ]
  generalize 256 ^ (Y.length - (p + 1)) = Q at *
  have hQ : 0 < Q := by omega
  generalize val (Y.take p) = A at *
  generalize Y[p] = y at *
  generalize val (Y.drop (p + 1)) = r at *
  have f1 : (A * (Q * 256) + (y * Q + r)) / Q = A * 256 + y := by
    have : A * (Q * 256) + (y * Q + r) = r + (A * 256 + y) * Q := by
      rw [Nat.add_mul, Nat.mul_assoc, Nat.mul_comm 256 Q]; omega
    rw [this, Nat.add_mul_div_right _ _ hQ, Nat.div_eq_of_lt hr]; omega
  have f2 : (A * (Q * 256) + (y * Q + r)) / (Q * 256) = A := by
    have hyq : y * Q ≤ 255 * Q := Nat.mul_le_mul_right _ (by omega)
    have : A * (Q * 256) + (y * Q + r) = (y * Q + r) + A * (Q * 256) := by omega
    rw [this, Nat.add_mul_div_right _ _ (by omega), Nat.div_eq_of_lt (by omega)]; omega
  rw [f1, f2]
/-- one shift of the one who reads -/
theorem At.shw {X : Nat} {Y : List Nat} {s : RS} {code : Nat} {rest : List Nat} (hX : X = val Y) (hb : ∀ x ∈ Y, x < 256) (h : At X Y s code rest) (hf : s.Fine) (hp : s.out.length + 4 < Y.length) :
    ∃ b r, rest = b :: r ∧ b < 256 ∧ At X Y s.shw (code * 256 + b) r := by
  obtain ⟨h1, h2⟩ := shw_N hf
  obtain ⟨f1, f2⟩ := val_drop Y hb (s.out.length + 4) hp
  have hy := hb _ (List.getElem_mem hp)
  have hn := h.n
  have hlt := h.lt
  refine ⟨Y[s.out.length + 4], Y.drop (s.out.length + 4 + 1), by rw [h.rest, f2], hy, ?_, ?_, ?_, ?_⟩
  · rw [h2]
  · rw [h2]; omega
  · rw [h2, h1, hX]
    have : s.out.length + 1 + 4 = s.out.length + 4 + 1 := by omega
    rw [this, f1, ← hX, hn]; omega
  · rw [shw_width]; omega
/-- the bit that is read, and the code behind it -/
theorem At.pre {X : Nat} {Y : List Nat} {s t : RS} {code : Nat} {rest : List Nat} {x b k : Nat} (h : At X Y s code rest) (hf : s.Fine) (hw : 16777216 ≤ s.width) (hb : b = 0 ∨ b = 1) (ht : (s.pre x b).Sub t k) (htw : 0 < t.width) (hY : Y.length = t.out.length + 4) (hX : X = t.N) :
    (b = 0 ↔ code < s.bound x) ∧ At X Y (s.pre x b) (if b = 0 then code else code - s.bound x) rest := by
  obtain ⟨c', hc⟩ := at_of_sub ht htw hY hX
  have e := out_pre s x b
  have h1 := hc.n
  have h2 := h.n
  have h3 := hc.lt
  have h4 := hc.le
  rw [e] at h1 h4
  rw [h2] at h1
  rcases hb with rfl | rfl
  · rw [N_pre0] at h1
    have h3 : c' < s.bound x := h3
    refine ⟨⟨fun _ => by omega, fun _ => rfl⟩, ?_⟩
    rw [if_pos rfl]
    exact ⟨by rw [e]; exact h.rest, by rw [e]; exact h4, by rw [e, h2, N_pre0], by show code < s.bound x; omega⟩
  · rw [N_pre1 hf hw] at h1
    have h3 : c' < s.width - s.bound x := h3
    refine ⟨⟨fun q => (by cases q), fun _ => by omega⟩, ?_⟩
    rw [if_neg (by decide)]
    exact ⟨by rw [e]; exact h.rest, by rw [e]; exact h4, by rw [e, h2, N_pre1 hf hw]; omega, by show _ < s.width - s.bound x; omega⟩
end Go.Proofs.Ytibciflmalfbjaa
