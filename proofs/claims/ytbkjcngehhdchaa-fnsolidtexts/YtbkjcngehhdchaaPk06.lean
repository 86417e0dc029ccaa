/-
  Several texts of this seat as one: DecMath, Conv, ShaHigh.
-/
import Derived.Test.YtbkjcngehhdchaaPk03
import Derived.WalkKit
import Derived.Test.YtbkjcngehhdchaaRows
import Derived.WalkSpells
import Derived.Laws.IdiomStrings
import Derived.Laws.BytesArg
import Derived.Lib.UnsafeStr
import Derived.Lib.Strings
import Derived.Deep.RegionLaw
import Derived.Laws.MakeOwn
import Derived.Laws.Rows
import Derived.Laws.AppendOwn
import Derived.WalkSmall

/-!   Coding of ranges as plain mathematics: what was written is read back. -/
namespace Go.Proofs.Ytbkjcngehhdchaa
set_option linter.unusedVariables false

/-- bytes as a number, the highest first -/
def val : List Nat → Nat
  | [] => 0
  | b :: l => b * 256 ^ l.length + val l
theorem val_append (a b : List Nat) : val (a ++ b) = val a * 256 ^ b.length + val b := by
  induction a with
  | nil => simp [val]
  | cons x a ih =>
    show x * 256 ^ (a ++ b).length + val (a ++ b) = (x * 256 ^ a.length + val a) * 256 ^ b.length + val b
    rw [ih, List.length_append, Nat.pow_add, Nat.add_mul, Nat.mul_assoc]; omega
theorem val_lt (l : List Nat) (h : ∀ x ∈ l, x < 256) : val l < 256 ^ l.length := by
  induction l with
  | nil => simp [val]
  | cons x l ih =>
    have h1 := h x (List.mem_cons_self ..)
    have h2 := ih (fun y hy => h y (List.mem_cons_of_mem _ hy))
    show x * 256 ^ l.length + val l < 256 ^ (l.length + 1)
    rw [Nat.pow_succ]
    have : x * 256 ^ l.length ≤ 255 * 256 ^ l.length := Nat.mul_le_mul_right _ (by omega)
    omega
theorem val_one (x : Nat) : val [x] = x := by simp [val]
theorem val_nines (m : Nat) : val (List.replicate m 255) + 1 = 256 ^ m := by
  induction m with
  | zero => rfl
  | succ m ih =>
    rw [List.replicate_succ]
    show 255 * 256 ^ (List.replicate m 255).length + val (List.replicate m 255) + 1 = _
    rw [List.length_replicate, Nat.pow_succ]; omega
theorem val_noughts (m : Nat) : val (List.replicate m 0) = 0 := by
  induction m with
  | zero => rfl
  | succ m ih =>
    rw [List.replicate_succ]
    show 0 * 256 ^ (List.replicate m 0).length + val (List.replicate m 0) = 0
    omega
theorem dg_len (h m c : Nat) : (dg h m c).length = m - 1 + 1 := by simp [dg]
theorem val_dg1 {h m : Nat} (hh : h < 255) : val (dg h m 1) = val (dg h m 0) + 1 := by
  unfold dg
  show (h + 1) % 256 * 256 ^ (List.replicate (m - 1) ((255 + 1) % 256)).length + val (List.replicate (m - 1) ((255 + 1) % 256)) = (h + 0) % 256 * 256 ^ (List.replicate (m - 1) ((255 + 0) % 256)).length + val (List.replicate (m - 1) ((255 + 0) % 256)) + 1
  have e1 : (h + 1) % 256 = h + 1 := by omega
  have e2 : (h + 0) % 256 = h := by omega
  have e3 : (255 + 1) % 256 = 0 := rfl
  have e4 : (255 + 0) % 256 = 255 := rfl
  rw [e1, e2, e3, e4, List.length_replicate, List.length_replicate, val_noughts, Nat.add_mul]
  have := val_nines (m - 1)
  omega

def RS.N (s : RS) : Nat := val s.out * 4294967296 + s.low % 4294967296
/-- the number, by what is held without what is carried -/
theorem RS.Fine.N_eq {s : RS} (h : s.Fine) : s.N = val (s.os ++ dg s.held s.many 0) * 4294967296 + s.low := by
  have hl := h.low
  unfold RS.N RS.out
  by_cases c : s.low < 4294967296
  · have e : s.low / 4294967296 = 0 := by omega
    rw [e]; omega
  · have e : s.low / 4294967296 = 1 := by omega
    have hh : s.held < 255 := by
      have := h.held; have := h.w1
      rcases Nat.lt_or_ge s.held 255 with q | q
      · exact q
      · have := h.cy (by omega); omega
    rw [e, val_append, val_append, val_dg1 hh, dg_len, dg_len]
    omega
theorem pre0 (s : RS) (x : Nat) : s.pre x 0 = { s with width := s.bound x, probs := s.moved x 0 } := rfl
theorem pre1 (s : RS) (x : Nat) : s.pre x 1 = { s with low := s.low + s.bound x, width := s.width - s.bound x, probs := s.moved x 1 } := rfl
theorem N_pre0 (s : RS) (x : Nat) : (s.pre x 0).N = s.N := rfl
theorem N_pre1 {s : RS} (h : s.Fine) (hw : 16777216 ≤ s.width) (x : Nat) : (s.pre x 1).N = s.N + s.bound x := by
  rw [(h.pre hw x 1).N_eq, h.N_eq]
  show val (s.os ++ dg s.held s.many 0) * 4294967296 + (s.low + s.bound x) = _
  omega
theorem out_pre (s : RS) (x b : Nat) : (s.pre x b).out.length = s.out.length := by
  unfold RS.pre; split
  · rfl
  · simp [RS.out, dg_len]
theorem shw_N {s : RS} (h : s.Fine) : s.shw.N = s.N * 256 ∧ s.shw.out.length = s.out.length + 1 := by
  obtain ⟨h1, h2⟩ := sh_out h.many
  have e1 : s.shw.out = s.sh.out := rfl
  have e2 : s.shw.low = s.sh.low := rfl
  refine ⟨?_, by rw [e1, h1]; simp⟩
  unfold RS.N
  rw [e1, e2, h1, h2, val_append, val_one]
  simp only [List.length_cons, List.length_nil]
  omega
/-- a state and one that is made of it by so many shifts: the numbers that it leaves open lie in the elder's -/
structure RS.Sub (s t : RS) (j : Nat) : Prop where
  len : t.out.length = s.out.length + j
  lo : s.N * 256 ^ j ≤ t.N
  hi : t.N + t.width ≤ (s.N + s.width) * 256 ^ j
theorem RS.Sub.refl (s : RS) : s.Sub s 0 := ⟨rfl, by simp, by simp⟩
theorem RS.Sub.trans {s t u : RS} {j k : Nat} (h1 : s.Sub t j) (h2 : t.Sub u k) : s.Sub u (j + k) := by
  refine ⟨by rw [h2.len, h1.len]; omega, ?_, ?_⟩
  · rw [Nat.pow_add, ← Nat.mul_assoc]; exact Nat.le_trans (Nat.mul_le_mul_right _ h1.lo) h2.lo
  · rw [Nat.pow_add, ← Nat.mul_assoc]; exact Nat.le_trans h2.hi (Nat.mul_le_mul_right _ h1.hi)
theorem sub_shw {s : RS} (h : s.Fine) : s.Sub s.shw 1 := by
  obtain ⟨h1, h2⟩ := shw_N h
  refine ⟨h2, by rw [h1]; simp, ?_⟩
  rw [h1, shw_width, Nat.add_mul]; simp
theorem sub_pre {s : RS} (h : s.Fine) (hw : 16777216 ≤ s.width) {x b : Nat} (hb : b = 0 ∨ b = 1) : s.Sub (s.pre x b) 0 := by
  have := (h.bnd hw x).2
  refine ⟨out_pre s x b, ?_, ?_⟩ <;> rcases hb with rfl | rfl
  · rw [N_pre0]; simp
  · rw [N_pre1 h hw]; simp
  · rw [N_pre0]; show _ + s.bound x ≤ _; simp; omega
  · rw [N_pre1 h hw]; show _ + (s.width - s.bound x) ≤ _; simp; omega
theorem sub_norm1 {s : RS} (h : s.Fine) : ∃ j, s.Sub s.norm1 j := by
  unfold RS.norm1; split
  · exact ⟨1, sub_shw h⟩
  · exact ⟨0, .refl s⟩
theorem sub_norm {s : RS} (h : s.Fine) : ∃ j, s.Sub s.norm j := by
  obtain ⟨j, hj⟩ := sub_norm1 h
  obtain ⟨k, hk⟩ := sub_norm1 h.norm1
  exact ⟨j + k, hj.trans hk⟩

/-- behind all choices -/
def RS.run (s : RS) : List (Nat × Nat) → RS
  | [] => s
  | c :: l => RS.run (s.put c.1 c.2) l
def OkC (l : List (Nat × Nat)) : Prop := ∀ c ∈ l, c.1 < 512 ∧ (c.2 = 0 ∨ c.2 = 1)
theorem run_fine {s : RS} (h : s.Fine) (hw : 16777216 ≤ s.width) (l : List (Nat × Nat)) : (s.run l).Fine ∧ 16777216 ≤ (s.run l).width := by
  induction l generalizing s with
  | nil => exact ⟨h, hw⟩
  | cons c l ih => obtain ⟨h1, h2⟩ := h.put hw c.1 c.2; exact ih h1 h2
theorem sub_run {s : RS} (h : s.Fine) (hw : 16777216 ≤ s.width) {l : List (Nat × Nat)} (hl : OkC l) : ∃ k, s.Sub (s.run l) k := by
  induction l generalizing s with
  | nil => exact ⟨0, .refl s⟩
  | cons c l ih =>
    obtain ⟨h1, h2⟩ := h.put hw c.1 c.2
    obtain ⟨k, hk⟩ := ih h1 h2 (fun d hd => hl d (List.mem_cons_of_mem _ hd))
    obtain ⟨j, hj⟩ := sub_norm (h.pre hw c.1 c.2)
    exact ⟨0 + j + k, ((sub_pre h hw (hl c (List.mem_cons_self ..)).2).trans hj).trans hk⟩

/-- a coder that reads: its code, what is left of the bytes, and that it stands where the one who wrote stood -/
structure At (X : Nat) (Y : List Nat) (s : RS) (code : Nat) (rest : List Nat) : Prop where
  rest : rest = Y.drop (s.out.length + 4)
  le : s.out.length + 4 ≤ Y.length
  n : X / 256 ^ (Y.length - (s.out.length + 4)) = s.N + code
  lt : code < s.width
theorem at_of_sub {X : Nat} {Y : List Nat} {s t : RS} {k : Nat} (h : s.Sub t k) (hw : 0 < t.width) (hY : Y.length = t.out.length + 4) (hX : X = t.N) : ∃ code, At X Y s code (Y.drop (s.out.length + 4)) := by
  have hl := h.len
  have hk : Y.length - (s.out.length + 4) = k := by omega
  have hp : 0 < 256 ^ k := Nat.pow_pos (by omega)
  have h1 : s.N ≤ X / 256 ^ k := (Nat.le_div_iff_mul_le hp).2 (by rw [hX]; exact h.lo)
  have h2 : X / 256 ^ k < s.N + s.width := (Nat.div_lt_iff_lt_mul hp).2 (by rw [hX]; have := h.hi; omega)
  refine ⟨X / 256 ^ k - s.N, rfl, by omega, by rw [hk]; omega, by omega⟩
/-- the byte that is read next -/
theorem val_drop (Y : List Nat) (hb : ∀ x ∈ Y, x < 256) (p : Nat) (hp : p < Y.length) : val Y / 256 ^ (Y.length - (p + 1)) = val Y / 256 ^ (Y.length - p) * 256 + Y[p] ∧ Y.drop p = Y[p] :: Y.drop (p + 1) := by
  have hd : Y.drop p = Y[p] :: Y.drop (p + 1) := List.drop_eq_getElem_cons hp
  refine ⟨?_, hd⟩
  have e1 : Y = Y.take p ++ Y.drop p := (List.take_append_drop p Y).symm
  have e2 : val Y = val (Y.take p) * 256 ^ (Y.length - p) + (Y[p] * 256 ^ (Y.length - (p + 1)) + val (Y.drop (p + 1))) := by
    have : val Y = val (Y.take p ++ Y.drop p) := by rw [← e1]
    rw [this, val_append, hd]
    show _ * 256 ^ (Y[p] :: Y.drop (p + 1)).length + (Y[p] * 256 ^ (Y.drop (p + 1)).length + _) = _
    rw [← hd, List.length_drop, List.length_drop]
  have hr : val (Y.drop (p + 1)) < 256 ^ (Y.length - (p + 1)) := by
    have := val_lt (Y.drop (p + 1)) (fun x hx => hb x (List.mem_of_mem_drop hx))
    rwa [List.length_drop] at this
  have hy : Y[p] < 256 := hb _ (List.getElem_mem hp)
  have e3 : Y.length - p = (Y.length - (p + 1)) + 1 := by omega
  rw [e2, e3, Nat.pow_succ]
  generalize 256 ^ (Y.length - (p + 1)) = Q at *
  have hQ : 0 < Q := by omega
  generalize val (Y.take p) = A at *
  generalize Y[p] = y at *
  generalize val (Y.drop (p + 1)) = r at *
  have f1 : (A * (Q * 256) + (y * Q + r)) / Q = A * 256 + y := by
    have : A * (Q * 256) + (y * Q + r) = r + (A * 256 + y) * Q := by
      rw [Nat.add_mul, Nat.mul_assoc, Nat.mul_comm 256 Q]; omega
    rw [this, Nat.add_mul_div_right _ _ hQ, Nat.div_eq_of_lt hr]; omega
  have f2 : (A * (Q * 256) + (y * Q + r)) / (Q * 256) = A := by
    have hyq : y * Q ≤ 255 * Q := Nat.mul_le_mul_right _ (by omega)
    have : A * (Q * 256) + (y * Q + r) = (y * Q + r) + A * (Q * 256) := by omega
    rw [this, Nat.add_mul_div_right _ _ (by omega), Nat.div_eq_of_lt (by omega)]; omega
  rw [f1, f2]
/-- one shift of the one who reads -/
theorem At.shw {X : Nat} {Y : List Nat} {s : RS} {code : Nat} {rest : List Nat} (hX : X = val Y) (hb : ∀ x ∈ Y, x < 256) (h : At X Y s code rest) (hf : s.Fine) (hp : s.out.length + 4 < Y.length) :
    ∃ b r, rest = b :: r ∧ b < 256 ∧ At X Y s.shw (code * 256 + b) r := by
  obtain ⟨h1, h2⟩ := shw_N hf
  obtain ⟨f1, f2⟩ := val_drop Y hb (s.out.length + 4) hp
  have hy := hb _ (List.getElem_mem hp)
  have hn := h.n
  have hlt := h.lt
  refine ⟨Y[s.out.length + 4], Y.drop (s.out.length + 4 + 1), by rw [h.rest, f2], hy, ?_, ?_, ?_, ?_⟩
  · rw [h2]
  · rw [h2]; omega
  · rw [h2, h1, hX]
    have : s.out.length + 1 + 4 = s.out.length + 4 + 1 := by omega
    rw [this, f1, ← hX, hn]; omega
  · rw [shw_width]; omega
/-- the bit that is read, and the code behind it -/
theorem At.pre {X : Nat} {Y : List Nat} {s t : RS} {code : Nat} {rest : List Nat} {x b k : Nat} (h : At X Y s code rest) (hf : s.Fine) (hw : 16777216 ≤ s.width) (hb : b = 0 ∨ b = 1) (ht : (s.pre x b).Sub t k) (htw : 0 < t.width) (hY : Y.length = t.out.length + 4) (hX : X = t.N) :
    (b = 0 ↔ code < s.bound x) ∧ At X Y (s.pre x b) (if b = 0 then code else code - s.bound x) rest := by
  obtain ⟨c', hc⟩ := at_of_sub ht htw hY hX
  have e := out_pre s x b
  have h1 := hc.n
  have h2 := h.n
  have h3 := hc.lt
  have h4 := hc.le
  rw [e] at h1 h4
  rw [h2] at h1
  rcases hb with rfl | rfl
  · rw [N_pre0] at h1
    have h3 : c' < s.bound x := h3
    refine ⟨⟨fun _ => by omega, fun _ => rfl⟩, ?_⟩
    rw [if_pos rfl]
    exact ⟨by rw [e]; exact h.rest, by rw [e]; exact h4, by rw [e, h2, N_pre0], by show code < s.bound x; omega⟩
  · rw [N_pre1 hf hw] at h1
    have h3 : c' < s.width - s.bound x := h3
    refine ⟨⟨fun q => (by cases q), fun _ => by omega⟩, ?_⟩
    rw [if_neg (by decide)]
    exact ⟨by rw [e]; exact h.rest, by rw [e]; exact h4, by rw [e, h2, N_pre1 hf hw]; omega, by show _ < s.width - s.bound x; omega⟩
end Go.Proofs.Ytbkjcngehhdchaa

/-!   'string(b)' of bytes that the call has made; an append inside a statement whose order is open. -/
namespace Go.Proofs.Ytbkjcngehhdchaa
open Go.RowKit

theorem Try.inf5b : (Try.prog.info? 5).map (fun i => (i.zero, i.size, i.bytes)) = some (some (.int .u8 0), 1, 1) := by kernel_rfl
theorem conv_bytes {w : World} {base : Nat} {v : Value} {l : List UInt8} (h : w.ownsRow base 5 1 v l.length (Lib.byteCells l)) :
    (convert 36 9 v).run Try.prog w = .ok (.string ⟨l.toArray⟩) w := by
  obtain ⟨_, ⟨rfl, h0⟩ | ⟨g, cap, cur, rfl, hb, hg, hn, hc, hs, ht⟩⟩ := h
  · have : l = [] := List.eq_nil_of_length_eq_zero h0
    subst this
    rw [run_convert_bytes_nil w 36 5 Try.underlying36 Try.underlying5 0 0 9 Try.underlying9]
    rfl
  · refine run_convert_bytes_back w 36 9 5 _ cap l Try.underlying36 Try.underlying5 Try.underlying9 ?_
    intro j hj
    have h1 : (Lib.byteCells l)[j]? = some (.int .u8 (l[j].toNat : Int)) := by
      simp [Lib.byteCells, hj]
    have h2 : cur[j]? = some (.int .u8 (l[j].toNat : Int)) := by
      rw [← ht] at h1
      rw [List.getElem?_take] at h1
      split at h1
      · simpa using h1
      · cases h1
    have ea : (⟨g, 0, none⟩ : Addr).add j = ⟨g, j, none⟩ := by
      unfold Addr.add
      by_cases h0 : j = 0
      · subst h0; simp
      · simp [h0]
    rw [ea]
    simp [World.cell?, hg, h2]
theorem step_append_mine {P : Program} {ops : Array Oper} {o : Oper} {a : Act} {w : World} {K : Act → World → Prop} {Q : Exit → Act → World → Prop} {E : Prop} (hgd : o.guard = none) (s x : Operand) (t : TypeId)
    (ho : o.op = .call { callee := .builtin .append, args := #[s, x], argTypes := #[t, t] })
    (base : Nat) (e : TypeId) (i : TypeInfo) (z : Value) (size bytes : Nat) (ht : P.underlying t = some (.slice e)) (hi : P.info? e = some i) (hz : i.zero = some z)
    (hsize : i.size = size) (hby : i.bytes = bytes) (hzs : z.cells.size = size) (hsz : 0 < size)
    (v : Value) (n : Nat) (xs : List Value) (hs : a.eval s = v) (hown : w.ownsRow base e size v n xs)
    (ad : Addr) (m c : Nat) (news : List Value) (hx : a.eval x = .slice (some ad) m c) (hl : news.length = m * size) (hnews : ∀ j u, news[j]? = some u → w.cell? (ad.add j) = some u) (h1 : ∀ u ∈ news, u.oneCell' = true)
    (h63 : n + m ≤ maxLen) (hbytes : (n + m) * bytes ≤ 140737488355328) (hbase : base ≤ w.heap.size)
    (h : ∀ v' w', w'.ownsRow base e size v' (n + m) (xs ++ news) → w.grownBy w' v.ownBlock → (v' = .slice none 0 0 ↔ v = .slice none 0 0 ∧ m = 0) → K (a.put o.dst v') w') :
    if Region.wanted o (yielded ops a.tmps) = true then Oper.wp P o a w K Q else E := by
  have hw : Region.wanted o (yielded ops a.tmps) = true := by simp [Region.wanted, hgd]
  rw [if_pos hw]
  exact wp_append_own w s x t ho base e i z size bytes ht hi hz hsize hby hzs hsz v n xs hs hown ad m c news hx hl hnews h1 h63 hbytes hbase h
theorem cell_two {w : World} {x y : Value} {t : TypeId} : ∀ j u, [x, y][j]? = some u → (w.alloc (.cells #[x, y] t)).cell? ((⟨w.heap.size, 0, none⟩ : Addr).add j) = some u := by
  intro j u hj
  match j, hj with
  | 0, hj =>
    simp at hj; subst hj
    rw [show (⟨w.heap.size, 0, none⟩ : Addr).add 0 = ⟨w.heap.size, 0, none⟩ from by simp [Addr.add], World.cell?_alloc_mark]; rfl
  | 1, hj =>
    simp at hj; subst hj
    rw [show (⟨w.heap.size, 0, none⟩ : Addr).add 1 = ⟨w.heap.size, 1, none⟩ from by simp [Addr.add], World.cell?_alloc_mark]; rfl
  | j + 2, hj => simp at hj
theorem two_one {x y : Int} {k q : IntKind} : ∀ u ∈ [Value.int k x, Value.int q y], u.oneCell' = true := by
  intro u hu
  simp at hu
  rcases hu with rfl | rfl <;> rfl
theorem owns_drew {w : World} {base : Nat} {e : TypeId} {size : Nat} {v : Value} {n : Nat} {xs : List Value} (h : w.ownsRow base e size v n xs) : w.drew.ownsRow base e size v n xs := h
end Go.Proofs.Ytbkjcngehhdchaa

/-!   A number's bytes, the highest first: what highFirst and l1Big answer. -/
namespace Go.Proofs.Ytbkjcngehhdchaa
open Go.RowKit

def bigIntOf : Value → Int | .int _ q => q | _ => 0
/-- so many bytes of a number, the highest first -/
def bigL (n : Nat) : Nat → List UInt8
  | 0 => []
  | k + 1 => bigL (n / 256) k ++ [UInt8.ofNat n]
theorem bigL_len (n : Nat) : ∀ k, (bigL n k).length = k := by
  intro k
  induction k generalizing n with
  | zero => rfl
  | succ k ih => rw [bigL, List.length_append, ih]; rfl
theorem div256 (n i : Nat) : n / 256 ^ i / 256 = n / 256 ^ (i + 1) := by rw [Nat.div_div_eq_div_mul, Nat.pow_succ]
theorem bigL_at (n : Nat) : ∀ k j, j < k → (bigL n k)[k - 1 - j]? = some (UInt8.ofNat (n / 256 ^ j)) := by
  intro k
  induction k generalizing n with
  | zero => intro j h; omega
  | succ k ih =>
    intro j h
    rw [bigL]
    by_cases h0 : j = 0
    · subst h0
      rw [List.getElem?_append_right (by rw [bigL_len]; omega), bigL_len]
      simp
    · obtain ⟨i, rfl⟩ : ∃ i, j = i + 1 := ⟨j - 1, by omega⟩
      rw [List.getElem?_append_left (by rw [bigL_len]; omega), show k + 1 - 1 - (i + 1) = k - 1 - i by omega, ih (n / 256) i (by omega)]
      rw [Nat.pow_succ, Nat.mul_comm, Nat.div_div_eq_div_mul]
theorem byteCells_snoc (l : List UInt8) (n : Nat) : Lib.byteCells l ++ [Value.int .u8 ((n % 256 : Nat) : Int)] = Lib.byteCells (l ++ [UInt8.ofNat n]) := by
  simp [Lib.byteCells]

theorem conv_rowb (w : World) (cur : Array Value) (l : List UInt8) (c : Nat) (hl : cur.toList.take l.length = Lib.byteCells l) :
    (convert 36 9 (.slice (some ⟨w.heap.size, 0, none⟩) l.length c)).run Try.prog (w.alloc (.cells cur 5)) = .ok (.string ⟨l.toArray⟩) (w.alloc (.cells cur 5)) := by
  refine run_convert_bytes_back _ 36 9 5 _ c l Try.underlying36 Try.underlying5 Try.underlying9 ?_
  intro j hj
  have h1 : (Lib.byteCells l)[j]? = some (.int .u8 (l[j].toNat : Int)) := by simp [Lib.byteCells, hj]
  have h2 : cur[j]? = some (.int .u8 (l[j].toNat : Int)) := by
    rw [← hl, List.getElem?_take, if_pos hj] at h1
    simpa using h1
  have ea : (⟨w.heap.size, 0, none⟩ : Addr).add j = ⟨w.heap.size, j, none⟩ := by
    unfold Addr.add
    by_cases h0 : j = 0
    · subst h0; simp
    · simp [h0]
  rw [ea, World.cell?_alloc_mark, h2]
set_option maxRecDepth 100000 in
set_option maxHeartbeats 2000000 in
theorem high_any (n long : Nat) (w : World) (hn : n < 18446744073709551616) (h1 : 1 ≤ long) (h2 : long ≤ 16) :
    Calls Try.prog 57 #[.int .u64 (n : Int), .int .i64 (long : Int)] w fun e w' => e = .returned (.string ⟨(bigL n long).toArray⟩) ∧ Below w.heap.size w w' := by
  obtain ⟨i0, hi, hz0, hz1, hz2⟩ := info_parts Try.inf5b
  obtain ⟨M, hM⟩ : ∃ M, M = madeCells (Value.int .u8 0).cells ((long : Int).toNat * i0.size) := ⟨_, rfl⟩
  have hMs : M.size = long := by rw [hM, size_madeCells, hz1]; simp
  have hmk : ∀ W : World, (Instr.makeSlice 36 (.int .i64 (long : Int)) (.int .i64 (long : Int))).run Try.prog W = .ok (.slice (some ⟨W.heap.size, 0, none⟩) long long) (W.alloc (.cells M 5)) := fun W => by
    have h := run_make (P := Try.prog) W 36 5 i0 (.int .u8 0) Try.underlying36 hi hz0 .i64 .i64 (long : Int) (long : Int) (by omega) (by omega) (by rw [hz2]; omega) (by omega)
    rw [← hM] at h
    simpa using h
  clear hM
  have HN : Hid (n < 18446744073709551616) := hn
  go_enter Try.func57, Try.ntmps57
  go_wp2_with fail
  clear hmk
  go_loopw [0, 11] (fun x c wr => ∃ (i : Nat) (cur : Array Value), i ≤ long ∧ c = .int .i64 (i : Int) ∧ x = .int .u64 ((n / 256 ^ i : Nat) : Int) ∧ wr = w.alloc (.cells cur 5) ∧ cur.size = long ∧ Hid (∀ j, j < i → cur[long - 1 - j]? = some (.int .u8 ((n / 256 ^ j % 256 : Nat) : Int))))
    (fun _ c _ => long - (bigIntOf c).toNat)
  case atStart => exact ⟨0, M, by omega, rfl, by rw [Nat.pow_zero, Nat.div_one], rfl, hMs, fun j hj => absurd hj (by omega)⟩
  case round =>
    obtain ⟨i, cur, hi16, rfl, rfl, rfl, hcs, HC⟩ := hrel
    by_cases hlt : i < long
    · obtain ⟨m, hm⟩ : ∃ m, long = m + i + 1 := ⟨long - 1 - i, by omega⟩
      have hix : (long : Int) - 1 - (i : Int) = (m : Int) := by omega
      have hml : (m : Int) < (long : Int) := by omega
      obtain ⟨x, hx⟩ : ∃ x, cur[m]? = some x := ⟨_, Array.getElem?_eq_getElem (by omega)⟩
      have hd := div256 n i
      have hle : n / 256 ^ i < 18446744073709551616 := Nat.lt_of_le_of_lt (Nat.div_le_self _ _) hn
      have HC2 : Hid (∀ j, j < i + 1 → (cur.setIfInBounds m (.int .u8 ((n / 256 ^ i % 256 : Nat) : Int)))[long - 1 - j]? = some (.int .u8 ((n / 256 ^ j % 256 : Nat) : Int))) := fun j hj => by
        by_cases e : j = i
        · subst e
          rw [show long - 1 - j = m by omega, Array.getElem?_setIfInBounds_self_of_lt (by omega)]
        · rw [Array.getElem?_setIfInBounds_ne (by omega)]
          exact HC.out j (by omega)
      have HD : Hid (n / 256 ^ (i + 1) = n / 256 ^ i / 256) := hd.symm
      clear hd
      generalize n / 256 ^ i = q at hle HC2 HD
      have HM : Hid (long = m + i + 1) := hm
      clear hm
      go_wp2_with fail
      go_roundw
      case rel => exact ⟨i + 1, _, by omega, by go_num, by rw [HD.out]; go_num, rfl, by simpa using hcs, HC2⟩
      case measure => simp [bigIntOf]; omega
    · obtain rfl : i = long := by omega
      have hcur : cur.toList = Lib.byteCells (bigL n i) := by
        apply List.ext_getElem?
        intro k
        by_cases hk : k < i
        · have h3 := HC.out (i - 1 - k) (by omega)
          rw [show i - 1 - (i - 1 - k) = k by omega] at h3
          have h4 := bigL_at n i (i - 1 - k) (by omega)
          rw [show i - 1 - (i - 1 - k) = k by omega] at h4
          rw [Array.getElem?_toList, h3, Lib.byteCells, List.getElem?_map, h4]
          simp
        · rw [List.getElem?_eq_none (by simpa [hcs] using hk), List.getElem?_eq_none (by simpa [Lib.byteCells, bigL_len] using hk)]
      have hcv := conv_rowb w cur (bigL n i) i (by rw [← hcur, bigL_len, List.take_of_length_le (by simp [hcs])])
      rw [bigL_len] at hcv
      clear hcur
      go_wp2_with fail
      go_ret
      exact ⟨rfl, (Below.refl _ _).alloc (Nat.le_refl _) _⟩

set_option maxRecDepth 100000 in
set_option maxHeartbeats 2000000 in
theorem sbig_any (n long : Nat) (w : World) (hn : n < 18446744073709551616) (h1 : 1 ≤ long) (h2 : long ≤ 12) :
    Calls Try.prog 29 #[.int .u64 (n : Int), .int .i64 (long : Int)] w fun e w' => e = .returned (.string ⟨(bigL n long).toArray⟩) ∧ Below w.heap.size w w' := by
  obtain ⟨i0, hi, hz0, hz1, hz2⟩ := info_parts Try.inf5b
  have HN : Hid (n < 18446744073709551616) := hn
  go_enter Try.func29, Try.ntmps29
  go_wp2_with fail
  go_loopw [5, 6] (fun v c wr => ∃ k : Nat, k ≤ long ∧ c = .int .i64 ((long : Int) - 1 - (k : Int)) ∧ wr.ownsRow w.heap.size 5 1 v k (Lib.byteCells (bigL (n / 256 ^ (long - k)) k)) ∧ Below w.heap.size w wr)
    (fun _ c _ => (bigIntOf c + 1).toNat)
  case atStart => exact ⟨0, by omega, by simp, World.ownsRow_made w #[] 0 (Nat.le_refl _) (by unfold maxLen; omega) rfl, (Below.refl _ _).alloc (Nat.le_refl _) _⟩
  case round =>
    obtain ⟨k, hk, rfl, hown, hb⟩ := hrel
    by_cases hlt : k < long
    · obtain ⟨m, hm⟩ : ∃ m, long = m + k + 1 := ⟨long - 1 - k, by omega⟩
      have hix : (long : Int) - 1 - (k : Int) = (m : Int) := by omega
      rw [hix]
      have hsz := hb.size
      have hm8 : (0 : Int) ≤ 8 * (m : Int) := by omega
      have hm9 : 8 * (m : Int) < 18446744073709551616 := by omega
      have hsh : (n : Int) / 2 ^ min (8 * m) 64 = ((n / 256 ^ m : Nat) : Int) := by
        have e : n / 2 ^ min (8 * m) 64 = n / 256 ^ m := by
          rw [show (256 : Nat) = 2 ^ 8 from rfl, ← Nat.pow_mul]
          by_cases h8 : 8 * m ≤ 64
          · rw [Nat.min_eq_left h8]
          · rw [Nat.min_eq_right (by omega), Nat.div_eq_of_lt (by exact hn), Nat.div_eq_of_lt]
            exact Nat.lt_of_lt_of_le hn (Nat.pow_le_pow_right (n := 2) (by omega) (by omega : 64 ≤ 8 * m))
        rw [← e, Int.natCast_ediv, Int.natCast_pow]; rfl
      have hq : n / 256 ^ m < 18446744073709551616 := Nat.lt_of_le_of_lt (Nat.div_le_self _ _) hn
      have HBB : Hid (bigL (n / 256 ^ (long - (k + 1))) (k + 1) = bigL (n / 256 ^ (long - k)) k ++ [UInt8.ofNat (n / 256 ^ m)]) := by
        show _ = _
        rw [show long - (k + 1) = m by omega, bigL, div256, show long - k = m + 1 by omega]
      generalize bigL (n / 256 ^ (long - k)) k = acc at hown HBB
      generalize n / 256 ^ m = q at hsh hq HBB
      have HM : Hid (long = m + k + 1) := hm
      clear hm
      go_wp2_with (at_builtin; (refine wpList_append_own _ rfl _ _ 36 rfl w.heap.size 5 i0 (.int .u8 0) 1 1 Try.underlying36 hi hz0 hz1 hz2 rfl (by decide) _ _ _ rfl (hown.alloc _) ⟨wr.heap.size, 0, none⟩ 1 1 [_] rfl rfl (cell_one_new _ _ _) ?c2 ?c3 ?c4 ?c5 ?_))
      case c2 => intro u hu; simp at hu; subst hu; rfl
      case c3 => unfold maxLen; omega
      case c4 => omega
      case c5 => simp; omega
      intro v' w1 hown' hgrow _
      have hb2 : Below w.heap.size w w1 := (hb.alloc (by omega) _).grown hgrow (by simp; omega) (fun k hk => (hown.lt k hk).1)
      have HO : Hid (w1.ownsRow w.heap.size 5 1 v' (k + 1) (Lib.byteCells (bigL (n / 256 ^ (long - (k + 1))) (k + 1)))) := by
        show World.ownsRow _ _ _ _ _ _ _
        rw [HBB.out, ← byteCells_snoc]
        exact hown'
      have H1 : Hid (Below w.heap.size w w1) := hb2
      clear hown' hb2 hgrow hown hb
      go_wp2_with fail
      go_roundw
      case rel =>
        have e1 : Value.int IntKind.i64 ((m : Int) - 1) = Value.int IntKind.i64 ((long : Int) - 1 - ((k + 1 : Nat) : Int)) := by
          have := HM.out
          congr 1; omega
        first
          | exact ⟨k + 1, by omega, e1, HO.out, H1.out⟩
          | (repeat apply Exists.intro
             exact ⟨⟨k + 1, by omega, e1, HO.out, H1.out⟩, rfl⟩)
      case measure => simp [bigIntOf]
    · obtain rfl : k = long := by omega
      have hix : (k : Int) - 1 - (k : Int) = -1 := by omega
      rw [hix]
      have e : n / 256 ^ (k - k) = n := by rw [Nat.sub_self, Nat.pow_zero, Nat.div_one]
      rw [e] at hown
      have hcv := conv_bytes (l := bigL n k) (by rw [bigL_len]; exact hown)
      go_wp2_with fail
      go_ret
      exact ⟨rfl, hb⟩
end Go.Proofs.Ytbkjcngehhdchaa
