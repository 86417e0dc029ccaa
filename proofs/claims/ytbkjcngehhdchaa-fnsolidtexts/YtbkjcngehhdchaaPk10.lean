/-
  Several texts of this seat as one: ChC, AppF, NoteC.
-/
import Derived.Test.YtbkjcngehhdchaaPk07
import Derived.Test.YtbkjcngehhdchaaPk09
import Derived.Test.YtbkjcngehhdchaaRows
import Derived.ArgAppend
import Derived.Laws.AppendOwn
import Derived.WalkKit
import Derived.Test.YtbkjcngehhdchaaPk06
import Derived.Below

/-!   Lists of choices in memory that are one's own; the choices of tokens, as plain mathematics. -/
namespace Go.Proofs.Ytbkjcngehhdchaa
open Go.RowKit
set_option linter.unusedVariables false
def cC (L : List (Nat × Nat)) : List Value := L.flatMap fun c => [.int .i64 (c.1 : Int), .int .i64 (c.2 : Int)]
theorem cC_snoc (L : List (Nat × Nat)) (x b : Nat) : cC (L ++ [(x, b)]) = cC L ++ [.int .i64 (x : Int), .int .i64 (b : Int)] := by simp [cC]
theorem cC_len (L : List (Nat × Nat)) : (cC L).length = L.length * 2 := by
  induction L with
  | nil => rfl
  | cons t r ih => simp only [cC, List.flatMap_cons, List.length_append, List.length_cons, List.length_nil] at ih ⊢; omega
theorem cC_at (L : List (Nat × Nat)) (i : Nat) (h : i < L.length) : (cC L)[2 * i]? = some (.int .i64 (L[i].1 : Int)) ∧ (cC L)[2 * i + 1]? = some (.int .i64 (L[i].2 : Int)) := by
  induction L generalizing i with
  | nil => simp at h
  | cons c L ih =>
    have e : cC (c :: L) = .int .i64 (c.1 : Int) :: .int .i64 (c.2 : Int) :: cC L := by simp [cC]
    rw [e]
    cases i with
    | zero => exact ⟨rfl, rfl⟩
    | succ i =>
      have h2 := ih i (by simpa using h)
      have e1 : 2 * (i + 1) = 2 * i + 1 + 1 := by omega
      rw [e1]
      simpa using h2
/-- the choices of a number in a tree -/
def treeL (f v : Nat) : Nat → Nat → List (Nat × Nat)
  | 0, _ => []
  | k + 1, nd => (f + nd, v / 2 ^ k % 2) :: treeL f v k (2 * nd + v / 2 ^ k % 2)
/-- where a tree ends -/
def treeN (v : Nat) : Nat → Nat → Nat
  | 0, nd => nd
  | k + 1, nd => treeN v k (2 * nd + v / 2 ^ k % 2)
def tokCh (a : Nat) (t : TkN) : List (Nat × Nat) :=
  (a, t.k) :: if t.k = 0 then treeL 1 t.b 8 1 else treeL 260 (t.l - 3) 6 1 ++ treeL 330 ((t.d - 1) / 64) 6 1 ++ treeL 400 ((t.d - 1) % 64) 6 1
/-- of the first tokens: their choices, and the kind of the last one -/
def choUp (F : Nat → TkN) : Nat → List (Nat × Nat) × Nat
  | 0 => ([], 0)
  | i + 1 => ((choUp F i).1 ++ tokCh (choUp F i).2 (F i), (F i).k)
/-- a token that may stand -/
def TkOk (t : TkN) : Prop := (t.k = 0 ∧ t.b < 256) ∨ (t.k = 1 ∧ 1 ≤ t.d ∧ t.d ≤ 4096 ∧ 3 ≤ t.l ∧ t.l ≤ 66)
theorem treeL_len (f v : Nat) : ∀ k nd, (treeL f v k nd).length = k
  | 0, _ => rfl
  | k + 1, nd => by simp [treeL, treeL_len f v k]
theorem treeL_ok (f v : Nat) : ∀ k nd m, nd < 2 ^ m → (k = 0 ∨ f + 2 ^ (m + k - 1) ≤ 512) → ∀ c ∈ treeL f v k nd, c.1 < 512 ∧ (c.2 = 0 ∨ c.2 = 1)
  | 0, _, _, _, _ => fun c hc => by simp [treeL] at hc
  | k + 1, nd, m, h1, h2 => fun c hc => by
    have h3 : f + 2 ^ (m + k) ≤ 512 := by rcases h2 with h2 | h2; omega; exact h2
    have hp : 2 ^ m ≤ 2 ^ (m + k) := Nat.pow_le_pow_right (by omega) (by omega)
    rcases List.mem_cons.1 hc with rfl | hc
    · exact ⟨by show f + nd < 512; omega, by show v / 2 ^ k % 2 = 0 ∨ v / 2 ^ k % 2 = 1; omega⟩
    · exact treeL_ok f v k _ (m + 1) (by rw [Nat.pow_succ]; omega) (by rw [show m + 1 + k - 1 = m + k by omega]; exact Or.inr h3) c hc
theorem tokCh_ok {a : Nat} {t : TkN} (ha : a < 512) (h : TkOk t) : ∀ c ∈ tokCh a t, c.1 < 512 ∧ (c.2 = 0 ∨ c.2 = 1) := by
  intro c hc
  unfold tokCh at hc
  rcases List.mem_cons.1 hc with rfl | hc
  · exact ⟨ha, by rcases h with h | h; exact Or.inl h.1; exact Or.inr h.1⟩
  · split at hc
    · exact treeL_ok 1 _ 8 1 1 (by omega) (Or.inr (by decide)) c hc
    · rcases List.mem_append.1 hc with hc | hc
      · rcases List.mem_append.1 hc with hc | hc
        · exact treeL_ok 260 _ 6 1 1 (by omega) (Or.inr (by decide)) c hc
        · exact treeL_ok 330 _ 6 1 1 (by omega) (Or.inr (by decide)) c hc
      · exact treeL_ok 400 _ 6 1 1 (by omega) (Or.inr (by decide)) c hc
theorem tokCh_len (a : Nat) (t : TkN) : (tokCh a t).length = if t.k = 0 then 9 else 19 := by
  unfold tokCh
  split
  · simp [treeL_len]
  · simp [treeL_len]
theorem choUp_kind (F : Nat → TkN) (n : Nat) (h : ∀ i, i < n → TkOk (F i)) : ∀ i, i ≤ n → (choUp F i).2 ≤ 1
  | 0, _ => Nat.zero_le _
  | i + 1, hi => by
    show (F i).k ≤ 1
    rcases h i (by omega) with h | h <;> omega
theorem choUp_ok (F : Nat → TkN) (n : Nat) (h : ∀ i, i < n → TkOk (F i)) : ∀ i, i ≤ n → ∀ c ∈ (choUp F i).1, c.1 < 512 ∧ (c.2 = 0 ∨ c.2 = 1)
  | 0, _ => fun c hc => by cases hc
  | i + 1, hi => fun c hc => by
    rcases List.mem_append.1 hc with hc | hc
    · exact choUp_ok F n h i (by omega) c hc
    · exact tokCh_ok (by have := choUp_kind F n h i (by omega); omega) (h i (by omega)) c hc
end Go.Proofs.Ytbkjcngehhdchaa

/-!   An append where it is told besides that the row stays where it was, or lies behind all that was there. -/
namespace Go.Proofs.Ytbkjcngehhdchaa
open Go.RowKit
set_option linter.unusedVariables false
theorem owns_lower {w : World} {B C : Nat} {e : TypeId} {size n : Nat} {v : Value} {xs : List Value} (h : w.ownsRow B e size v n xs) (hc : C ≤ B) : w.ownsRow C e size v n xs := by
  obtain ⟨h0, h1 | ⟨g, cap, cur, h1, h2, h3⟩⟩ := h
  · exact ⟨h0, Or.inl h1⟩
  · exact ⟨h0, Or.inr ⟨g, cap, cur, h1, Nat.le_trans hc h2, h3⟩⟩
theorem grown_any {w w' : World} (h : w.grownBy w' none) (r : Option Nat) : w.grownBy w' r := ⟨h.os, h.tape, h.output, h.size, fun k hk _ => h.block k hk (by simp)⟩
theorem run_append_fr {P : Program} (w : World) (base : Nat) (t ty e : TypeId) (i : TypeInfo) (z : Value) (size bytes : Nat) (ht : P.underlying t = some (.slice e)) (hi : P.info? e = some i) (hz : i.zero = some z)
    (hsize : i.size = size) (hby : i.bytes = bytes) (hzs : z.cells.size = size) (hsz : 0 < size) (gv cap n : Nat) (xs : List Value) (hown : w.ownsRow base e size (.slice (some ⟨gv, 0, none⟩) n cap) n xs)
    (a : Addr) (m c : Nat) (news : List Value) (hl : news.length = m * size) (hnews : ∀ j u, news[j]? = some u → w.cell? (a.add j) = some u) (h1 : ∀ u ∈ news, u.oneCell' = true)
    (h63 : n + m ≤ maxLen) (hbytes : (n + m) * bytes ≤ 140737488355328) (hbase : base ≤ w.heap.size) :
    ∃ g' c' w', (Builtin.append_ #[t, t] ty #[.slice (some ⟨gv, 0, none⟩) n cap, .slice (some a) m c]).run P w = .ok (.slice (some ⟨g', 0, none⟩) (n + m) c') w' ∧ w'.ownsRow base e size (.slice (some ⟨g', 0, none⟩) (n + m) c') (n + m) (xs ++ news) ∧ w.grownBy w' (some gv) ∧ (g' = gv ∨ w.heap.size ≤ g') := by
  have hown0 := hown
  obtain ⟨h0, ⟨h2, _⟩ | ⟨g, cp, cur, h2, h3, h4, h5, h6, h7, h8⟩⟩ := hown
  · cases h2
  · cases h2
    by_cases hroom : n + m ≤ cap
    · obtain ⟨v', w', hr, o1, o2, o3⟩ := run_append_own (P := P) w base t ty e i z size bytes ht hi hz hsize hby hzs hsz _ n xs hown0 a m c news hl hnews h1 h63 hbytes hbase
      have hfit : n * i.size + news.length ≤ cur.size := by rw [hl, h7, hsize, ← Nat.add_mul]; exact Nat.mul_le_mul_right _ hroom
      have hr2 := run_append_room (P := P) w t ty e i ht hi gv n cap cur h4 a m c news (by rw [hl, hsize]) hnews h1 hroom hfit
      rw [hr2] at hr
      injection hr with e1 e2
      subst e1
      exact ⟨gv, cap, w', by rw [hr2, e2], o1, o2, Or.inl rfl⟩
    · have holds : ∀ j u, xs[j]? = some u → w.cell? ((⟨gv, 0, none⟩ : Addr).add j) = some u := hown0.cells (g := gv) rfl
      obtain ⟨v', w', hr, o1, o2⟩ := run_append_arg_grows (P := P) w t ty e i z size bytes ht hi hz hsize hby hzs hsz ⟨gv, 0, none⟩ n cap xs h0 holds a m c news hl hnews (by omega) h63 hbytes
      obtain ⟨q0, ⟨q1, q2⟩ | ⟨g', c', cur', q1, q2, q3⟩⟩ := o1
      · omega
      · subst q1
        exact ⟨g', c', w', hr, ⟨q0, Or.inr ⟨g', c', cur', rfl, Nat.le_trans hbase q2, q3⟩⟩, grown_any o2 _, Or.inr q2⟩
theorem wpList_append_fr {P : Program} (w : World) {ops : Array Oper} {rest : List Oper} {o : Oper} {a : Act} {Q : Exit → Act → World → Prop} (hgd : o.guard = none) (s x : Operand) (t : TypeId)
    (ho : o.op = .call { callee := .builtin .append, args := #[s, x], argTypes := #[t, t] })
    (base : Nat) (e : TypeId) (i : TypeInfo) (z : Value) (size bytes : Nat) (ht : P.underlying t = some (.slice e)) (hi : P.info? e = some i) (hz : i.zero = some z)
    (hsize : i.size = size) (hby : i.bytes = bytes) (hzs : z.cells.size = size) (hsz : 0 < size)
    (gv cap n : Nat) (xs : List Value) (hs : a.eval s = .slice (some ⟨gv, 0, none⟩) n cap) (hown : w.ownsRow base e size (.slice (some ⟨gv, 0, none⟩) n cap) n xs)
    (ad : Addr) (m c : Nat) (news : List Value) (hx : a.eval x = .slice (some ad) m c) (hl : news.length = m * size) (hnews : ∀ j u, news[j]? = some u → w.cell? (ad.add j) = some u) (h1 : ∀ u ∈ news, u.oneCell' = true)
    (h63 : n + m ≤ maxLen) (hbytes : (n + m) * bytes ≤ 140737488355328) (hbase : base ≤ w.heap.size)
    (h : ∀ g' c' w', w'.ownsRow base e size (.slice (some ⟨g', 0, none⟩) (n + m) c') (n + m) (xs ++ news) → w.grownBy w' (some gv) → (g' = gv ∨ w.heap.size ≤ g') → wpList P ops Q rest (a.put o.dst (.slice (some ⟨g', 0, none⟩) (n + m) c')) w') : wpList P ops Q (o :: rest) a w :=
  wpList_plain hgd fun _ hK => by
    obtain ⟨g', c', w', hr, h2, h3, h4⟩ := run_append_fr (P := P) w base t o.type e i z size bytes ht hi hz hsize hby hzs hsz gv cap n xs hown ad m c news hl hnews h1 h63 hbytes hbase
    unfold Oper.wp execOp
    simp only [ho, resolve, invoke, builtin, Sem.run_bind, Sem.run_pure, Result.andThen_ok, List.map_toArray, List.map_cons, List.map_nil, hs, hx, hr]
    exact hK _ _ (h g' c' w' h2 h3 h4)
end Go.Proofs.Ytbkjcngehhdchaa

/-!   What a closure that is handed on may turn; an append at a list that may be nil; the closure that notes a choice. -/
namespace Go.Proofs.Ytbkjcngehhdchaa
open Go.RowKit
set_option linter.unusedVariables false
set_option linter.unusedSimpArgs false
/-- all but the blocks D lies as it lay, and what is turned next is one of these or new -/
structure Kpt (D : Nat → Prop) (w : World) (D' : Nat → Prop) (w' : World) : Prop where
  os : w'.os = w.os
  tape : w'.tape = w.tape
  output : w'.output = w.output
  size : w.heap.size ≤ w'.heap.size
  block : ∀ k, k < w.heap.size → ¬ D k → w'.heap[k]? = w.heap[k]?
  sub : ∀ k, D' k → D k ∨ w.heap.size ≤ k
theorem Kpt.refl (D : Nat → Prop) (w : World) : Kpt D w D w := ⟨rfl, rfl, rfl, Nat.le_refl _, fun _ _ _ => rfl, fun _ h => Or.inl h⟩
theorem Kpt.trans {D D' D'' : Nat → Prop} {w w' w'' : World} (h : Kpt D w D' w') (k : Kpt D' w' D'' w'') : Kpt D w D'' w'' :=
  ⟨k.os.trans h.os, k.tape.trans h.tape, k.output.trans h.output, Nat.le_trans h.size k.size, fun i hi hn => (k.block i (Nat.lt_of_lt_of_le hi h.size) (fun c => by rcases h.sub i c with c | c; exact hn c; omega)).trans (h.block i hi hn),
    fun i hi => by rcases k.sub i hi with c | c; exact h.sub i c; exact Or.inr (Nat.le_trans h.size c)⟩
theorem Kpt.below {D : Nat → Prop} {w w' : World} (h : Below w.heap.size w w') : Kpt D w D w' := ⟨h.os, h.tape, h.output, h.size, fun k hk _ => h.block k hk, fun _ h => Or.inl h⟩
theorem Kpt.toBelow {D D' : Nat → Prop} {w w' : World} {B : Nat} (h : Kpt D w D' w') (hB : B ≤ w.heap.size) (hD : ∀ k, D k → B ≤ k) : Below B w w' :=
  ⟨h.os, h.tape, h.output, h.size, fun k hk => h.block k (by omega) (fun c => by have := hD k c; omega)⟩
theorem Kpt.out {D D' : Nat → Prop} {w w' : World} {k : Nat} (h : Kpt D w D' w') (hk : k < w.heap.size) (hn : ¬ D k) : ¬ D' k := fun c => by rcases h.sub k c with c | c; exact hn c; omega
theorem Kpt.setNew {D D' : Nat → Prop} {w w' : World} {b t : Nat} {v : Value} (h : Kpt D w D' w') (hb : w.heap.size ≤ b) : Kpt D w D' (w'.setCell ⟨b, t, none⟩ v) :=
  ⟨h.os, h.tape, h.output, by simpa using h.size, fun k hk hn => (heap_setCell_other _ _ _ _ (by show k ≠ b; omega)).trans (h.block k hk hn), h.sub⟩
theorem owns_row_of {w w' : World} {B n : Nat} {e : TypeId} {z : Nat} {v : Value} {xs : List Value} (h : w.ownsRow B e z v n xs) (hk : ∀ k, v.ownBlock = some k → w'.heap[k]? = w.heap[k]?) : w'.ownsRow B e z v n xs := by
  obtain ⟨h0, h1 | ⟨g, cap, cur, h1, h2, h3, h4⟩⟩ := h
  · exact ⟨h0, Or.inl h1⟩
  · exact ⟨h0, Or.inr ⟨g, cap, cur, h1, h2, (hk g (by rw [h1]; rfl)).trans h3, h4⟩⟩
theorem run_append_fr2 {P : Program} (w : World) (base : Nat) (t ty e : TypeId) (i : TypeInfo) (z : Value) (size bytes : Nat) (ht : P.underlying t = some (.slice e)) (hi : P.info? e = some i) (hz : i.zero = some z)
    (hsize : i.size = size) (hby : i.bytes = bytes) (hzs : z.cells.size = size) (hsz : 0 < size) (v : Value) (n : Nat) (xs : List Value) (hown : w.ownsRow base e size v n xs)
    (a : Addr) (m c : Nat) (news : List Value) (hl : news.length = m * size) (hnews : ∀ j u, news[j]? = some u → w.cell? (a.add j) = some u) (h1 : ∀ u ∈ news, u.oneCell' = true)
    (h63 : n + m ≤ maxLen) (hbytes : (n + m) * bytes ≤ 140737488355328) (hbase : base ≤ w.heap.size) :
    ∃ v' w', (Builtin.append_ #[t, t] ty #[v, .slice (some a) m c]).run P w = .ok v' w' ∧ w'.ownsRow base e size v' (n + m) (xs ++ news) ∧ w.grownBy w' v.ownBlock ∧ (∀ k, v'.ownBlock = some k → v.ownBlock = some k ∨ w.heap.size ≤ k) := by
  have hown0 := hown
  obtain ⟨h0, ⟨h2, h3⟩ | ⟨g, cp, cur, h2, h3, h4, h5, h6, h7, h8⟩⟩ := hown
  · subst h2
    subst h3
    obtain rfl : xs = [] := List.eq_nil_of_length_eq_zero (by simpa using h0)
    obtain ⟨v', w', hr, o1, o2, _⟩ := run_append_own (P := P) w w.heap.size t ty e i z size bytes ht hi hz hsize hby hzs hsz _ 0 [] (World.ownsRow_nil w w.heap.size e size) a m c news hl hnews h1 h63 hbytes (Nat.le_refl _)
    exact ⟨v', w', hr, owns_lower o1 hbase, o2, fun k hk => Or.inr (o1.lt k hk).1⟩
  · subst h2
    obtain ⟨g', c', w', hr, o1, o2, o3⟩ := run_append_fr (P := P) w base t ty e i z size bytes ht hi hz hsize hby hzs hsz g cp n xs hown0 a m c news hl hnews h1 h63 hbytes hbase
    refine ⟨_, w', hr, o1, o2, fun k hk => ?_⟩
    have hk : g' = k := Option.some.inj hk
    subst hk
    rcases o3 with h | h
    · exact Or.inl (by rw [h]; rfl)
    · exact Or.inr h
theorem wpList_append_fr2 {P : Program} (w : World) {ops : Array Oper} {rest : List Oper} {o : Oper} {a : Act} {Q : Exit → Act → World → Prop} (hgd : o.guard = none) (s x : Operand) (t : TypeId)
    (ho : o.op = .call { callee := .builtin .append, args := #[s, x], argTypes := #[t, t] })
    (base : Nat) (e : TypeId) (i : TypeInfo) (z : Value) (size bytes : Nat) (ht : P.underlying t = some (.slice e)) (hi : P.info? e = some i) (hz : i.zero = some z)
    (hsize : i.size = size) (hby : i.bytes = bytes) (hzs : z.cells.size = size) (hsz : 0 < size)
    (v : Value) (n : Nat) (xs : List Value) (hs : a.eval s = v) (hown : w.ownsRow base e size v n xs)
    (ad : Addr) (m c : Nat) (news : List Value) (hx : a.eval x = .slice (some ad) m c) (hl : news.length = m * size) (hnews : ∀ j u, news[j]? = some u → w.cell? (ad.add j) = some u) (h1 : ∀ u ∈ news, u.oneCell' = true)
    (h63 : n + m ≤ maxLen) (hbytes : (n + m) * bytes ≤ 140737488355328) (hbase : base ≤ w.heap.size)
    (h : ∀ v' w', w'.ownsRow base e size v' (n + m) (xs ++ news) → w.grownBy w' v.ownBlock → (∀ k, v'.ownBlock = some k → v.ownBlock = some k ∨ w.heap.size ≤ k) → wpList P ops Q rest (a.put o.dst v') w') : wpList P ops Q (o :: rest) a w :=
  wpList_plain hgd fun _ hK => by
    obtain ⟨v', w', hr, h2, h3, h4⟩ := run_append_fr2 (P := P) w base t o.type e i z size bytes ht hi hz hsize hby hzs hsz v n xs hown ad m c news hl hnews h1 h63 hbytes hbase
    unfold Oper.wp execOp
    simp only [ho, resolve, invoke, builtin, Sem.run_bind, Sem.run_pure, Result.andThen_ok, List.map_toArray, List.map_cons, List.map_nil, hs, hx, hr]
    exact hK _ _ (h v' w' h2 h3 h4)
theorem Try.infCho : (Try.prog.info? 108).map (fun i => (i.zero, i.size, i.bytes)) = some (some (.agg #[.int .i64 0, .int .i64 0]), 2, 16) := by kernel_rfl
/-- the noted choices, in the variable at block bx -/
def NS (B bx : Nat) (w : World) (L : List (Nat × Nat)) (D : Nat → Prop) : Prop := ∃ v, w.heap[bx]? = some (.cells #[v] 78 (0, 0)) ∧ w.ownsRow B 108 2 v L.length (cC L) ∧ B ≤ bx ∧ D = (fun k => k = bx ∨ v.ownBlock = some k)
theorem NS.stay {B bx : Nat} {w w' : World} {L : List (Nat × Nat)} {D : Nat → Prop} (h : NS B bx w L D) (hk : ∀ k, D k → w'.heap[k]? = w.heap[k]?) : NS B bx w' L D := by
  obtain ⟨v, h1, h2, h3, rfl⟩ := h
  exact ⟨v, (hk bx (Or.inl rfl)).trans h1, owns_row_of h2 (fun k h => hk k (Or.inr h)), h3, rfl⟩
theorem NS.lt {B bx : Nat} {w : World} {L : List (Nat × Nat)} {D : Nat → Prop} (h : NS B bx w L D) : ∀ k, D k → B ≤ k ∧ k < w.heap.size := by
  obtain ⟨v, h1, h2, h3, rfl⟩ := h
  intro k hk
  rcases hk with rfl | hk
  · exact ⟨h3, (Array.getElem?_eq_some_iff.1 h1).1⟩
  · exact h2.lt k hk
set_option maxRecDepth 100000 in
set_option maxHeartbeats 1000000 in
theorem note_any (B bx : Nat) (w : World) (L : List (Nat × Nat)) (D : Nat → Prop) (c t : Nat) (h : NS B bx w L D) (hL : L.length ≤ 100000) (hBw : B ≤ w.heap.size) :
    Calls Try.prog 78 #[.int .i64 (c : Int), .int .i64 (t : Int), .pointer (some ⟨bx, 0, none⟩)] w fun e w' => e = .returned (.int .i64 (t : Int)) ∧ ∃ D', NS B bx w' (L ++ [(c, t)]) D' ∧ Kpt D w D' w' := by
  obtain ⟨i0, hi0, hz0, hz1, hz2⟩ := info_parts Try.infCho
  obtain ⟨v, h1, h2, h3, hD⟩ := h
  have x0 : w.cell? ⟨bx, 0, none⟩ = some v := cell_of_row _ _ _ _ _ _ h1
  have hbl := (Array.getElem?_eq_some_iff.1 h1).1
  have hne : some bx ≠ v.ownBlock := by
    obtain ⟨_, ⟨h0, _⟩ | ⟨g, cap, cur, h0, _, h5, _⟩⟩ := h2
    · rw [h0]; intro c; cases c
    · rw [h0]; intro c
      have c : bx = g := Option.some.inj c
      subst c
      rw [h5] at h1
      cases h1
  have HN : Hid (some bx ≠ v.ownBlock) := hne
  have HR : Hid (w.heap[bx]? = some (.cells #[v] 78 (0, 0))) := h1
  have HO : Hid (w.ownsRow B 108 2 v L.length (cC L)) := h2
  have HSN : Hid (cC (L ++ [(c, t)]) = cC L ++ [.int .i64 (c : Int), .int .i64 (t : Int)]) := cC_snoc _ _ _
  have HBL : Hid (bx < w.heap.size ∧ B ≤ bx) := ⟨hbl, h3⟩
  have HD : Hid (D = fun k => k = bx ∨ v.ownBlock = some k) := hD
  clear h1 h2 h3 hne hbl hD
  go_enter Try.func78, Try.ntmps78
  go_wp2_with (at_builtin; refine wpList_append_fr2 _ rfl _ _ 78 rfl B 108 i0 (.agg #[.int .i64 0, .int .i64 0]) 2 16 Try.underlying78 hi0 hz0 hz1 hz2 rfl (by decide) v L.length _ rfl (HO.out.alloc _) ⟨w.heap.size, 0, none⟩ 1 1 [_, _] rfl rfl cell_two ?c2 ?c3 ?c4 ?c5 ?_)
  case c2 => first | exact ⟨rfl, rfl⟩ | (intro u hu; simp at hu; rcases hu with rfl | rfl <;> rfl)
  case c3 => unfold maxLen; omega
  case c4 => omega
  case c5 => first | omega | (simp; omega)
  intro v' w3 ho hg hf
  have hr3 : w3.heap[bx]? = some (.cells #[v] 78 (0, 0)) := (hg.block bx (by simp; have := HBL.out.1; omega) HN.out).trans ((Below.heap_alloc _ _ _ HBL.out.1).trans HR.out)
  have y0 : w3.cell? ⟨bx, 0, none⟩ = some v := cell_of_row _ _ _ _ _ _ hr3
  have z0 := frozen_of_row w3 bx 0 _ _ hr3
  have hsz := hg.size
  have HF : Hid (∃ D', NS B bx (w3.setCell ⟨bx, 0, none⟩ v') (L ++ [(c, t)]) D' ∧ Kpt D w D' (w3.setCell ⟨bx, 0, none⟩ v')) := by
    have hsz' : w.heap.size + 1 ≤ w3.heap.size := by simpa using hsz
    have hf' : ∀ k, v'.ownBlock = some k → v.ownBlock = some k ∨ w.heap.size + 1 ≤ k := fun k hk => by
      rcases hf k hk with h | h
      · exact Or.inl h
      · exact Or.inr (by simpa using h)
    have hnb : ∀ k, v'.ownBlock = some k → k ≠ bx := fun k hk e => by
      subst e
      rcases hf' _ hk with h | h
      · exact HN.out h.symm
      · have := HBL.out.1; omega
    refine ⟨fun k => k = bx ∨ v'.ownBlock = some k, ⟨v', heap_setCell_same _ _ _ _ _ _ hr3, ?_, HBL.out.2, rfl⟩, ⟨hg.os, hg.tape, hg.output, by simpa using (by omega : w.heap.size ≤ w3.heap.size), fun k hk hn => ?_, fun k hk => ?_⟩⟩
    · refine owns_row_of (w := w3) ?_ (fun k hk => heap_setCell_other _ _ _ _ (hnb k hk))
      rw [HSN.out, List.length_append]; exact ho
    · rw [HD.out] at hn
      have hn1 : k ≠ bx := fun e => hn (Or.inl e)
      have hn2 : some k ≠ v.ownBlock := fun e => hn (Or.inr e.symm)
      rw [heap_setCell_other _ _ _ _ hn1]
      exact (hg.block k (by simp; omega) hn2).trans (Below.heap_alloc _ _ _ hk)
    · rw [HD.out]
      rcases hk with h | h
      · exact Or.inl (Or.inl h)
      · rcases hf' k h with h | h
        · exact Or.inl (Or.inr h)
        · exact Or.inr (by omega)
  obtain ⟨gq, cq, hvq⟩ : ∃ gq cq, v' = .slice (some ⟨gq, 0, none⟩) (L.length + 1) cq := by
    obtain ⟨_, ⟨_, h0⟩ | ⟨g, cap, cur, h0, _⟩⟩ := ho
    · omega
    · exact ⟨g, cap, h0⟩
  subst hvq
  clear ho hg hf hr3 hsz
  go_wp2_with fail
  go_ret
  exact ⟨rfl, HF.out⟩
end Go.Proofs.Ytbkjcngehhdchaa
